/- All cycles of a permutation, of the program and of the model. Condition: the list is a permutation. -/
import Derived.Test.YtplgdbkolklgnaaDoorCyc
namespace Go.Proofs.YtplgdbkolklgnaaDoor
open Go.RowKit

/-- The smallest points of the cycles, as far as k. -/
def heads (p : List Int) (k : Nat) : List Nat := (List.range k).filter (st p)
theorem heads_yes {p : List Int} {k : Nat} (h : st p k = true) : heads p (k + 1) = heads p k ++ [k] := by simp [heads, List.range_succ, List.filter_append, h]
theorem heads_no {p : List Int} {k : Nat} (h : st p k = false) : heads p (k + 1) = heads p k := by simp [heads, List.range_succ, List.filter_append, h]
theorem cycs_heads (p : List Int) : cycs p = (heads p p.length).map (cyc p) := rfl
theorem heads_le (p : List Int) (k : Nat) : (heads p k).length ≤ k := Nat.le_trans (List.length_filter_le _ _) (by simp)
theorem pts_heads (p : List Int) (k : Nat) : ptsL (st p) k = (heads p k).map Int.ofNat := rfl
theorem heads_lt {p : List Int} {n k x : Nat} (hk : k < (heads p n).length) (e : (heads p n).getD k 0 = x) : x < n := by
  have : x ∈ heads p n := by rw [← e, List.getD_eq_getElem?_getD, List.getElem?_eq_getElem hk]; exact List.getElem_mem hk
  exact List.mem_range.1 (List.mem_filter.1 this).1

set_option maxHeartbeats 800000 in
/-- allCycles. -/
theorem implAll (A : Option Addr) (c n : Nat) (p : List Int) (w : World) (hp : RI w w.heap.size A p) (lp : Hid (p.length = n)) (ip : Hid (IsP p)) (hn : n ≤ 20) :
    Calls Tryd.prog 48 #[.slice A n c] w fun e w' => ∃ A' m c' vs, e = .returned (.slice A' m c') ∧ SS w' w.heap.size w.heap.size A' m c' vs (cycs p) ∧ m ≤ n ∧ Below w.heap.size w w' := by
  have hmf : ∀ (fn : Fn) (first cap : Array Value) (w : World), (Instr.makeFunc fn first cap).run Tryd.prog w = .ok (.func fn first cap) w := fun _ _ _ _ => rfl
  go_enter Tryd.func48, Tryd.ntmps48
  go_wp2_with fail
  refine (pwStarts A c n p w hp lp ip hn).mono ?_
  rintro e w1 ⟨A1, m, c1, rfl, s1, hm, b1⟩
  have S1 := Lib.hid s1
  have B1 := Lib.hid b1
  have lm : Hid ((heads p n).length = m) := Lib.hid (by rw [← s1.1, pts_heads, List.length_map])
  clear s1 b1
  go_wp2_with fail
  go_loopw [3, 5, 12] (fun v _ i wr => ∃ k A' c' vs, k ≤ m ∧ i = .int .i64 (k : Nat) ∧ v = .slice A' k c' ∧ SS wr w1.heap.size w1.heap.size A' k c' vs (((heads p n).take k).map (cyc p)) ∧ Below w1.heap.size w1 wr) (fun _ _ i _ => m - (intOf i).toNat)
  case atStart => exact ⟨0, _, _, _, Nat.zero_le _, rfl, rfl, SS.nil_, Below.refl _ _⟩
  case round =>
    obtain ⟨k, A', c', vs, hk, rfl, rfl, ss, bel⟩ := hrel
    have Ss := Lib.hid ss
    have Bel := Lib.hid bel
    have Bw : Hid (Below w.heap.size w wr) := Lib.hid (btr B1.out bel)
    clear ss bel
    by_cases hlt : k < m
    · obtain ⟨x, ex⟩ : ∃ x, (heads p n).getD k 0 = x := ⟨_, rfl⟩
      have hx : x < n := heads_lt (by rw [lm.out]; exact hlt) ex
      have R1 := S1.out.ri_.below Bel.out (Nat.le_refl _)
      obtain ⟨b, off, rfl, hb, hc⟩ := R1 (by rw [S1.out.1]; omega)
      have c0 := hc k (by rw [S1.out.1]; exact hlt)
      have ev : (ptsL (st p) n).getD k 0 = (x : Int) := by
        rw [pts_heads, List.getD_eq_getElem?_getD, List.getElem?_map, ← ex, List.getD_eq_getElem?_getD, List.getElem?_eq_getElem (by rw [lm.out]; exact hlt)]; rfl
      rw [ev] at c0
      have Ex := Lib.hid ex
      clear ex ev hc R1
      go_wp2_with fail
      refine (implCycleFrom A c n x p wr (hp.up Bw.out) lp ip hx hn).mono ?_
      rintro e w2 ⟨A2, m2, c2, rfl, s2, hm2, b2⟩
      have S2 := Lib.hid s2
      have B2 := Lib.hid b2
      have Bel2 : Hid (Below w1.heap.size w1 w2) := Lib.hid (btr Bel.out b2)
      have Ss2 := Lib.hid (Ss.out.up b2)
      have D2 := Lib.hid (lies_dis Ss.out s2.lies (Nat.le_refl _))
      clear s2 b2 c0
      go_wp2_with (first | (at_builtin; refine wpList_app2 rfl _ _ rfl rfl (Ss2.out.alloc _) w2.heap.size A2 m2 c2 _ rfl (by rw [World.cell?_alloc_at _ _ _ _ rfl]; rfl) ((S2.out.mono Bel.out.size).alloc _) D2.out (by omega) (by have := Bel2.out.size; simp; omega) ?_; intro A3 c3 w3 ss3 hg3))
      have Ss3 := Lib.hid ss3
      have Bel3 : Hid (Below w1.heap.size w1 w3) := Lib.hid ((Bel2.out.alloc Bel2.out.size _).grown hg3 (by have := Bel2.out.size; simp; omega) (fun j hj => (Ss.out.lt_ j hj).1))
      clear ss3 hg3
      go_wp2
      go_roundw
      case rel =>
        refine ⟨k + 1, A3, c3, vs ++ [(A2, m2, c2)], by omega, by go_num, rfl, ?_, Bel3.out⟩
        rw [List.take_succ_eq_append_getElem (by rw [lm.out]; exact hlt), List.map_append]
        have e2 : (heads p n)[k]'(by rw [lm.out]; exact hlt) = x := by rw [← Ex.out, List.getD_eq_getElem?_getD, List.getElem?_eq_getElem (by rw [lm.out]; exact hlt)]; rfl
        rw [e2]
        exact Ss3.out
      case measure => simp [intOf]; omega
    · have hkm : k = m := by omega
      subst hkm
      have Fin : Hid ((((heads p n).take k).map (cyc p)) = cycs p) := Lib.hid (by rw [List.take_of_length_le (by rw [lm.out]; exact Nat.le_refl _), cycs_heads, lp.out])
      go_wp2
      go_ret
      exact ⟨_, _, _, _, rfl, by rw [← Fin.out]; exact Ss.out.mono B1.out.size B1.out.size, hm, Bw.out⟩

set_option maxHeartbeats 800000 in
/-- The model's allCycles. -/
theorem specAll (A : Option Addr) (c n : Nat) (p : List Int) (w : World) (hp : RI w w.heap.size A p) (lp : Hid (p.length = n)) (ip : Hid (IsP p)) (hn : n ≤ 20) :
    Calls Tryd.prog 53 #[.slice A n c] w fun e w' => ∃ A' m c' vs, e = .returned (.slice A' m c') ∧ SS w' w.heap.size w.heap.size A' m c' vs (cycs p) ∧ m ≤ n ∧ Below w.heap.size w w' := by
  go_enter Tryd.func53, Tryd.ntmps53
  go_wp2
  go_loopw [3, 4, 5] (fun v i _ wr => ∃ k A' m c' vs, k ≤ n ∧ m ≤ k ∧ i = .int .i64 (k : Nat) ∧ v = .slice A' m c' ∧ SS wr w.heap.size w.heap.size A' m c' vs ((heads p k).map (cyc p)) ∧ Below w.heap.size w wr) (fun _ i _ _ => n - (intOf i).toNat)
  case atStart => exact ⟨0, _, _, _, _, Nat.zero_le _, Nat.le_refl _, rfl, rfl, SS.lit0 w _ _ (Nat.le_refl _), (Below.refl _ _).alloc (Nat.le_refl _) _⟩
  case round =>
    obtain ⟨k, A', m, c', vs, hk, hmk, rfl, rfl, ss, bel⟩ := hrel
    have Ss := Lib.hid ss
    have Bel := Lib.hid bel
    clear ss bel
    by_cases hlt : k < n
    · have Per := Lib.hid (per_spec ip.out (x := k) (by rw [lp.out]; exact hlt))
      have hp1 := Per.out.1
      have hp2 : per p k ≤ 20 := by have := Per.out.2.1; have := lp.out; omega
      rcases hst : st p k with _ | _
      · have Hst := Lib.hid hst
        clear hst
        go_wp2_with fail
        refine (specCycleOf A c n k p wr (hp.up Bel.out) lp ip hlt hn).mono ?_
        rintro e w2 ⟨A2, m2, c2, rfl, s2, hm2, b2⟩
        have S2 := Lib.hid s2
        have Bel2 : Hid (Below w.heap.size w w2) := Lib.hid (btr Bel.out b2)
        have Ss2 := Lib.hid (Ss.out.up b2)
        have lm2 : Hid (per p k = m2) := Lib.hid (by rw [← s2.1, cyc_length])
        have h1m2 : 1 ≤ m2 := by rw [← lm2.out]; exact hp1
        clear s2 b2
        go_wp2_with fail
        refine (specSmallest A2 c2 m2 k p w2 S2.out.ri_ lm2 h1m2 hm2 false Hst).mono ?_
        rintro e w3 ⟨rfl, b3⟩
        have Bel3 : Hid (Below w.heap.size w w3) := Lib.hid (btr Bel2.out b3)
        have Ss3 := Lib.hid (Ss2.out.up b3)
        clear b3
        go_wp2_with fail
        go_roundw
        case rel => exact ⟨k + 1, A', m, c', vs, by omega, by omega, by go_num, rfl, by rw [heads_no Hst.out]; exact Ss3.out, Bel3.out⟩
        case measure => simp [intOf]; omega
      · have Hst := Lib.hid hst
        clear hst
        go_wp2_with fail
        refine (specCycleOf A c n k p wr (hp.up Bel.out) lp ip hlt hn).mono ?_
        rintro e w2 ⟨A2, m2, c2, rfl, s2, hm2, b2⟩
        have S2 := Lib.hid s2
        have Bel2 : Hid (Below w.heap.size w w2) := Lib.hid (btr Bel.out b2)
        have Ss2 := Lib.hid (Ss.out.up b2)
        have D2 := Lib.hid (lies_dis Ss.out s2.lies (Nat.le_refl _))
        have lm2 : Hid (per p k = m2) := Lib.hid (by rw [← s2.1, cyc_length])
        have h1m2 : 1 ≤ m2 := by rw [← lm2.out]; exact hp1
        clear s2 b2
        go_wp2_with fail
        refine (specSmallest A2 c2 m2 k p w2 S2.out.ri_ lm2 h1m2 hm2 true Hst).mono ?_
        rintro e w3 ⟨rfl, b3⟩
        have Bel3 : Hid (Below w.heap.size w w3) := Lib.hid (btr Bel2.out b3)
        have Ss3 := Lib.hid (Ss2.out.up b3)
        have S3 := Lib.hid (S2.out.up b3)
        clear b3
        go_wp2_with (first | (at_builtin; refine wpList_app2 rfl _ _ rfl rfl (Ss3.out.alloc _) w3.heap.size A2 m2 c2 _ rfl (by rw [World.cell?_alloc_at _ _ _ _ rfl]; rfl) ((S3.out.mono Bel.out.size).alloc _) D2.out (by omega) (by have := Bel3.out.size; simp; omega) ?_; intro A4 c4 w4 ss4 hg4))
        have Ss4 := Lib.hid ss4
        have Bel4 : Hid (Below w.heap.size w w4) := Lib.hid ((Bel3.out.alloc Bel3.out.size _).grown hg4 (by have := Bel3.out.size; simp; omega) (fun j hj => (Ss.out.lt_ j hj).1))
        clear ss4 hg4
        go_wp2
        go_roundw
        case rel => exact ⟨k + 1, A4, m + 1, c4, _, by omega, by omega, by go_num, rfl, by rw [heads_yes Hst.out, List.map_append]; exact Ss4.out, Bel4.out⟩
        case measure => simp [intOf]; omega
    · have hkn : k = n := by omega
      subst hkn
      have Fin : Hid ((heads p k).map (cyc p) = cycs p) := Lib.hid (by rw [cycs_heads, lp.out])
      go_wp2
      go_ret
      exact ⟨_, _, _, _, rfl, by rw [← Fin.out]; exact Ss.out, hmk, Bel.out⟩
end Go.Proofs.YtplgdbkolklgnaaDoor
