/- All cycles of a permutation, of the program and of the model. Condition: the list is a permutation. -/
import Derived.Test.YtonanelghnjhpabCyc
namespace Go.Proofs.Ytonanelghnjhpab
open Go.RowKit

/-- The smallest points of the cycles, as far as k. -/
def heads (p : List Int) (k : Nat) : List Nat := (List.range k).filter (st p)
theorem heads_yes {p : List Int} {k : Nat} (h : st p k = true) : heads p (k + 1) = heads p k ++ [k] := by simp [heads, List.range_succ, List.filter_append, h]
theorem heads_no {p : List Int} {k : Nat} (h : st p k = false) : heads p (k + 1) = heads p k := by simp [heads, List.range_succ, List.filter_append, h]
theorem cycs_heads (p : List Int) : cycs p = (heads p p.length).map (cyc p) := rfl
theorem heads_le (p : List Int) (k : Nat) : (heads p k).length ≤ k := Nat.le_trans (List.length_filter_le _ _) (by simp)
theorem pts_heads (p : List Int) (k : Nat) : ptsL (st p) k = (heads p k).map Int.ofNat := rfl
theorem heads_lt {p : List Int} {n k x : Nat} (hk : k < (heads p n).length) (e : (heads p n).getD k 0 = x) : x < n := by
  have : x ∈ heads p n := by rw [← e, List.getD_eq_getElem?_getD, List.getElem?_eq_getElem hk]; exact List.getElem_mem hk
  exact List.mem_range.1 (List.mem_filter.1 this).1

set_option maxHeartbeats 800000 in
/-- allCycles. -/
theorem implAll (A : Option Addr) (c n : Nat) (p : List Int) (w : World) (hp : RI w w.heap.size A p) (lp : Hid (p.length = n)) (ip : Hid (IsP p)) (hn : n ≤ 20) :
    Calls Try.prog 28 #[.slice A n c] w fun e w' => ∃ A' m c' vs, e = .returned (.slice A' m c') ∧ SS w' w.heap.size w.heap.size A' m c' vs (cycs p) ∧ m ≤ n ∧ Below w.heap.size w w' := by
  have hmf : ∀ (fn : Fn) (first cap : Array Value) (w : World), (Instr.makeFunc fn first cap).run Try.prog w = .ok (.func fn first cap) w := fun _ _ _ _ => rfl
  go_enter Try.func28, Try.ntmps28
  go_wp2_with fail
  refine (pwStarts A c n p w hp lp ip hn).mono ?_
  rintro e w1 ⟨A1, m, c1, rfl, s1, hm, b1⟩
  have S1 := Lib.hid s1
  have B1 := Lib.hid b1
  have lm : Hid ((heads p n).length = m) := Lib.hid (by rw [← s1.1, pts_heads, List.length_map])
  clear s1 b1
  go_wp2_with fail
  go_loopw [3, 5, 12] (fun v _ i wr => ∃ k A' c' vs, k ≤ m ∧ i = .int .i64 (k : Nat) ∧ v = .slice A' k c' ∧ SS wr w1.heap.size w1.heap.size A' k c' vs (((heads p n).take k).map (cyc p)) ∧ Below w1.heap.size w1 wr) (fun _ _ i _ => m - (intOf i).toNat)
  case atStart => exact ⟨0, _, _, _, Nat.zero_le _, rfl, rfl, SS.nil_, Below.refl _ _⟩
  case round =>
    obtain ⟨k, A', c', vs, hk, rfl, rfl, ss, bel⟩ := hrel
    have Ss := Lib.hid ss
    have Bel := Lib.hid bel
    have Bw : Hid (Below w.heap.size w wr) := Lib.hid (btr B1.out bel)
    clear ss bel
    by_cases hlt : k < m
    · obtain ⟨x, ex⟩ : ∃ x, (heads p n).getD k 0 = x := ⟨_, rfl⟩
      have hx : x < n := heads_lt (by rw [lm.out]; exact hlt) ex
      have R1 := S1.out.ri_.below Bel.out (Nat.le_refl _)
      obtain ⟨b, off, rfl, hb, hc⟩ := R1 (by rw [S1.out.1]; omega)
      have c0 := hc k (by rw [S1.out.1]; exact hlt)
      have ev : (ptsL (st p) n).getD k 0 = (x : Int) := by
        rw [pts_heads, List.getD_eq_getElem?_getD, List.getElem?_map, ← ex, List.getD_eq_getElem?_getD, List.getElem?_eq_getElem (by rw [lm.out]; exact hlt)]; rfl
      rw [ev] at c0
      have Ex := Lib.hid ex
      clear ex ev hc R1
      go_wp2_with fail
      refine (implCycleFrom A c n x p wr (hp.up Bw.out) lp ip hx hn).mono ?_
      rintro e w2 ⟨A2, m2, c2, rfl, s2, hm2, b2⟩
      have S2 := Lib.hid s2
      have B2 := Lib.hid b2
      have Bel2 : Hid (Below w1.heap.size w1 w2) := Lib.hid (btr Bel.out b2)
      have Ss2 := Lib.hid (Ss.out.up b2)
      have D2 := Lib.hid (lies_dis Ss.out s2.lies (Nat.le_refl _))
      clear s2 b2 c0
      go_wp2_with (first | (at_builtin; refine wpList_app2 rfl _ _ rfl rfl (Ss2.out.alloc _) w2.heap.size A2 m2 c2 _ rfl (by rw [World.cell?_alloc_at _ _ _ _ rfl]; rfl) ((S2.out.mono Bel.out.size).alloc _) D2.out (by omega) (by have := Bel2.out.size; simp; omega) ?_; intro A3 c3 w3 ss3 hg3))
      have Ss3 := Lib.hid ss3
      have Bel3 : Hid (Below w1.heap.size w1 w3) := Lib.hid ((Bel2.out.alloc Bel2.out.size _).grown hg3 (by have := Bel2.out.size; simp; omega) (fun j hj => (Ss.out.lt_ j hj).1))
      clear ss3 hg3
      go_wp2
      go_roundw
      case rel =>
        refine ⟨k + 1, A3, c3, vs ++ [(A2, m2, c2)], by omega, by go_num, rfl, ?_, Bel3.out⟩
        rw [List.take_succ_eq_append_getElem (by rw [lm.out]; exact hlt), List.map_append]
        have e2 : (heads p n)[k]'(by rw [lm.out]; exact hlt) = x := by rw [← Ex.out, List.getD_eq_getElem?_getD, List.getElem?_eq_getElem (by rw [lm.out]; exact hlt)]; rfl
        rw [e2]
        exact Ss3.out
      case measure => simp [intOf]; omega
    · have hkm : k = m := by omega
      subst hkm
      have Fin : Hid ((((heads p n).take k).map (cyc p)) = cycs p) := Lib.hid (by rw [List.take_of_length_le (by rw [lm.out]; exact Nat.le_refl _), cycs_heads, lp.out])
      go_wp2
      go_ret
      exact ⟨_, _, _, _, rfl, by rw [← Fin.out]; exact Ss.out.mono B1.out.size B1.out.size, hm, Bw.out⟩

end Go.Proofs.Ytonanelghnjhpab
