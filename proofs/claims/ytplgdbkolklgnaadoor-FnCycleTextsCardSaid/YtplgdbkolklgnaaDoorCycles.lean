/- Cycles, of the program and of the model; the helpers on slices of slices. Condition: at most 2097152 entries. -/
import Derived.Test.YtplgdbkolklgnaaDoorAll
namespace Go.Proofs.YtplgdbkolklgnaaDoor
open Go.RowKit

/-- What Cycles answers. -/
def cyclesL (p : List Int) : List (List Int) := if isP p = true then cycl p else []
def longC (c : List Int) : Bool := decide (1 < c.length)
theorem cycl_eq (p : List Int) : cycl p = (cycs p).filter longC := rfl
theorem fil_yes {l : List (List Int)} {k : Nat} {y : List Int} (hk : k < l.length) (e : l.getD k [] = y) (h : longC y = true) : (l.take (k + 1)).filter longC = (l.take k).filter longC ++ [y] := by
  rw [List.getD_eq_getElem?_getD, List.getElem?_eq_getElem hk] at e
  have e' : l[k] = y := e
  rw [List.take_succ_eq_append_getElem hk, List.filter_append, e']
  simp [h]
theorem fil_no {l : List (List Int)} {k : Nat} {y : List Int} (hk : k < l.length) (e : l.getD k [] = y) (h : longC y = false) : (l.take (k + 1)).filter longC = (l.take k).filter longC := by
  rw [List.getD_eq_getElem?_getD, List.getElem?_eq_getElem hk] at e
  have e' : l[k] = y := e
  rw [List.take_succ_eq_append_getElem hk, List.filter_append, e']
  simp [h]

set_option maxHeartbeats 800000 in
/-- The program's Cycles. -/
theorem implCycles (A : Option Addr) (c n : Nat) (p : List Int) (w : World) (hp : RI w w.heap.size A p) (lp : Hid (p.length = n)) (hn : n ≤ 2097152) :
    Calls Tryd.prog 26 #[.slice A n c] w fun e w' => ∃ A' m c' vs, e = .returned (.slice A' m c') ∧ SS w' w.heap.size w.heap.size A' m c' vs (cyclesL p) ∧ m ≤ 20 ∧ Below w.heap.size w w' := by
  rcases hs : isP p with _ | _
  · have Fin : Hid (cyclesL p = []) := Lib.hid (if_neg (by rw [hs]; decide))
    go_enter Tryd.func26, Tryd.ntmps26
    go_wp2_with fail
    refine (implIsP A c n p w hp lp hn).mono ?_
    rintro e w1 ⟨rfl, b1⟩
    have B1 := Lib.hid b1
    clear b1
    go_wp2_with fail
    go_ret
    exact ⟨_, _, _, _, rfl, by rw [Fin.out]; exact SS.nil_, Nat.zero_le _, B1.out⟩
  · have Ip := Lib.hid (isP_iff.1 hs)
    have Fin : Hid (cyclesL p = (cycs p).filter longC) := Lib.hid (if_pos hs)
    have hn20 : n ≤ 20 := by rw [← lp.out]; exact Ip.out.le
    go_enter Tryd.func26, Tryd.ntmps26
    go_wp2_with fail
    refine (implIsP A c n p w hp lp hn).mono ?_
    rintro e w0 ⟨rfl, b0⟩
    have B0 := Lib.hid b0
    clear b0
    go_wp2_with fail
    refine (implAll A c n p w0 (hp.up B0.out) lp Ip hn20).mono ?_
    rintro e w1 ⟨A1, M, c1, vs, rfl, s1, hm, b1⟩
    have S1 := Lib.hid (s1.mono B0.out.size B0.out.size)
    have B1 : Hid (Below w.heap.size w w1) := Lib.hid (btr B0.out b1)
    clear s1 b1
    go_wp2_with fail
    clear hs
    go_loopw [3, 5, 12] (fun v _ i wr => ∃ k m A' c' vs', k ≤ M ∧ m ≤ k ∧ i = .int .i64 (k : Nat) ∧ v = .slice A' m c' ∧ SS wr w1.heap.size w.heap.size A' m c' vs' (((cycs p).take k).filter longC) ∧
      (∀ i, i < m → ∃ j, j < k ∧ vs'.getD i sd0 = vs.getD j sd0) ∧ Below w1.heap.size w1 wr) (fun _ _ i _ => M - (intOf i).toNat)
    case atStart => exact ⟨0, 0, _, _, [], Nat.zero_le _, Nat.le_refl _, rfl, rfl, SS.nil_, fun i h => absurd h (by omega), Below.refl _ _⟩
    case round =>
      obtain ⟨k, m, A', c', vs', hk, hmk, rfl, rfl, ss, sel, bel⟩ := hrel
      have Ss := Lib.hid ss
      have Sel := Lib.hid sel
      have Bel := Lib.hid bel
      have Bw : Hid (Below w.heap.size w wr) := Lib.hid (btr B1.out bel)
      clear ss sel bel
      by_cases hlt : k < M
      · obtain ⟨g, rfl, hg1, hg2, hc⟩ := S1.out.at_ (by omega)
        have c0 := (Bel.out.cell (p := ⟨g, k, none⟩) hg2).trans (hc k hlt)
        obtain ⟨y, ey⟩ : ∃ y, (cycs p).getD k [] = y := ⟨_, rfl⟩
        have hrow := (S1.out.row k hlt).up Bel.out
        rw [ey] at hrow
        have hdis : ∀ i, i < m → (sval (vs'.getD i sd0)).ownBlock = none ∨ (sval (vs'.getD i sd0)).ownBlock ≠ (Value.slice (vs.getD k sd0).1 (vs.getD k sd0).2.1 (vs.getD k sd0).2.2).ownBlock := fun i hi => by
          obtain ⟨j, hj, e⟩ := Sel.out i hi
          rw [e]
          exact S1.out.dis j k hj hlt
        have Sel2 : Hid (∀ i, i < m + 1 → ∃ j, j < k + 1 ∧ (vs' ++ [((vs.getD k sd0).1, (vs.getD k sd0).2.1, (vs.getD k sd0).2.2)]).getD i sd0 = vs.getD j sd0) := Lib.hid fun i hi => by
          by_cases e : i < m
          · obtain ⟨j, hj, e2⟩ := Sel.out i e
            exact ⟨j, by omega, by rw [getD_app _ _ _ _ (by rw [Ss.out.lv]; exact e)]; exact e2⟩
          · exact ⟨k, by omega, by rw [getD_snoc _ _ _ _ (by rw [Ss.out.lv]; omega)]⟩
        have Sel1 : Hid (∀ i, i < m → ∃ j, j < k + 1 ∧ vs'.getD i sd0 = vs.getD j sd0) := Lib.hid fun i hi => by
          obtain ⟨j, hj, e2⟩ := Sel.out i hi
          exact ⟨j, by omega, e2⟩
        obtain ⟨l, el⟩ : ∃ l, (vs.getD k sd0).2.1 = l := ⟨_, rfl⟩
        obtain ⟨A5, e5⟩ : ∃ A5, (vs.getD k sd0).1 = A5 := ⟨_, rfl⟩
        obtain ⟨c5, ec5⟩ : ∃ c5, (vs.getD k sd0).2.2 = c5 := ⟨_, rfl⟩
        rw [e5, el, ec5] at c0 hrow hdis Sel2
        have Ey := Lib.hid ey
        have Row5 := Lib.hid hrow
        have Dis := Lib.hid hdis
        have hll := (Row5.out.le).2
        unfold maxLen at hll
        clear hrow hdis ey el e5 ec5 hc
        by_cases hl : 1 < l
        · have hlong : Hid (longC y = true) := Lib.hid (decide_eq_true (by rw [Row5.out.1]; exact hl))
          go_wp2_with (first | (at_builtin; refine wpList_app2 rfl _ _ rfl rfl (Ss.out.alloc _) wr.heap.size A5 l c5 _ rfl (by rw [World.cell?_alloc_at _ _ _ _ rfl]; rfl) (Row5.out.alloc _) Dis.out (by omega) (by have := Bel.out.size; simp; omega) ?_; intro A3 c3 w3 ss3 hg3))
          have Ss3 := Lib.hid ss3
          have Bel3 : Hid (Below w1.heap.size w1 w3) := Lib.hid ((Bel.out.alloc Bel.out.size _).grown hg3 (by have := Bel.out.size; simp; omega) (fun j hj => (Ss.out.lt_ j hj).1))
          clear ss3 hg3
          go_wp2
          go_roundw
          case rel => exact ⟨k + 1, m + 1, A3, c3, _, by omega, by omega, by go_num, rfl, by rw [fil_yes (by rw [S1.out.lx]; exact hlt) Ey.out hlong.out]; exact Ss3.out, Sel2.out, Bel3.out⟩
          case measure => simp [intOf]; omega
        · have hlong : Hid (longC y = false) := Lib.hid (decide_eq_false (by rw [Row5.out.1]; exact hl))
          go_wp2
          go_roundw
          case rel => exact ⟨k + 1, m, A', c', vs', by omega, by omega, by go_num, rfl, by rw [fil_no (by rw [S1.out.lx]; exact hlt) Ey.out hlong.out]; exact Ss.out, Sel1.out, Bel.out⟩
          case measure => simp [intOf]; omega
      · have hkm : k = M := by omega
        subst hkm
        have Fq : Hid (((cycs p).take k).filter longC = cyclesL p) := Lib.hid (by rw [Fin.out, List.take_of_length_le (by rw [S1.out.lx]; exact Nat.le_refl _)])
        go_wp2
        go_ret
        exact ⟨_, _, _, _, rfl, by rw [← Fq.out]; exact Ss.out.mono B1.out.size (Nat.le_refl _), by omega, Bw.out⟩

set_option maxHeartbeats 800000 in
/-- The model's Cycles. -/
theorem specCycles (A : Option Addr) (c n : Nat) (p : List Int) (w : World) (hp : RI w w.heap.size A p) (lp : Hid (p.length = n)) (hn : n ≤ 2097152) (hc : n ≤ c) :
    Calls Tryd.prog 31 #[.slice A n c] w fun e w' => ∃ A' m c' vs, e = .returned (.slice A' m c') ∧ SS w' w.heap.size w.heap.size A' m c' vs (cyclesL p) ∧ m ≤ 20 ∧ Below w.heap.size w w' := by
  have hp1 : RI (w.alloc (.cells #[] 24)) (w.alloc (.cells #[] 24)).heap.size A p := (hp.alloc (Nat.le_refl _) _).more (by simp)
  rcases hs : isP p with _ | _
  · have Fin : Hid (cyclesL p = []) := Lib.hid (if_neg (by rw [hs]; decide))
    have HP1 := Lib.hid hp1
    clear hp1
    go_enter Tryd.func31, Tryd.ntmps31
    go_wp2_with fail
    refine (quiet_below (specIsP A c n p _ HP1.out lp hn hc)).mono ?_
    rintro e w1 ⟨rfl, b1⟩
    have B1 : Hid (Below w.heap.size w w1) := Lib.hid (((Below.refl _ _).alloc (Nat.le_refl _) _).trans (b1.mono (by simp)))
    have S1 : Hid (SS w1 w.heap.size w.heap.size (some ⟨w.heap.size, 0, none⟩) 0 0 [] []) := Lib.hid ((SS.lit0 w _ _ (Nat.le_refl _)).up b1)
    clear b1
    go_wp2_with fail
    go_ret
    exact ⟨_, _, _, _, rfl, by rw [Fin.out]; exact S1.out, Nat.zero_le _, B1.out⟩
  · have Ip := Lib.hid (isP_iff.1 hs)
    have Fin : Hid (cyclesL p = (cycs p).filter longC) := Lib.hid (if_pos hs)
    have hn20 : n ≤ 20 := by rw [← lp.out]; exact Ip.out.le
    have HP1 := Lib.hid hp1
    clear hp1
    go_enter Tryd.func31, Tryd.ntmps31
    go_wp2_with fail
    refine (quiet_below (specIsP A c n p _ HP1.out lp hn hc)).mono ?_
    rintro e w0 ⟨rfl, b0⟩
    have B0 : Hid (Below w.heap.size w w0) := Lib.hid (((Below.refl _ _).alloc (Nat.le_refl _) _).trans (b0.mono (by simp)))
    have S0 : Hid (SS w0 w.heap.size w.heap.size (some ⟨w.heap.size, 0, none⟩) 0 0 [] []) := Lib.hid ((SS.lit0 w _ _ (Nat.le_refl _)).up b0)
    have Z0 : w.heap.size + 1 ≤ w0.heap.size := by have := b0.size; simpa using this
    clear b0
    go_wp2_with fail
    refine (specAll A c n p w0 (hp.up B0.out) lp Ip hn20).mono ?_
    rintro e w1 ⟨A1, M, c1, vs, rfl, s1, hm, b1⟩
    have S1 := Lib.hid s1
    have B1 : Hid (Below w.heap.size w w1) := Lib.hid (btr B0.out b1)
    have S0' := Lib.hid (S0.out.up b1)
    clear s1 b1
    go_wp2_with fail
    clear hs
    go_loopw [3, 5] (fun v i wr => ∃ k m A' c' vs', k ≤ M ∧ m ≤ k ∧ i = .int .i64 (k : Nat) ∧ v = .slice A' m c' ∧ SS wr w.heap.size w.heap.size A' m c' vs' (((cycs p).take k).filter longC) ∧
      (∀ i, i < m → ∃ j, j < k ∧ vs'.getD i sd0 = vs.getD j sd0) ∧ (∀ b, (Value.slice A' m c').ownBlock = some b → b < w0.heap.size ∨ w1.heap.size ≤ b) ∧ (∀ b, w0.heap.size ≤ b → b < w1.heap.size → wr.heap[b]? = w1.heap[b]?) ∧ w1.heap.size ≤ wr.heap.size ∧ Below w.heap.size w wr) (fun _ i _ => M - (intOf i).toNat)
    case atStart => exact ⟨0, 0, _, _, [], Nat.zero_le _, Nat.le_refl _, rfl, rfl, S0'.out, fun i h => absurd h (by omega), fun b hb => by simp [Value.ownBlock] at hb; left; omega, fun b _ _ => rfl, Nat.le_refl _, B1.out⟩
    case round =>
      obtain ⟨k, m, A', c', vs', hk, hmk, rfl, rfl, ss, sel, ob, md, sz, bel⟩ := hrel
      have Ss := Lib.hid ss
      have Sel := Lib.hid sel
      have Ob := Lib.hid ob
      have Md := Lib.hid md
      have Bel := Lib.hid bel
      have Sr := Lib.hid (S1.out.mid md (Nat.le_refl _) (Nat.le_refl _))
      clear ss sel bel ob md
      by_cases hlt : k < M
      · obtain ⟨g, rfl, hg1, hg2, hc⟩ := Sr.out.at_ (by omega)
        have c0 := hc k hlt
        obtain ⟨y, ey⟩ : ∃ y, (cycs p).getD k [] = y := ⟨_, rfl⟩
        have hrow := (Sr.out.row k hlt).mono B0.out.size
        rw [ey] at hrow
        have hdis : ∀ i, i < m → (sval (vs'.getD i sd0)).ownBlock = none ∨ (sval (vs'.getD i sd0)).ownBlock ≠ (Value.slice (vs.getD k sd0).1 (vs.getD k sd0).2.1 (vs.getD k sd0).2.2).ownBlock := fun i hi => by
          obtain ⟨j, hj, e⟩ := Sel.out i hi
          rw [e]
          exact Sr.out.dis j k hj hlt
        have Sel2 : Hid (∀ i, i < m + 1 → ∃ j, j < k + 1 ∧ (vs' ++ [((vs.getD k sd0).1, (vs.getD k sd0).2.1, (vs.getD k sd0).2.2)]).getD i sd0 = vs.getD j sd0) := Lib.hid fun i hi => by
          by_cases e : i < m
          · obtain ⟨j, hj, e2⟩ := Sel.out i e
            exact ⟨j, by omega, by rw [getD_app _ _ _ _ (by rw [Ss.out.lv]; exact e)]; exact e2⟩
          · exact ⟨k, by omega, by rw [getD_snoc _ _ _ _ (by rw [Ss.out.lv]; omega)]⟩
        have Sel1 : Hid (∀ i, i < m → ∃ j, j < k + 1 ∧ vs'.getD i sd0 = vs.getD j sd0) := Lib.hid fun i hi => by
          obtain ⟨j, hj, e2⟩ := Sel.out i hi
          exact ⟨j, by omega, e2⟩
        obtain ⟨l, el⟩ : ∃ l, (vs.getD k sd0).2.1 = l := ⟨_, rfl⟩
        obtain ⟨A5, e5⟩ : ∃ A5, (vs.getD k sd0).1 = A5 := ⟨_, rfl⟩
        obtain ⟨c5, ec5⟩ : ∃ c5, (vs.getD k sd0).2.2 = c5 := ⟨_, rfl⟩
        rw [e5, el, ec5] at c0 hrow hdis Sel2
        have Ey := Lib.hid ey
        have Row5 := Lib.hid hrow
        have Dis := Lib.hid hdis
        have hll := (Row5.out.le).2
        unfold maxLen at hll
        clear hrow hdis ey el e5 ec5 hc
        by_cases hl : 1 < l
        · have hlong : Hid (longC y = true) := Lib.hid (decide_eq_true (by rw [Row5.out.1]; exact hl))
          have c0' : (wr.alloc (.cells #[.slice A5 l c5] 24)).cell? ⟨g, k, none⟩ = some (.slice A5 l c5) := (World.cell?_alloc_lt wr _ ⟨g, k, none⟩ hg2).trans c0
          go_wp2_with (first | (at_builtin; refine wpList_app2_at rfl _ _ rfl rfl (Ss.out.alloc _) wr.heap.size A5 l c5 _ rfl (by rw [World.cell?_alloc_at _ _ _ _ rfl]; rfl) (Row5.out.alloc _) Dis.out (by omega) (by have := Bel.out.size; simp; omega) ?_; intro A3 c3 w3 ss3 hg3 hat3))
          have Ss3 := Lib.hid ss3
          have Bel3 : Hid (Below w.heap.size w w3) := Lib.hid ((Bel.out.alloc Bel.out.size _).grown hg3 (by have := Bel.out.size; simp; omega) (fun j hj => (Ss.out.lt_ j hj).1))
          have Hg3 := Lib.hid hg3
          have Hat3 := Lib.hid hat3
          have Sz3 : w1.heap.size ≤ w3.heap.size := by have := hg3.size; simp at this; omega
          clear ss3 hg3 hat3
          go_wp2
          go_roundw
          case rel =>
            refine ⟨k + 1, m + 1, A3, c3, _, by omega, by omega, by go_num, rfl, by rw [fil_yes (by rw [S1.out.lx]; exact hlt) Ey.out hlong.out]; exact Ss3.out, Sel2.out, fun b hb => ?_, fun b hb1 hb2 => ?_, Sz3, Bel3.out⟩
            · rcases Hat3.out with e | e
              · exact Ob.out b (by rw [← e]; exact hb)
              · rw [e] at hb; injection hb with hb; simp at hb; right; omega
            · rw [Hg3.out.block b (by simp; omega) (fun e => by have := Ob.out b e.symm; omega), Below.heap_alloc _ _ _ (by omega)]
              exact Md.out b hb1 hb2
          case measure => simp [intOf]; omega
        · have hlong : Hid (longC y = false) := Lib.hid (decide_eq_false (by rw [Row5.out.1]; exact hl))
          go_wp2
          go_roundw
          case rel => exact ⟨k + 1, m, A', c', vs', by omega, by omega, by go_num, rfl, by rw [fil_no (by rw [S1.out.lx]; exact hlt) Ey.out hlong.out]; exact Ss.out, Sel1.out, Ob.out, Md.out, sz, Bel.out⟩
          case measure => simp [intOf]; omega
      · have hkm : k = M := by omega
        subst hkm
        have Fq : Hid (((cycs p).take k).filter longC = cyclesL p) := Lib.hid (by rw [Fin.out, List.take_of_length_le (by rw [S1.out.lx]; exact Nat.le_refl _)])
        go_wp2
        go_ret
        exact ⟨_, _, _, _, rfl, by rw [← Fq.out]; exact Ss.out, by omega, Bel.out⟩
end Go.Proofs.YtplgdbkolklgnaaDoor
