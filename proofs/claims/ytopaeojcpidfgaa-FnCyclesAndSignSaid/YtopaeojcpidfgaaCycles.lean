/- Cycles, of the program and of the model; the helpers on slices of slices. Condition: at most 2097152 entries. -/
import Derived.Test.YtopaeojcpidfgaaAll
namespace Go.Proofs.Ytopaeojcpidfgaa
open Go.RowKit

/-- What Cycles answers. -/
def cyclesL (p : List Int) : List (List Int) := if isP p = true then cycl p else []
def longC (c : List Int) : Bool := decide (1 < c.length)
theorem cycl_eq (p : List Int) : cycl p = (cycs p).filter longC := rfl
theorem fil_yes {l : List (List Int)} {k : Nat} {y : List Int} (hk : k < l.length) (e : l.getD k [] = y) (h : longC y = true) : (l.take (k + 1)).filter longC = (l.take k).filter longC ++ [y] := by
  rw [List.getD_eq_getElem?_getD, List.getElem?_eq_getElem hk] at e
  have e' : l[k] = y := e
  rw [List.take_succ_eq_append_getElem hk, List.filter_append, e']
  simp [h]
theorem fil_no {l : List (List Int)} {k : Nat} {y : List Int} (hk : k < l.length) (e : l.getD k [] = y) (h : longC y = false) : (l.take (k + 1)).filter longC = (l.take k).filter longC := by
  rw [List.getD_eq_getElem?_getD, List.getElem?_eq_getElem hk] at e
  have e' : l[k] = y := e
  rw [List.take_succ_eq_append_getElem hk, List.filter_append, e']
  simp [h]

set_option maxHeartbeats 800000 in
/-- The program's Cycles. -/
theorem implCycles (A : Option Addr) (c n : Nat) (p : List Int) (w : World) (hp : RI w w.heap.size A p) (lp : Hid (p.length = n)) (hn : n ≤ 2097152) :
    Calls Try.prog 29 #[.slice A n c] w fun e w' => ∃ A' m c' vs, e = .returned (.slice A' m c') ∧ SS w' w.heap.size w.heap.size A' m c' vs (cyclesL p) ∧ m ≤ 20 ∧ Below w.heap.size w w' := by
  rcases hs : isP p with _ | _
  · have Fin : Hid (cyclesL p = []) := Lib.hid (if_neg (by rw [hs]; decide))
    go_enter Try.func29, Try.ntmps29
    go_wp2_with fail
    refine (implIsP A c n p w hp lp hn).mono ?_
    rintro e w1 ⟨rfl, b1⟩
    have B1 := Lib.hid b1
    clear b1
    go_wp2_with fail
    go_ret
    exact ⟨_, _, _, _, rfl, by rw [Fin.out]; exact SS.nil_, Nat.zero_le _, B1.out⟩
  · have Ip := Lib.hid (isP_iff.1 hs)
    have Fin : Hid (cyclesL p = (cycs p).filter longC) := Lib.hid (if_pos hs)
    have hn20 : n ≤ 20 := by rw [← lp.out]; exact Ip.out.le
    go_enter Try.func29, Try.ntmps29
    go_wp2_with fail
    refine (implIsP A c n p w hp lp hn).mono ?_
    rintro e w0 ⟨rfl, b0⟩
    have B0 := Lib.hid b0
    clear b0
    go_wp2_with fail
    refine (implAll A c n p w0 (hp.up B0.out) lp Ip hn20).mono ?_
    rintro e w1 ⟨A1, M, c1, vs, rfl, s1, hm, b1⟩
    have S1 := Lib.hid (s1.mono B0.out.size B0.out.size)
    have B1 : Hid (Below w.heap.size w w1) := Lib.hid (btr B0.out b1)
    clear s1 b1
    go_wp2_with fail
    clear hs
    go_loopw [3, 5, 12] (fun v _ i wr => ∃ k m A' c' vs', k ≤ M ∧ m ≤ k ∧ i = .int .i64 (k : Nat) ∧ v = .slice A' m c' ∧ SS wr w1.heap.size w.heap.size A' m c' vs' (((cycs p).take k).filter longC) ∧
      (∀ i, i < m → ∃ j, j < k ∧ vs'.getD i sd0 = vs.getD j sd0) ∧ Below w1.heap.size w1 wr) (fun _ _ i _ => M - (intOf i).toNat)
    case atStart => exact ⟨0, 0, _, _, [], Nat.zero_le _, Nat.le_refl _, rfl, rfl, SS.nil_, fun i h => absurd h (by omega), Below.refl _ _⟩
    case round =>
      obtain ⟨k, m, A', c', vs', hk, hmk, rfl, rfl, ss, sel, bel⟩ := hrel
      have Ss := Lib.hid ss
      have Sel := Lib.hid sel
      have Bel := Lib.hid bel
      have Bw : Hid (Below w.heap.size w wr) := Lib.hid (btr B1.out bel)
      clear ss sel bel
      by_cases hlt : k < M
      · obtain ⟨g, rfl, hg1, hg2, hc⟩ := S1.out.at_ (by omega)
        have c0 := (Bel.out.cell (p := ⟨g, k, none⟩) hg2).trans (hc k hlt)
        obtain ⟨y, ey⟩ : ∃ y, (cycs p).getD k [] = y := ⟨_, rfl⟩
        have hrow := (S1.out.row k hlt).up Bel.out
        rw [ey] at hrow
        have hdis : ∀ i, i < m → (sval (vs'.getD i sd0)).ownBlock = none ∨ (sval (vs'.getD i sd0)).ownBlock ≠ (Value.slice (vs.getD k sd0).1 (vs.getD k sd0).2.1 (vs.getD k sd0).2.2).ownBlock := fun i hi => by
          obtain ⟨j, hj, e⟩ := Sel.out i hi
          rw [e]
          exact S1.out.dis j k hj hlt
        have Sel2 : Hid (∀ i, i < m + 1 → ∃ j, j < k + 1 ∧ (vs' ++ [((vs.getD k sd0).1, (vs.getD k sd0).2.1, (vs.getD k sd0).2.2)]).getD i sd0 = vs.getD j sd0) := Lib.hid fun i hi => by
          by_cases e : i < m
          · obtain ⟨j, hj, e2⟩ := Sel.out i e
            exact ⟨j, by omega, by rw [getD_app _ _ _ _ (by rw [Ss.out.lv]; exact e)]; exact e2⟩
          · exact ⟨k, by omega, by rw [getD_snoc _ _ _ _ (by rw [Ss.out.lv]; omega)]⟩
        have Sel1 : Hid (∀ i, i < m → ∃ j, j < k + 1 ∧ vs'.getD i sd0 = vs.getD j sd0) := Lib.hid fun i hi => by
          obtain ⟨j, hj, e2⟩ := Sel.out i hi
          exact ⟨j, by omega, e2⟩
        obtain ⟨l, el⟩ : ∃ l, (vs.getD k sd0).2.1 = l := ⟨_, rfl⟩
        obtain ⟨A5, e5⟩ : ∃ A5, (vs.getD k sd0).1 = A5 := ⟨_, rfl⟩
        obtain ⟨c5, ec5⟩ : ∃ c5, (vs.getD k sd0).2.2 = c5 := ⟨_, rfl⟩
        rw [e5, el, ec5] at c0 hrow hdis Sel2
        have Ey := Lib.hid ey
        have Row5 := Lib.hid hrow
        have Dis := Lib.hid hdis
        have hll := (Row5.out.le).2
        unfold maxLen at hll
        clear hrow hdis ey el e5 ec5 hc
        by_cases hl : 1 < l
        · have hlong : Hid (longC y = true) := Lib.hid (decide_eq_true (by rw [Row5.out.1]; exact hl))
          go_wp2_with (first | (at_builtin; refine wpList_app2 rfl _ _ rfl rfl (Ss.out.alloc _) wr.heap.size A5 l c5 _ rfl (by rw [World.cell?_alloc_at _ _ _ _ rfl]; rfl) (Row5.out.alloc _) Dis.out (by omega) (by have := Bel.out.size; simp; omega) ?_; intro A3 c3 w3 ss3 hg3))
          have Ss3 := Lib.hid ss3
          have Bel3 : Hid (Below w1.heap.size w1 w3) := Lib.hid ((Bel.out.alloc Bel.out.size _).grown hg3 (by have := Bel.out.size; simp; omega) (fun j hj => (Ss.out.lt_ j hj).1))
          clear ss3 hg3
          go_wp2
          go_roundw
          case rel => exact ⟨k + 1, m + 1, A3, c3, _, by omega, by omega, by go_num, rfl, by rw [fil_yes (by rw [S1.out.lx]; exact hlt) Ey.out hlong.out]; exact Ss3.out, Sel2.out, Bel3.out⟩
          case measure => simp [intOf]; omega
        · have hlong : Hid (longC y = false) := Lib.hid (decide_eq_false (by rw [Row5.out.1]; exact hl))
          go_wp2
          go_roundw
          case rel => exact ⟨k + 1, m, A', c', vs', by omega, by omega, by go_num, rfl, by rw [fil_no (by rw [S1.out.lx]; exact hlt) Ey.out hlong.out]; exact Ss.out, Sel1.out, Bel.out⟩
          case measure => simp [intOf]; omega
      · have hkm : k = M := by omega
        subst hkm
        have Fq : Hid (((cycs p).take k).filter longC = cyclesL p) := Lib.hid (by rw [Fin.out, List.take_of_length_le (by rw [S1.out.lx]; exact Nat.le_refl _)])
        go_wp2
        go_ret
        exact ⟨_, _, _, _, rfl, by rw [← Fq.out]; exact Ss.out.mono B1.out.size (Nat.le_refl _), by omega, Bw.out⟩

set_option maxHeartbeats 800000 in
/-- The model's Cycles. -/
theorem specCycles (A : Option Addr) (c n : Nat) (p : List Int) (w : World) (hp : RI w w.heap.size A p) (lp : Hid (p.length = n)) (hn : n ≤ 2097152) (hc : n ≤ c) :
    Calls Try.prog 44 #[.slice A n c] w fun e w' => ∃ A' m c' vs, e = .returned (.slice A' m c') ∧ SS w' w.heap.size w.heap.size A' m c' vs (cyclesL p) ∧ m ≤ 20 ∧ Below w.heap.size w w' := by
  have hp1 : RI (w.alloc (.cells #[] 28)) (w.alloc (.cells #[] 28)).heap.size A p := (hp.alloc (Nat.le_refl _) _).more (by simp)
  rcases hs : isP p with _ | _
  · have Fin : Hid (cyclesL p = []) := Lib.hid (if_neg (by rw [hs]; decide))
    have HP1 := Lib.hid hp1
    clear hp1
    go_enter Try.func44, Try.ntmps44
    go_wp2_with fail
    refine (quiet_below (specIsP A c n p _ HP1.out lp hn hc)).mono ?_
    rintro e w1 ⟨rfl, b1⟩
    have B1 : Hid (Below w.heap.size w w1) := Lib.hid (((Below.refl _ _).alloc (Nat.le_refl _) _).trans (b1.mono (by simp)))
    have S1 : Hid (SS w1 w.heap.size w.heap.size (some ⟨w.heap.size, 0, none⟩) 0 0 [] []) := Lib.hid ((SS.lit0 w _ _ (Nat.le_refl _)).up b1)
    clear b1
    go_wp2_with fail
    go_ret
    exact ⟨_, _, _, _, rfl, by rw [Fin.out]; exact S1.out, Nat.zero_le _, B1.out⟩
  · have Ip := Lib.hid (isP_iff.1 hs)
    have Fin : Hid (cyclesL p = (cycs p).filter longC) := Lib.hid (if_pos hs)
    have hn20 : n ≤ 20 := by rw [← lp.out]; exact Ip.out.le
    have HP1 := Lib.hid hp1
    clear hp1
    go_enter Try.func44, Try.ntmps44
    go_wp2_with fail
    refine (quiet_below (specIsP A c n p _ HP1.out lp hn hc)).mono ?_
    rintro e w0 ⟨rfl, b0⟩
    have B0 : Hid (Below w.heap.size w w0) := Lib.hid (((Below.refl _ _).alloc (Nat.le_refl _) _).trans (b0.mono (by simp)))
    have S0 : Hid (SS w0 w.heap.size w.heap.size (some ⟨w.heap.size, 0, none⟩) 0 0 [] []) := Lib.hid ((SS.lit0 w _ _ (Nat.le_refl _)).up b0)
    have Z0 : w.heap.size + 1 ≤ w0.heap.size := by have := b0.size; simpa using this
    clear b0
    go_wp2_with fail
    refine (specAll A c n p w0 (hp.up B0.out) lp Ip hn20).mono ?_
    rintro e w1 ⟨A1, M, c1, vs, rfl, s1, hm, b1⟩
    have S1 := Lib.hid s1
    have B1 : Hid (Below w.heap.size w w1) := Lib.hid (btr B0.out b1)
    have S0' := Lib.hid (S0.out.up b1)
    clear s1 b1
    go_wp2_with fail
    clear hs
    go_loopw [3, 5] (fun v i wr => ∃ k m A' c' vs', k ≤ M ∧ m ≤ k ∧ i = .int .i64 (k : Nat) ∧ v = .slice A' m c' ∧ SS wr w.heap.size w.heap.size A' m c' vs' (((cycs p).take k).filter longC) ∧
      (∀ i, i < m → ∃ j, j < k ∧ vs'.getD i sd0 = vs.getD j sd0) ∧ (∀ b, (Value.slice A' m c').ownBlock = some b → b < w0.heap.size ∨ w1.heap.size ≤ b) ∧ (∀ b, w0.heap.size ≤ b → b < w1.heap.size → wr.heap[b]? = w1.heap[b]?) ∧ w1.heap.size ≤ wr.heap.size ∧ Below w.heap.size w wr) (fun _ i _ => M - (intOf i).toNat)
    case atStart => exact ⟨0, 0, _, _, [], Nat.zero_le _, Nat.le_refl _, rfl, rfl, S0'.out, fun i h => absurd h (by omega), fun b hb => by simp [Value.ownBlock] at hb; left; omega, fun b _ _ => rfl, Nat.le_refl _, B1.out⟩
    case round =>
      obtain ⟨k, m, A', c', vs', hk, hmk, rfl, rfl, ss, sel, ob, md, sz, bel⟩ := hrel
      have Ss := Lib.hid ss
      have Sel := Lib.hid sel
      have Ob := Lib.hid ob
      have Md := Lib.hid md
      have Bel := Lib.hid bel
      have Sr := Lib.hid (S1.out.mid md (Nat.le_refl _) (Nat.le_refl _))
      clear ss sel bel ob md
      by_cases hlt : k < M
      · obtain ⟨g, rfl, hg1, hg2, hc⟩ := Sr.out.at_ (by omega)
        have c0 := hc k hlt
        obtain ⟨y, ey⟩ : ∃ y, (cycs p).getD k [] = y := ⟨_, rfl⟩
        have hrow := (Sr.out.row k hlt).mono B0.out.size
        rw [ey] at hrow
        have hdis : ∀ i, i < m → (sval (vs'.getD i sd0)).ownBlock = none ∨ (sval (vs'.getD i sd0)).ownBlock ≠ (Value.slice (vs.getD k sd0).1 (vs.getD k sd0).2.1 (vs.getD k sd0).2.2).ownBlock := fun i hi => by
          obtain ⟨j, hj, e⟩ := Sel.out i hi
          rw [e]
          exact Sr.out.dis j k hj hlt
        have Sel2 : Hid (∀ i, i < m + 1 → ∃ j, j < k + 1 ∧ (vs' ++ [((vs.getD k sd0).1, (vs.getD k sd0).2.1, (vs.getD k sd0).2.2)]).getD i sd0 = vs.getD j sd0) := Lib.hid fun i hi => by
          by_cases e : i < m
          · obtain ⟨j, hj, e2⟩ := Sel.out i e
            exact ⟨j, by omega, by rw [getD_app _ _ _ _ (by rw [Ss.out.lv]; exact e)]; exact e2⟩
          · exact ⟨k, by omega, by rw [getD_snoc _ _ _ _ (by rw [Ss.out.lv]; omega)]⟩
        have Sel1 : Hid (∀ i, i < m → ∃ j, j < k + 1 ∧ vs'.getD i sd0 = vs.getD j sd0) := Lib.hid fun i hi => by
          obtain ⟨j, hj, e2⟩ := Sel.out i hi
          exact ⟨j, by omega, e2⟩
        obtain ⟨l, el⟩ : ∃ l, (vs.getD k sd0).2.1 = l := ⟨_, rfl⟩
        obtain ⟨A5, e5⟩ : ∃ A5, (vs.getD k sd0).1 = A5 := ⟨_, rfl⟩
        obtain ⟨c5, ec5⟩ : ∃ c5, (vs.getD k sd0).2.2 = c5 := ⟨_, rfl⟩
        rw [e5, el, ec5] at c0 hrow hdis Sel2
        have Ey := Lib.hid ey
        have Row5 := Lib.hid hrow
        have Dis := Lib.hid hdis
        have hll := (Row5.out.le).2
        unfold maxLen at hll
        clear hrow hdis ey el e5 ec5 hc
        by_cases hl : 1 < l
        · have hlong : Hid (longC y = true) := Lib.hid (decide_eq_true (by rw [Row5.out.1]; exact hl))
          have c0' : (wr.alloc (.cells #[.slice A5 l c5] 28)).cell? ⟨g, k, none⟩ = some (.slice A5 l c5) := (World.cell?_alloc_lt wr _ ⟨g, k, none⟩ hg2).trans c0
          go_wp2_with (first | (at_builtin; refine wpList_app2_at rfl _ _ rfl rfl (Ss.out.alloc _) wr.heap.size A5 l c5 _ rfl (by rw [World.cell?_alloc_at _ _ _ _ rfl]; rfl) (Row5.out.alloc _) Dis.out (by omega) (by have := Bel.out.size; simp; omega) ?_; intro A3 c3 w3 ss3 hg3 hat3))
          have Ss3 := Lib.hid ss3
          have Bel3 : Hid (Below w.heap.size w w3) := Lib.hid ((Bel.out.alloc Bel.out.size _).grown hg3 (by have := Bel.out.size; simp; omega) (fun j hj => (Ss.out.lt_ j hj).1))
          have Hg3 := Lib.hid hg3
          have Hat3 := Lib.hid hat3
          have Sz3 : w1.heap.size ≤ w3.heap.size := by have := hg3.size; simp at this; omega
          clear ss3 hg3 hat3
          go_wp2
          go_roundw
          case rel =>
            refine ⟨k + 1, m + 1, A3, c3, _, by omega, by omega, by go_num, rfl, by rw [fil_yes (by rw [S1.out.lx]; exact hlt) Ey.out hlong.out]; exact Ss3.out, Sel2.out, fun b hb => ?_, fun b hb1 hb2 => ?_, Sz3, Bel3.out⟩
            · rcases Hat3.out with e | e
              · exact Ob.out b (by rw [← e]; exact hb)
              · rw [e] at hb; injection hb with hb; simp at hb; right; omega
            · rw [Hg3.out.block b (by simp; omega) (fun e => by have := Ob.out b e.symm; omega), Below.heap_alloc _ _ _ (by omega)]
              exact Md.out b hb1 hb2
          case measure => simp [intOf]; omega
        · have hlong : Hid (longC y = false) := Lib.hid (decide_eq_false (by rw [Row5.out.1]; exact hl))
          go_wp2
          go_roundw
          case rel => exact ⟨k + 1, m, A', c', vs', by omega, by omega, by go_num, rfl, by rw [fil_no (by rw [S1.out.lx]; exact hlt) Ey.out hlong.out]; exact Ss.out, Sel1.out, Ob.out, Md.out, sz, Bel.out⟩
          case measure => simp [intOf]; omega
      · have hkm : k = M := by omega
        subst hkm
        have Fq : Hid (((cycs p).take k).filter longC = cyclesL p) := Lib.hid (by rw [Fin.out, List.take_of_length_le (by rw [S1.out.lx]; exact Nat.le_refl _)])
        go_wp2
        go_ret
        exact ⟨_, _, _, _, rfl, by rw [← Fq.out]; exact Ss.out, by omega, Bel.out⟩

set_option maxHeartbeats 800000 in
/-- eqInt64SS at two slices of slices that hold the same. -/
theorem eqSS_same (A B : Option Addr) (n c m d b1 b2 b3 b4 : Nat) (vs us : List SV) (xss : List (List Int)) (w : World) (hx : SS w b1 b2 A n c vs xss) (hy : SS w b3 b4 B m d us xss) (hn : n ≤ 1000) (hlen : Hid (∀ y ∈ xss, y.length ≤ 1000)) :
    Calls Try.prog 45 #[.slice A n c, .slice B m d] w fun e w' => e = .returned (.bool true) ∧ Below w.heap.size w w' := by
  refine quiet_below ?_
  obtain rfl : n = m := by rw [← hx.lx, ← hy.lx]
  have HX := Lib.hid hx
  have HY := Lib.hid hy
  clear hx hy
  go_enter Try.func45, Try.ntmps45
  go_wp2
  go_loopw [5] (fun i wr => ∃ k : Nat, k ≤ n ∧ i = .int .i64 k ∧ ∃ m, wr = w.drewN m) (fun i _ => n - (intOf i).toNat)
  case atStart => exact ⟨0, Nat.zero_le _, rfl, 0, rfl⟩
  case round =>
    obtain ⟨k, hk, rfl, q, rfl⟩ := hrel
    by_cases hlt : k < n
    · obtain ⟨g, rfl, _, _, hc⟩ := HX.out.at_ (by omega)
      obtain ⟨g', rfl, _, _, hc'⟩ := HY.out.at_ (by omega)
      have c1 := hc k hlt
      have c2 := hc' k hlt
      have r1 := HX.out.row k hlt
      have r2 := HY.out.row k hlt
      obtain ⟨y, ey⟩ : ∃ y, xss.getD k [] = y := ⟨_, rfl⟩
      have hyl : y.length ≤ 1000 := hlen.out y (by rw [← ey, List.getD_eq_getElem?_getD, List.getElem?_eq_getElem (by rw [HX.out.lx]; exact hlt)]; exact List.getElem_mem _)
      rw [ey] at r1 r2
      obtain ⟨l, el⟩ : ∃ l, (vs.getD k sd0).2.1 = l := ⟨_, rfl⟩
      obtain ⟨A5, e5⟩ : ∃ A5, (vs.getD k sd0).1 = A5 := ⟨_, rfl⟩
      obtain ⟨c5, ec5⟩ : ∃ c5, (vs.getD k sd0).2.2 = c5 := ⟨_, rfl⟩
      obtain ⟨l', el'⟩ : ∃ l, (us.getD k sd0).2.1 = l := ⟨_, rfl⟩
      obtain ⟨A6, e6⟩ : ∃ A5, (us.getD k sd0).1 = A5 := ⟨_, rfl⟩
      obtain ⟨c6, ec6⟩ : ∃ c5, (us.getD k sd0).2.2 = c5 := ⟨_, rfl⟩
      rw [e5, el, ec5] at c1 r1
      rw [e6, el', ec6] at c2 r2
      have R1 := Lib.hid r1
      have R2 := Lib.hid r2
      have hl1 : l ≤ 1000 := by rw [← r1.1]; exact hyl
      have hl2 : l' ≤ 1000 := by rw [← r2.1]; exact hyl
      clear r1 r2 ey e5 el ec5 e6 el' ec6 hc hc' hyl
      have p1 : (0 : Int) ≤ k := by omega
      have p2 : (k : Int) < n := by omega
      have K : ∀ W : World, (∃ q, W = w.drewN q) → Calls Try.prog 38 #[.slice A5 l c5, .slice A6 l' c6] W fun e w' => e = .returned (.bool true) ∧ ∃ m, w' = W.drewN m := by
        rintro W ⟨q, rfl⟩
        exact (eqS_any A5 A6 c5 c6 l l' y y (w.drewN q) (R1.out.drewN q).ri_ (R2.out.drewN q).ri_ R1.out.hid R2.out.hid (by omega) (by omega)).mono fun e w' ⟨he, hb⟩ => ⟨he.trans (ret_bool (by simp)), hb⟩
      have HK := Lib.hid K
      clear K
      go_wp2
      go_quiet ((go_at_call 38; exact quiet_add (HK.out _ ⟨_, rfl⟩)))
      go_wp2
      go_roundw
      case rel => exact ⟨k + 1, by omega, by go_num, _, rfl⟩
      case measure => simp [intOf]; omega
    · go_wp2
      go_ret
      exact ⟨rfl, _, rfl⟩

/-- The sum of the first k lengths. -/
def tot : List SV → Nat → Nat
  | _, 0 => 0
  | vs, k + 1 => tot vs k + (vs.getD k sd0).2.1
theorem tot_le {vs : List SV} {n : Nat} (h : ∀ i, i < n → (vs.getD i sd0).2.1 ≤ 1000) : ∀ k, k ≤ n → tot vs k ≤ 1000 * k := by
  intro k
  induction k with
  | zero => intro _; exact Nat.le_refl _
  | succ k ih => intro hk; have := ih (by omega); have := h k (by omega); show tot vs k + (vs.getD k sd0).2.1 ≤ _; omega
/-- The marks of the slices one after the other. -/
def marks2 (vs : List SV) (k0 n : Nat) : List (List Int) := (List.range n).map fun i => marks (k0 + tot vs i) (vs.getD i sd0).2.1
theorem marks2_getD {vs : List SV} {k0 n i : Nat} (h : i < n) : (marks2 vs k0 n).getD i [] = marks (k0 + tot vs i) (vs.getD i sd0).2.1 := by
  rw [List.getD_eq_getElem?_getD, List.getElem?_eq_getElem (by simp [marks2, h])]; simp [marks2]

/-- Only blocks of the inner rows have turned. -/
structure OnlyIn (w w' : World) (vs : List SV) (n : Nat) : Prop where
  os : w'.os = w.os
  tape : w'.tape = w.tape
  output : w'.output = w.output
  size : w.heap.size ≤ w'.heap.size
  block : ∀ k, k < w.heap.size → (∀ i, i < n → (sval (vs.getD i sd0)).ownBlock ≠ some k) → w'.heap[k]? = w.heap[k]?
theorem OnlyIn.refl (w : World) (vs : List SV) (n : Nat) : OnlyIn w w vs n := ⟨rfl, rfl, rfl, Nat.le_refl _, fun _ _ _ => rfl⟩
theorem OnlyIn.step {w w1 w2 : World} {vs : List SV} {n i : Nat} (h : OnlyIn w w1 vs n) (hg : w1.grownBy w2 (sval (vs.getD i sd0)).ownBlock) (hi : i < n) : OnlyIn w w2 vs n :=
  ⟨hg.os.trans h.os, hg.tape.trans h.tape, hg.output.trans h.output, Nat.le_trans h.size hg.size, fun k hk hne => (hg.block k (Nat.lt_of_lt_of_le hk h.size) (fun e => hne i hi e.symm)).trans (h.block k hk hne)⟩
theorem OnlyIn.below {w w' : World} {vs : List SV} {n B : Nat} (h : OnlyIn w w' vs n) (hB : B ≤ w.heap.size) (hv : ∀ i, i < n → ∀ k, (sval (vs.getD i sd0)).ownBlock = some k → B ≤ k) : Below B w w' :=
  ⟨h.os, h.tape, h.output, h.size, fun k hk => h.block k (by omega) (fun i hi e => by have := hv i hi k e; omega)⟩

theorem SS.marked {w w' : World} {bo bi n c j : Nat} {A : Option Addr} {vs : List SV} {zss : List (List Int)} {ys : List Int} (h : SS w bo bi A n c vs zss) (hj : j < n)
    (hs : Slc w' bi (vs.getD j sd0).1 (vs.getD j sd0).2.1 (vs.getD j sd0).2.2 ys) (hg : w.grownBy w' (sval (vs.getD j sd0)).ownBlock) : SS w' bo bi A n c vs (zss.set j ys) := by
  refine ⟨World.ownsRow.kept h.own hg ?_, h.lv, by rw [List.length_set]; exact h.lx, fun i hi => ?_, h.dis⟩
  · rcases apart_types (h.row j hj) h.own with e | e
    · rw [show (sval (vs.getD j sd0)).ownBlock = none from e]
      rcases (Value.slice A n c).ownBlock with _ | b
      · exact .inl rfl
      · exact .inr (by simp)
    · exact .inr fun e2 => e e2.symm
  · by_cases e : j = i
    · subst e
      rw [show (zss.set j ys).getD j [] = ys from by rw [List.getD_eq_getElem?_getD, List.getElem?_set, if_pos rfl, if_pos (by rw [h.lx]; exact hj)]; rfl]
      exact hs
    · rw [show (zss.set j ys).getD i [] = zss.getD i [] from by rw [List.getD_eq_getElem?_getD, List.getElem?_set, if_neg e, ← List.getD_eq_getElem?_getD]]
      refine (h.row i hi).kept hg ?_
      rcases Nat.lt_or_gt_of_ne e with hlt | hgt
      · rcases h.dis j i hlt hi with e1 | e1
        · rw [e1]
          rcases (Value.slice (vs.getD i sd0).1 (vs.getD i sd0).2.1 (vs.getD i sd0).2.2).ownBlock with _ | b
          · exact .inl rfl
          · exact .inr (by simp)
        · exact .inr fun e2 => e1 e2.symm
      · exact h.dis i j hgt hj

theorem tot_succ (vs : List SV) (k : Nat) : tot vs (k + 1) = tot vs k + (vs.getD k sd0).2.1 := rfl

set_option maxHeartbeats 800000 in
/-- markInt64SS. -/
theorem markSS (A : Option Addr) (n c bo bi : Nat) (vs : List SV) (xss : List (List Int)) (w : World) (hx : SS w bo bi A n c vs xss) (hn : n ≤ 1000) (hlen : Hid (∀ i, i < n → (vs.getD i sd0).2.1 ≤ 1000)) :
    Calls Try.prog 46 #[.slice A n c, .int .i64 1] w fun e w' => e = .returned (.int .i64 (1 + (tot vs n : Int))) ∧ SS w' bo bi A n c vs (marks2 vs 1 n) ∧ OnlyIn w w' vs n := by
  have HX := Lib.hid hx
  clear hx
  go_enter Try.func46, Try.ntmps46
  go_wp2
  go_loopw [1, 5] (fun v i wr => ∃ (k T : Nat) (zss : List (List Int)), k ≤ n ∧ Hid (tot vs k = T) ∧ i = .int .i64 (k : Nat) ∧ v = .int .i64 (1 + (T : Int)) ∧ SS wr bo bi A n c vs zss ∧ (∀ t, t < k → zss.getD t [] = marks (1 + tot vs t) (vs.getD t sd0).2.1) ∧ OnlyIn w wr vs n) (fun _ i _ => n - (intOf i).toNat)
  case atStart => exact ⟨0, 0, _, Nat.zero_le _, Lib.hid rfl, rfl, by go_num, HX.out, fun j h => absurd h (by omega), OnlyIn.refl _ _ _⟩
  case round =>
    obtain ⟨k, T, zss, hk, hT, rfl, rfl, ss, hz, oi⟩ := hrel
    have Ss := Lib.hid ss
    have Hz := Lib.hid hz
    have Oi := Lib.hid oi
    have hT1 : T ≤ 1000000 := by have := tot_le hlen.out k hk; rw [hT.out] at this; omega
    clear ss hz oi
    by_cases hlt : k < n
    · obtain ⟨g, rfl, _, _, hc⟩ := Ss.out.at_ (by omega)
      have c1 := hc k hlt
      have r1 := Ss.out.row k hlt
      have hl := hlen.out k hlt
      have hT2 : Hid (tot vs (k + 1) = T + (vs.getD k sd0).2.1) := Lib.hid (by rw [tot_succ, hT.out])
      have ev : sval (vs.getD k sd0) = .slice (vs.getD k sd0).1 (vs.getD k sd0).2.1 (vs.getD k sd0).2.2 := rfl
      have MK : Hid (∀ w2 ys, Slc w2 bi (vs.getD k sd0).1 (vs.getD k sd0).2.1 (vs.getD k sd0).2.2 ys → wr.grownBy w2 (Value.slice (vs.getD k sd0).1 (vs.getD k sd0).2.1 (vs.getD k sd0).2.2).ownBlock → SS w2 bo bi (some ⟨g, 0, none⟩) n c vs (zss.set k ys) ∧ OnlyIn w w2 vs n) :=
        Lib.hid fun w2 ys h1 h2 => ⟨Ss.out.marked hlt h1 h2, Oi.out.step (i := k) h2 hlt⟩
      obtain ⟨l, el⟩ : ∃ l, (vs.getD k sd0).2.1 = l := ⟨_, rfl⟩
      obtain ⟨A5, e5⟩ : ∃ A5, (vs.getD k sd0).1 = A5 := ⟨_, rfl⟩
      obtain ⟨c5, ec5⟩ : ∃ c5, (vs.getD k sd0).2.2 = c5 := ⟨_, rfl⟩
      have El := Lib.hid el
      rw [e5, el, ec5] at c1 r1 MK
      rw [el] at hl hT2
      have R1 := Lib.hid r1
      clear r1 e5 el ec5 hc ev
      go_wp2_with fail
      refine (markK bi (1 + T) _ A5 l c5 _ wr R1.out (by omega) (by omega) (by omega)).mono ?_
      rintro e w2 ⟨rfl, s2, g2⟩
      have M2 := Lib.hid (MK.out w2 _ s2 g2)
      clear s2 g2
      go_wp2_with fail
      go_roundw
      case rel =>
        refine ⟨k + 1, T + l, zss.set k (marks (1 + T) l), by omega, hT2, by go_num, by go_num, M2.out.1, fun t ht => ?_, M2.out.2⟩
        by_cases e : k = t
        · subst e
          rw [List.getD_eq_getElem?_getD, List.getElem?_set, if_pos rfl, if_pos (by rw [Ss.out.lx]; exact hlt), hT.out, El.out]; rfl
        · rw [List.getD_eq_getElem?_getD, List.getElem?_set, if_neg e, ← List.getD_eq_getElem?_getD]; exact Hz.out t (by omega)
      case measure => simp [intOf]; omega
    · have hkn : k = n := by omega
      subst hkn
      have Ez : Hid (zss = marks2 vs 1 k) := Lib.hid (by
        apply List.ext_getElem (by rw [Ss.out.lx]; simp [marks2])
        intro i h1 h2
        have h3 : i < k := by rw [← Ss.out.lx]; exact h1
        have := Hz.out i h3
        rw [← marks2_getD h3, List.getD_eq_getElem?_getD, List.getD_eq_getElem?_getD, List.getElem?_eq_getElem h1, List.getElem?_eq_getElem h2] at this
        exact this)
      go_wp2
      go_ret
      exact ⟨ret_int (by rw [hT.out]), by rw [← Ez.out]; exact Ss.out, Oi.out⟩

set_option maxHeartbeats 800000 in
/-- heldInt64SS. -/
theorem heldSS (A : Option Addr) (n c bo bi : Nat) (vs : List SV) (w : World) (hx : SS w bo bi A n c vs (marks2 vs 1 n)) (hn : n ≤ 1000) (hlen : Hid (∀ i, i < n → (vs.getD i sd0).2.1 ≤ 1000)) :
    Calls Try.prog 47 #[.slice A n c, .int .i64 1] w fun e w' => e = .returned (.int .i64 (1 + (tot vs n : Int))) ∧ w = w' := by
  have HX := Lib.hid hx
  clear hx
  go_enter Try.func47, Try.ntmps47
  go_wp2
  go_loop [1, 5] (fun v i => ∃ (k T : Nat), k ≤ n ∧ Hid (tot vs k = T) ∧ i = .int .i64 (k : Nat) ∧ v = .int .i64 (1 + (T : Int))) (fun _ i => n - (intOf i).toNat)
  case atStart => exact ⟨0, 0, Nat.zero_le _, Lib.hid rfl, rfl, by go_num⟩
  case round =>
    obtain ⟨k, T, hk, hT, rfl, rfl⟩ := hrel
    have hT1 : T ≤ 1000000 := by have := tot_le hlen.out k hk; rw [hT.out] at this; omega
    by_cases hlt : k < n
    · obtain ⟨g, rfl, _, _, hc⟩ := HX.out.at_ (by omega)
      have c1 := hc k hlt
      have r1 := HX.out.row k hlt
      rw [marks2_getD hlt] at r1
      have hl := hlen.out k hlt
      have hT2 : Hid (tot vs (k + 1) = T + (vs.getD k sd0).2.1) := Lib.hid (by rw [tot_succ, hT.out])
      obtain ⟨l, el⟩ : ∃ l, (vs.getD k sd0).2.1 = l := ⟨_, rfl⟩
      obtain ⟨A5, e5⟩ : ∃ A5, (vs.getD k sd0).1 = A5 := ⟨_, rfl⟩
      obtain ⟨c5, ec5⟩ : ∃ c5, (vs.getD k sd0).2.2 = c5 := ⟨_, rfl⟩
      rw [e5, el, ec5] at c1
      rw [e5, el, ec5, hT.out] at r1
      rw [el] at hl hT2
      have R1 := Lib.hid r1
      clear r1 e5 el ec5 hc
      go_wp2_with fail
      refine (heldK (1 + T) _ A5 l c5 _ w R1.out.ri_ R1.out.hid (by omega) (by omega) (Lib.hid rfl) (by omega)).mono ?_
      rintro e w2 ⟨rfl, rfl⟩
      go_wp2_with fail
      go_round
      case rel => exact ⟨k + 1, T + l, by omega, hT2, by go_num, by go_num⟩
      case measure => simp [intOf]; omega
    · have hkn : k = n := by omega
      subst hkn
      go_wp2
      go_ret
      exact ⟨ret_int (by rw [hT.out]), rfl⟩
end Go.Proofs.Ytopaeojcpidfgaa
