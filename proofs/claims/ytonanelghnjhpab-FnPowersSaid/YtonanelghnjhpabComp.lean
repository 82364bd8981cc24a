/- Compose and Inverse, of the program and of the model. Condition: at most 2097152 entries. -/
import Derived.Test.YtonanelghnjhpabIdent
namespace Go.Proofs.Ytonanelghnjhpab
open Go.RowKit

def sameD (p q : List Int) : Bool := decide (p.length = q.length) && isP p && isP q
theorem sameD_iff {p q : List Int} : sameD p q = true ↔ p.length = q.length ∧ IsP p ∧ IsP q := by
  unfold sameD
  rw [Bool.and_eq_true, Bool.and_eq_true, decide_eq_true_eq, isP_iff, isP_iff]
  exact ⟨fun ⟨⟨a, b⟩, c⟩ => ⟨a, b, c⟩, fun ⟨a, b, c⟩ => ⟨⟨a, b⟩, c⟩⟩

set_option maxHeartbeats 400000 in
/-- areOfEqualDegree. -/
theorem implEq (A B : Option Addr) (c d n m : Nat) (p q : List Int) (w : World) (hp : RI w w.heap.size A p) (hq : RI w w.heap.size B q) (lp : Hid (p.length = n)) (lq : Hid (q.length = m)) (hn : n ≤ 2097152) (hm : m ≤ 2097152) :
    Calls Try.prog 26 #[.slice A n c, .slice B m d] w fun e w' => e = .returned (.bool (sameD p q)) ∧ Below w.heap.size w w' := by
  by_cases hl : n = m
  · have Hl := Lib.hid hl
    have hd : ((n : Int) == (m : Int)) = true := by rw [beq_iff_eq]; omega
    clear hl
    rcases h1 : isP p with _ | _
    · have Fin : Hid (sameD p q = false) := Lib.hid (by unfold sameD; rw [h1]; simp)
      go_enter Try.func26, Try.ntmps26
      go_wp2_with fail
      refine (implIsP A c n p w hp lp (by omega)).mono ?_
      rintro e w1 ⟨rfl, b1⟩
      have B1 := Lib.hid b1
      clear b1
      go_wp2_with fail
      go_ret
      exact ⟨ret_bool Fin.out.symm, B1.out⟩
    · have Fin : Hid (sameD p q = isP q) := Lib.hid (by unfold sameD; rw [h1, lp.out, lq.out, Hl.out]; simp)
      go_enter Try.func26, Try.ntmps26
      go_wp2_with fail
      refine (implIsP A c n p w hp lp (by omega)).mono ?_
      rintro e w1 ⟨rfl, b1⟩
      have B1 := Lib.hid b1
      clear b1
      go_wp2_with fail
      refine (implIsP B d m q w1 (hq.up B1.out) lq (by omega)).mono ?_
      rintro e w2 ⟨rfl, b2⟩
      have B2 : Hid (Below w.heap.size w w2) := Lib.hid (btr B1.out b2)
      clear b2
      go_wp2_with fail
      go_ret
      exact ⟨ret_bool Fin.out.symm, B2.out⟩
  · have Fin : Hid (sameD p q = false) := Lib.hid (by unfold sameD; rw [decide_eq_false (by rw [lp.out, lq.out]; exact hl)]; rfl)
    have hd : ((n : Int) == (m : Int)) = false := by rw [beq_eq_false_iff_ne]; omega
    clear hl
    go_enter Try.func26, Try.ntmps26
    go_wp2
    go_ret
    exact ⟨ret_bool Fin.out.symm, Below.refl _ _⟩

theorem compL_length (p q : List Int) : (compL p q).length = p.length := by simp [compL]
theorem compL_getD {p q : List Int} {k : Nat} (hk : k < p.length) : (compL p q).getD k 0 = q.getD (nx p k) 0 := by
  unfold compL nx
  rw [List.getD_eq_getElem?_getD, List.getElem?_map, List.getElem?_eq_getElem hk, List.getD_eq_getElem?_getD (l := p), List.getElem?_eq_getElem hk]
  rfl

set_option maxHeartbeats 400000 in
/-- permutation.then. -/
theorem implThen (A B : Option Addr) (c d n : Nat) (p q : List Int) (w : World) (hp : RI w w.heap.size A p) (hq : RI w w.heap.size B q) (lp : Hid (p.length = n)) (lq : Hid (q.length = n)) (ip : Hid (IsP p)) (hn : n ≤ 20) :
    Calls Try.prog 27 #[.slice A n c, .slice B n d] w fun e w' => ∃ A' c', e = .returned (.slice A' n c') ∧ Slc w' w.heap.size A' n c' (compL p q) ∧ Below w.heap.size w w' := by
  obtain ⟨i0, hi, hz0, hz1, hz2⟩ := info_parts infoI
  go_enter Try.func27, Try.ntmps27
  go_wp2_with (first | (at_make; refine wpList_make_full _ rfl _ _ 40 rfl w.heap.size 2 i0 (.int .i64 0) 1 Try.underlying40 hi hz0 hz1 .i64 .i64 _ _ n rfl rfl rfl rfl (by rw [hz2]; omega) (by unfold maxLen; omega) (Nat.le_refl _) ?_; intro w1 hown1 hgrow1))
  have row1 := Row.made hown1
  have bel1 : Below w.heap.size w w1 := (Below.refl _ _).grown hgrow1 (Nat.le_refl _) (fun k e => nomatch e)
  clear hown1 hgrow1
  go_loopw [6, 7, 13] (fun _ _ i wr => ∃ k ys, k ≤ n ∧ i = .int .i64 (k : Nat) ∧ Row wr w.heap.size w.heap.size n n ys ∧ (∀ j, j < k → ys.getD j 0 = q.getD (nx p j) 0) ∧ Below w.heap.size w wr) (fun _ _ i _ => n - (intOf i).toNat)
  case atStart => exact ⟨0, _, Nat.zero_le _, rfl, row1, fun j h => absurd h (by omega), bel1⟩
  case round =>
    clear row1 bel1
    obtain ⟨k, ys, hk, rfl, row, heq, bel⟩ := hrel
    have Heq := Lib.hid heq
    clear heq
    by_cases hlt : k < n
    · obtain ⟨b, off, rfl, hb, hc⟩ := hp (by rw [lp.out]; omega)
      obtain ⟨b', off', rfl, hb', hc'⟩ := hq (by rw [lq.out]; omega)
      obtain ⟨y, ey⟩ : ∃ y, nx p k = y := ⟨_, rfl⟩
      have hy : y < n := by rw [← ey, ← lp.out]; exact nx_lt ip.out (by rw [lp.out]; exact hlt)
      have c1 := (bel.cell (p := ⟨b, off + k, none⟩) hb).trans (hc k (by rw [lp.out]; omega))
      rw [nx_val ip.out (by rw [lp.out]; exact hlt), ey] at c1
      have c2 := (bel.cell (p := ⟨b', off' + y, none⟩) hb').trans (hc' y (by rw [lq.out]; omega))
      obtain ⟨x, ex⟩ : ∃ x, q.getD y 0 = x := ⟨_, rfl⟩
      rw [ex] at c2
      have c3 := row.cell hlt
      have f3 := row.free k
      have Ex := Lib.hid ex
      have Ey := Lib.hid ey
      clear ex ey hc hc' hp hq
      have Row2 := Lib.hid (row.store k x)
      have Bel2 := Lib.hid (bel.setCell (p := ⟨w.heap.size, k, none⟩) (Nat.le_refl _) (.int .i64 x))
      have hyl : Hid (ys.length = n) := Lib.hid row.1
      clear row bel
      go_wp2
      go_roundw
      case rel =>
        refine ⟨k + 1, _, by omega, by go_num, Row2.out, fun j hj => ?_, Bel2.out⟩
        rw [set_getD hyl.out (by omega)]
        by_cases e : k = j
        · subst e; rw [if_pos rfl, Ey.out, Ex.out]
        · rw [if_neg e]; exact Heq.out j (by omega)
      case measure => simp [intOf]; omega
    · have hkn : k = n := by omega
      subst hkn
      have Em : Hid (ys = compL p q) := Lib.hid (ext_getD row.1 ((compL_length p q).trans lp.out) fun j hj => by rw [Heq.out j hj, compL_getD (by rw [lp.out]; exact hj)])
      have Ro := Lib.hid row
      have Be := Lib.hid bel
      clear row bel
      go_wp2
      go_ret
      exact ⟨_, _, rfl, by rw [← Em.out]; exact Ro.out.slc, Be.out⟩

def composeL (p q : List Int) : List Int := if sameD p q = true then compL p q else []

set_option maxHeartbeats 400000 in
/-- The program's Compose. -/
theorem implCompose (A B : Option Addr) (c d n m : Nat) (p q : List Int) (w : World) (hp : RI w w.heap.size A p) (hq : RI w w.heap.size B q) (lp : Hid (p.length = n)) (lq : Hid (q.length = m)) (hn : n ≤ 2097152) (hm : m ≤ 2097152) :
    Calls Try.prog 15 #[.slice A n c, .slice B m d] w fun e w' => ∃ A' n' c', e = .returned (.tuple #[.slice A' n' c', .bool (sameD p q)]) ∧ Slc w' w.heap.size A' n' c' (composeL p q) ∧ n' ≤ 20 ∧ Below w.heap.size w w' := by
  rcases hs : sameD p q with _ | _
  · have Fin : Hid (composeL p q = []) := Lib.hid (if_neg (by rw [hs]; decide))
    go_enter Try.func15, Try.ntmps15
    go_wp2_with fail
    refine (implEq A B c d n m p q w hp hq lp lq hn hm).mono ?_
    rintro e w1 ⟨rfl, b1⟩
    have B1 := Lib.hid b1
    clear b1
    go_wp2_with fail
    go_ret2
    exact ⟨_, _, _, rfl, by rw [Fin.out]; exact Slc.nil_, Nat.zero_le _, B1.out⟩
  · have Fin : Hid (composeL p q = compL p q) := Lib.hid (if_pos hs)
    obtain ⟨h1, h2, h3⟩ := sameD_iff.1 hs
    have Ip := Lib.hid h2
    have hn20 : n ≤ 20 := by rw [← lp.out]; exact h2.le
    obtain rfl : n = m := by rw [← lp.out, ← lq.out, h1]
    clear h1 h2 h3
    go_enter Try.func15, Try.ntmps15
    go_wp2_with fail
    refine (implEq A B c d n n p q w hp hq lp lq hn hn).mono ?_
    rintro e w1 ⟨rfl, b1⟩
    have B1 := Lib.hid b1
    clear b1
    go_wp2_with fail
    refine (implThen A B c d n p q w1 (hp.up B1.out) (hq.up B1.out) lp lq Ip hn20).mono ?_
    rintro e w2 ⟨A2, c2, rfl, s2, b2⟩
    have S2 := Lib.hid (s2.mono B1.out.size)
    have B2 : Hid (Below w.heap.size w w2) := Lib.hid (btr B1.out b2)
    clear s2 b2
    go_wp2_with fail
    go_ret2
    exact ⟨_, _, _, rfl, by rw [Fin.out]; exact S2.out, hn20, B2.out⟩

theorem compL_snoc {p q : List Int} {k : Nat} (hk : k < p.length) : compL (p.take (k + 1)) q = compL (p.take k) q ++ [q.getD (nx p k) 0] := by
  unfold compL nx
  rw [List.take_succ_eq_append_getElem hk, List.map_append, List.getD_eq_getElem?_getD (l := p), List.getElem?_eq_getElem hk]
  rfl

end Go.Proofs.Ytonanelghnjhpab
