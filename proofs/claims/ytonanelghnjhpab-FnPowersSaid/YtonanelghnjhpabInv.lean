/- Inverse and Support, of the program and of the model. Condition: at most 2097152 entries. -/
import Derived.Test.YtonanelghnjhpabComp
namespace Go.Proofs.Ytonanelghnjhpab
open Go.RowKit

theorem invL_length (p : List Int) (k : Nat) : (invL p k).length = p.length := by
  induction k with
  | zero => simp [invL]
  | succ k ih => simp [invL, ih]
def inverseL (p : List Int) : List Int := if isP p = true then invL p p.length else []

set_option maxHeartbeats 400000 in
/-- permutation.inverse. -/
theorem implInv (A : Option Addr) (c n : Nat) (p : List Int) (w : World) (hp : RI w w.heap.size A p) (lp : Hid (p.length = n)) (ip : Hid (IsP p)) (hn : n ≤ 20) :
    Calls Try.prog 33 #[.slice A n c] w fun e w' => ∃ A' c', e = .returned (.slice A' n c') ∧ Slc w' w.heap.size A' n c' (invL p n) ∧ Below w.heap.size w w' := by
  obtain ⟨i0, hi, hz0, hz1, hz2⟩ := info_parts infoI
  go_enter Try.func33, Try.ntmps33
  go_wp2_with (first | (at_make; refine wpList_make_full _ rfl _ _ 40 rfl w.heap.size 2 i0 (.int .i64 0) 1 Try.underlying40 hi hz0 hz1 .i64 .i64 _ _ n rfl rfl rfl rfl (by rw [hz2]; omega) (by unfold maxLen; omega) (Nat.le_refl _) ?_; intro w1 hown1 hgrow1))
  have row1 := Row.made hown1
  have bel1 : Below w.heap.size w w1 := (Below.refl _ _).grown hgrow1 (Nat.le_refl _) (fun k e => nomatch e)
  clear hown1 hgrow1
  go_loopw [4, 5, 11] (fun _ _ i wr => ∃ k : Nat, k ≤ n ∧ i = .int .i64 (k : Nat) ∧ Row wr w.heap.size w.heap.size n n (invL p k) ∧ Below w.heap.size w wr) (fun _ _ i _ => n - (intOf i).toNat)
  case atStart => exact ⟨0, Nat.zero_le _, rfl, by unfold invL; rw [lp.out]; exact row1, bel1⟩
  case round =>
    clear row1 bel1
    obtain ⟨k, hk, rfl, row, bel⟩ := hrel
    by_cases hlt : k < n
    · obtain ⟨b, off, rfl, hb, hc⟩ := hp (by rw [lp.out]; omega)
      obtain ⟨y, ey⟩ : ∃ y, nx p k = y := ⟨_, rfl⟩
      have hy : y < n := by rw [← ey, ← lp.out]; exact nx_lt ip.out (by rw [lp.out]; exact hlt)
      have c1 := (bel.cell (p := ⟨b, off + k, none⟩) hb).trans (hc k (by rw [lp.out]; omega))
      rw [nx_val ip.out (by rw [lp.out]; exact hlt), ey] at c1
      have c3 := row.cell hy
      have f3 := row.free y
      have Ey := Lib.hid ey
      clear ey hc hp
      have Row2 := Lib.hid (row.store y (k : Int))
      have Bel2 := Lib.hid (bel.setCell (p := ⟨w.heap.size, y, none⟩) (Nat.le_refl _) (.int .i64 (k : Int)))
      obtain ⟨z, hz⟩ : ∃ z, (invL p k).getD y 0 = z := ⟨_, rfl⟩
      rw [hz] at c3
      clear row bel hz
      go_wp2
      go_roundw
      case rel => exact ⟨k + 1, by omega, by go_num, by rw [show invL p (k + 1) = (invL p k).set y (k : Int) from by rw [← Ey.out]; rfl]; exact Row2.out, Bel2.out⟩
      case measure => simp [intOf]; omega
    · have hkn : k = n := by omega
      subst hkn
      have Ro := Lib.hid row
      have Be := Lib.hid bel
      clear row bel
      go_wp2
      go_ret
      exact ⟨_, _, rfl, Ro.out.slc, Be.out⟩

set_option maxHeartbeats 400000 in
/-- The program's Inverse. -/
theorem implInverse (A : Option Addr) (c n : Nat) (p : List Int) (w : World) (hp : RI w w.heap.size A p) (lp : Hid (p.length = n)) (hn : n ≤ 2097152) :
    Calls Try.prog 21 #[.slice A n c] w fun e w' => ∃ A' n' c', e = .returned (.slice A' n' c') ∧ Slc w' w.heap.size A' n' c' (inverseL p) ∧ n' ≤ 20 ∧ Below w.heap.size w w' := by
  rcases hs : isP p with _ | _
  · have Fin : Hid (inverseL p = []) := Lib.hid (if_neg (by rw [hs]; decide))
    go_enter Try.func21, Try.ntmps21
    go_wp2_with fail
    refine (implIsP A c n p w hp lp hn).mono ?_
    rintro e w1 ⟨rfl, b1⟩
    have B1 := Lib.hid b1
    clear b1
    go_wp2_with fail
    go_ret
    exact ⟨_, _, _, rfl, by rw [Fin.out]; exact Slc.nil_, Nat.zero_le _, B1.out⟩
  · have Fin : Hid (inverseL p = invL p n) := Lib.hid (by unfold inverseL; rw [if_pos hs, lp.out])
    have Ip := Lib.hid (isP_iff.1 hs)
    have hn20 : n ≤ 20 := by rw [← lp.out]; exact Ip.out.le
    go_enter Try.func21, Try.ntmps21
    go_wp2_with fail
    refine (implIsP A c n p w hp lp hn).mono ?_
    rintro e w1 ⟨rfl, b1⟩
    have B1 := Lib.hid b1
    clear b1
    go_wp2_with fail
    refine (implInv A c n p w1 (hp.up B1.out) lp Ip hn20).mono ?_
    rintro e w2 ⟨A2, c2, rfl, s2, b2⟩
    have S2 := Lib.hid (s2.mono B1.out.size)
    have B2 : Hid (Below w.heap.size w w2) := Lib.hid (btr B1.out b2)
    clear s2 b2
    go_wp2_with fail
    go_ret
    exact ⟨_, _, _, rfl, by rw [Fin.out]; exact S2.out, hn20, B2.out⟩

end Go.Proofs.Ytonanelghnjhpab
