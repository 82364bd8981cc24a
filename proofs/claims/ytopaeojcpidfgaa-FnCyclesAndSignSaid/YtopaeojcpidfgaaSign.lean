/- Sign, of the program and of the model. Condition: at most 2097152 entries. -/
import Derived.Test.YtopaeojcpidfgaaAll
namespace Go.Proofs.Ytopaeojcpidfgaa
open Go.RowKit

/-- What Sign answers. -/
def signL (p : List Int) : Int := if isP p = true then sgn p else 0

set_option maxHeartbeats 400000 in
/-- The program's Sign. -/
theorem implSign (A : Option Addr) (c n : Nat) (p : List Int) (w : World) (hp : RI w w.heap.size A p) (lp : Hid (p.length = n)) (hn : n ≤ 2097152) :
    Calls Try.prog 33 #[.slice A n c] w fun e w' => e = .returned (.int .i64 (signL p)) ∧ Below w.heap.size w w' := by
  rcases hs : isP p with _ | _
  · have Fin : Hid (signL p = 0) := Lib.hid (if_neg (by rw [hs]; decide))
    go_enter Try.func33, Try.ntmps33
    go_wp2_with fail
    refine (implIsP A c n p w hp lp hn).mono ?_
    rintro e w1 ⟨rfl, b1⟩
    have B1 := Lib.hid b1
    clear b1
    go_wp2_with fail
    go_ret
    exact ⟨ret_int Fin.out.symm, B1.out⟩
  · have Ip := Lib.hid (isP_iff.1 hs)
    have Fin : Hid (signL p = sgn p) := Lib.hid (if_pos hs)
    have hn20 : n ≤ 20 := by rw [← lp.out]; exact Ip.out.le
    go_enter Try.func33, Try.ntmps33
    go_wp2_with fail
    refine (implIsP A c n p w hp lp hn).mono ?_
    rintro e w0 ⟨rfl, b0⟩
    have B0 := Lib.hid b0
    clear b0
    go_wp2_with fail
    refine (implAll A c n p w0 (hp.up B0.out) lp Ip hn20).mono ?_
    rintro e w1 ⟨A1, m, c1, vs, rfl, s1, hm, b1⟩
    have B1 : Hid (Below w.heap.size w w1) := Lib.hid (btr B0.out b1)
    have lm : Hid ((cycs p).length = m) := Lib.hid s1.lx
    clear s1 b1
    by_cases h2 : (n - m) % 2 = 0
    · have hd : (((n : Int) - (m : Int)) % 2 == 0) = true := by rw [beq_iff_eq]; omega
      have Fs : Hid (sgn p = 1) := Lib.hid (by unfold sgn; rw [lp.out, lm.out, if_pos h2])
      clear h2
      go_wp2_with fail
      go_ret
      exact ⟨ret_int (by rw [Fin.out, Fs.out]), B1.out⟩
    · have hd : (((n : Int) - (m : Int)) % 2 == 0) = false := by rw [beq_eq_false_iff_ne]; omega
      have Fs : Hid (sgn p = -1) := Lib.hid (by unfold sgn; rw [lp.out, lm.out, if_neg h2])
      clear h2
      go_wp2_with fail
      go_ret
      exact ⟨ret_int (by rw [Fin.out, Fs.out]), B1.out⟩

set_option maxHeartbeats 400000 in
/-- The model's Sign. -/
theorem specSign (A : Option Addr) (c n : Nat) (p : List Int) (w : World) (hp : RI w w.heap.size A p) (lp : Hid (p.length = n)) (hn : n ≤ 2097152) (hc : n ≤ c) :
    Calls Try.prog 34 #[.slice A n c] w fun e w' => e = .returned (.int .i64 (signL p)) ∧ Below w.heap.size w w' := by
  rcases hs : isP p with _ | _
  · have Fin : Hid (signL p = 0) := Lib.hid (if_neg (by rw [hs]; decide))
    go_enter Try.func34, Try.ntmps34
    go_wp2_with fail
    refine (quiet_below (specIsP A c n p w hp lp hn hc)).mono ?_
    rintro e w1 ⟨rfl, b1⟩
    have B1 := Lib.hid b1
    clear b1
    go_wp2_with fail
    go_ret
    exact ⟨ret_int Fin.out.symm, B1.out⟩
  · have Ip := Lib.hid (isP_iff.1 hs)
    have Fin : Hid (signL p = sgn p) := Lib.hid (if_pos hs)
    have hn20 : n ≤ 20 := by rw [← lp.out]; exact Ip.out.le
    go_enter Try.func34, Try.ntmps34
    go_wp2_with fail
    refine (quiet_below (specIsP A c n p w hp lp hn hc)).mono ?_
    rintro e w0 ⟨rfl, b0⟩
    have B0 := Lib.hid b0
    clear b0
    go_wp2_with fail
    refine (specAll A c n p w0 (hp.up B0.out) lp Ip hn20).mono ?_
    rintro e w1 ⟨A1, m, c1, vs, rfl, s1, hm, b1⟩
    have B1 : Hid (Below w.heap.size w w1) := Lib.hid (btr B0.out b1)
    have lm : Hid ((cycs p).length = m) := Lib.hid s1.lx
    clear s1 b1
    by_cases h2 : (n - m) % 2 = 0
    · have hd : (((n : Int) - (m : Int)) % 2 == 1) = false := by rw [beq_eq_false_iff_ne]; omega
      have Fs : Hid (sgn p = 1) := Lib.hid (by unfold sgn; rw [lp.out, lm.out, if_pos h2])
      clear h2
      go_wp2_with fail
      go_ret
      exact ⟨ret_int (by rw [Fin.out, Fs.out]), B1.out⟩
    · have hd : (((n : Int) - (m : Int)) % 2 == 1) = true := by rw [beq_iff_eq]; omega
      have Fs : Hid (sgn p = -1) := Lib.hid (by unfold sgn; rw [lp.out, lm.out, if_neg h2])
      clear h2
      go_wp2_with fail
      go_ret
      exact ⟨ret_int (by rw [Fin.out, Fs.out]), B1.out⟩
end Go.Proofs.Ytopaeojcpidfgaa
