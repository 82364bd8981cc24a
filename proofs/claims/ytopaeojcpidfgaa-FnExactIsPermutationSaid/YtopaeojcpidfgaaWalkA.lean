/- The walk of the law FnExactIsPermutation: it returns true at every list, and writes nothing that was there. No condition. -/
import Derived.Test.YtopaeojcpidfgaaPerm
namespace Go.Proofs.Ytopaeojcpidfgaa
open Go.RowKit

set_option maxHeartbeats 400000 in
theorem lawIsPermutation (A : Option Addr) (c n : Nat) (xs : List Int) (w : World) (hx : RI w w.heap.size A xs) (lx : Hid (xs.length = n)) :
    Calls Try.prog 6 #[.slice A n c] w fun e w' => e = .returned (.bool true) ∧ Below w.heap.size w w' := by
  by_cases hn : n ≤ 1048576
  · go_enter Try.func6, Try.ntmps6
    go_wp2_with fail
    refine (toS_any A c n xs w hx lx (by omega)).mono ?_
    rintro e w1 ⟨A1, c1, rfl, s1, b1⟩
    have S1 := Lib.hid s1
    have B1 := Lib.hid b1
    have le1 := s1.le.1
    clear s1 b1
    go_wp2_with fail
    refine (quiet_below (specIsP A1 c1 n xs w1 S1.out.ri_ lx (by omega) le1)).mono ?_
    rintro e w2 ⟨rfl, b2⟩
    have B2 : Hid (Below w.heap.size w w2) := Lib.hid (btr B1.out b2)
    clear b2
    go_wp2_with fail
    refine (toS_any A c n xs w2 (hx.up B2.out) lx (by omega)).mono ?_
    rintro e w3 ⟨A3, c3, rfl, s3, b3⟩
    have S3 := Lib.hid s3
    have B3 : Hid (Below w.heap.size w w3) := Lib.hid (btr B2.out b3)
    clear s3 b3
    go_wp2_with fail
    refine (implIsP A3 c3 n xs w3 S3.out.ri_ lx (by omega)).mono ?_
    rintro e w4 ⟨rfl, b4⟩
    have B4 : Hid (Below w.heap.size w w4) := Lib.hid (btr B3.out b4)
    have S4 := Lib.hid (S3.out.up b4)
    clear b4
    go_wp2_with fail
    refine (toS_any A c n xs w4 (hx.up B4.out) lx (by omega)).mono ?_
    rintro e w5 ⟨A5, c5, rfl, s5, b5⟩
    have S5 := Lib.hid s5
    have B5 : Hid (Below w.heap.size w w5) := Lib.hid (btr B4.out b5)
    have S4' := Lib.hid (S4.out.up b5)
    clear s5 b5
    go_wp2_with fail
    refine (quiet_below (eqS_any A3 A5 c3 c5 n n xs xs w5 S4'.out.ri_ S5.out.ri_ lx lx (by omega) (by omega))).mono ?_
    rintro e w6 ⟨rfl, b6⟩
    have B6 : Hid (Below w.heap.size w w6) := Lib.hid (btr B5.out b6)
    clear b6
    go_wp2_with fail
    go_ret
    exact ⟨rfl, B6.out⟩
  · have d1 : decide ((1048576 : Int) < n) = true := by simp; omega
    go_enter Try.func6, Try.ntmps6
    go_wp2
    go_ret
    exact ⟨rfl, Below.refl _ _⟩
end Go.Proofs.Ytopaeojcpidfgaa
