/- The walks of the laws FnExactElementOrder: they return true at every input, and write nothing that was there. No condition. -/
import Derived.Test.YtopaeojcpidfgaaOrder
namespace Go.Proofs.Ytopaeojcpidfgaa
open Go.RowKit

set_option maxHeartbeats 1000000 in
/-- The law FnExactElementOrder. -/
theorem lawElementOrder (P : Option Addr) (cp np : Nat) (p : List Int) (w : World) (hp : RI w w.heap.size P p) (lp : Hid (p.length = np)) :
    Calls Try.prog 11 #[.slice P np cp] w fun e w' => e = .returned (.bool true) ∧ Below w.heap.size w w' := by
  by_cases hnp : np ≤ 1048576
  · skip
    go_enter Try.func11, Try.ntmps11
    go_wp2_with fail
    refine (toS_any P cp np p w hp lp (by omega)).mono ?_
    rintro e w1 ⟨A1, c1, rfl, s1, b1⟩
    have B1 : Hid (Below w.heap.size w w1) := Lib.hid b1
    have Stp_1 := Lib.hid s1
    have le1 := s1.le.1
    clear s1 b1
    go_wp2_with fail
    refine (specElementOrder A1 c1 np p w1 Stp_1.out.ri_ lp (by omega) le1).mono ?_
    rintro e w2 ⟨rfl, b2⟩
    have B2 : Hid (Below w.heap.size w w2) := Lib.hid (btr B1.out b2)
    have Stp_2 := Lib.hid (Stp_1.out.up b2)
    clear Stp_1
    clear b2
    clear Stp_2
    go_wp2_with fail
    refine (toS_any P cp np p w2 (hp.up B2.out) lp (by omega)).mono ?_
    rintro e w3 ⟨A3, c3, rfl, s3, b3⟩
    have B3 : Hid (Below w.heap.size w w3) := Lib.hid (btr B2.out b3)
    have Sxp_3 := Lib.hid s3
    have le3 := s3.le.1
    clear s3 b3
    go_wp2_with fail
    refine (implElementOrder A3 c3 np p w3 Sxp_3.out.ri_ lp (by omega)).mono ?_
    rintro e w4 ⟨rfl, b4⟩
    have B4 : Hid (Below w.heap.size w w4) := Lib.hid (btr B3.out b4)
    have Sxp_4 := Lib.hid (Sxp_3.out.up b4)
    clear Sxp_3
    clear b4
    go_wp2_with fail
    refine (toS_any P cp np p w4 (hp.up B4.out) lp (by omega)).mono ?_
    rintro e w5 ⟨A5, c5, rfl, s5, b5⟩
    have B5 : Hid (Below w.heap.size w w5) := Lib.hid (btr B4.out b5)
    have Sxp_5 := Lib.hid (Sxp_4.out.up b5)
    clear Sxp_4
    have Syp_5 := Lib.hid s5
    have le5 := s5.le.1
    clear s5 b5
    go_wp2_with fail
    refine (eqS_same _ _ A3 A5 np c3 np c5 w5 Sxp_5.out Syp_5.out (by omega)).mono ?_
    rintro e w6 ⟨rfl, b6⟩
    have B6 : Hid (Below w.heap.size w w6) := Lib.hid (btr B5.out b6)
    have Sxp_6 := Lib.hid (Sxp_5.out.up b6)
    clear Sxp_5
    have Syp_6 := Lib.hid (Syp_5.out.up b6)
    clear Syp_5
    clear b6
    go_wp2_with fail
    go_ret
    exact ⟨rfl, B6.out⟩
  · have d1 : decide ((1048576 : Int) < np) = true := by simp; omega
    go_enter Try.func11, Try.ntmps11
    go_wp2
    go_ret
    exact ⟨rfl, Below.refl _ _⟩

end Go.Proofs.Ytopaeojcpidfgaa
