/- The walks of the laws FnExactFormatCycles: they return true at every input, and write nothing that was there. No condition. -/
import Derived.Test.YtplgdbkolklgnaaDoorFmtC
import Derived.Test.YtplgdbkolklgnaaDoorHelp
namespace Go.Proofs.YtplgdbkolklgnaaDoor
open Go.RowKit

set_option maxHeartbeats 2000000 in
set_option maxRecDepth 100000 in
/-- The law FnExactFormatCycles. -/
theorem lawFormatCycles (P : Option Addr) (cp np : Nat) (p : List Int) (w : World) (hp : RI w w.heap.size P p) (lp : Hid (p.length = np)) :
    Calls Tryd.prog 4 #[.slice P np cp] w fun e w' => e = .returned (.bool true) ∧ Below w.heap.size w w' := by
  by_cases hnp : np ≤ 1048576
  · skip
    go_enter Tryd.func4, Tryd.ntmps4
    go_wp2_with fail
    refine (toS_any P cp np p w hp lp (by omega)).mono ?_
    rintro e w1 ⟨A1, c1, rfl, s1, b1⟩
    have B1 : Hid (Below w.heap.size w w1) := Lib.hid b1
    have S1 := Lib.hid s1
    have le1 := s1.le.1
    clear s1 b1
    go_wp2_with fail
    refine (specFormatCycles A1 c1 np p w1 S1.out.ri_ lp (by omega) le1).mono ?_
    rintro e w2 ⟨t2, rfl, ht2, b2⟩
    have B2 : Hid (Below w.heap.size w w2) := Lib.hid (btr B1.out b2)
    have T2 := Lib.hid ht2
    clear b2 ht2 S1
    go_wp2_with fail
    refine (toS_any P cp np p w2 (hp.up B2.out) lp (by omega)).mono ?_
    rintro e w3 ⟨A3, c3, rfl, s3, b3⟩
    have B3 : Hid (Below w.heap.size w w3) := Lib.hid (btr B2.out b3)
    have S3 := Lib.hid s3
    clear s3 b3
    go_wp2_with fail
    refine (implFormatCycles A3 c3 np p w3 S3.out.ri_ lp (by omega)).mono ?_
    rintro e w4 ⟨t4, rfl, ht4, b4⟩
    have B4 : Hid (Below w.heap.size w w4) := Lib.hid (btr B3.out b4)
    have S4 := Lib.hid (S3.out.up b4)
    have eq : (t4.toList == t2.toList) = true := by rw [ht4, T2.out]; simp
    have ne : (!(t4.toList == t2.toList)) = false := by rw [eq]; rfl
    clear b4 ht4 S3
    go_wp2_with fail
    refine (toS_any P cp np p w4 (hp.up B4.out) lp (by omega)).mono ?_
    rintro e w5 ⟨A5, c5, rfl, s5, b5⟩
    have B5 : Hid (Below w.heap.size w w5) := Lib.hid (btr B4.out b5)
    have S5 := Lib.hid (S4.out.up b5)
    have S6 := Lib.hid s5
    clear s5 b5
    go_wp2_with fail
    refine (eqS_same _ _ A3 A5 np c3 np c5 w5 S5.out S6.out (by omega)).mono ?_
    rintro e w6 ⟨rfl, b6⟩
    have B6 : Hid (Below w.heap.size w w6) := Lib.hid (btr B5.out b6)
    clear b6
    go_wp2_with fail
    go_ret
    exact ⟨rfl, B6.out⟩
  · have d1 : decide ((1048576 : Int) < np) = true := by simp; omega
    go_enter Tryd.func4, Tryd.ntmps4
    go_wp2
    go_ret
    exact ⟨rfl, Below.refl _ _⟩

end Go.Proofs.YtplgdbkolklgnaaDoor
