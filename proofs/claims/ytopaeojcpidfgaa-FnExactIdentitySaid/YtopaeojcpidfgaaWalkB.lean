/- The walk of the law FnExactIdentity: it returns true at every number, and writes nothing that was there. No condition. -/
import Derived.Test.YtopaeojcpidfgaaIdent
namespace Go.Proofs.Ytopaeojcpidfgaa
open Go.RowKit

set_option maxHeartbeats 1000000 in
theorem lawIdentity (n : Int) (w : World) :
    Calls Try.prog 7 #[.int .i64 n] w fun e w' => e = .returned (.bool true) ∧ Below w.heap.size w w' := by
  go_enter Try.func7, Try.ntmps7
  go_wp2_with fail
  refine (specId n w).mono ?_
  rintro e w1 ⟨A1, n1, c1, rfl, s1, l1, b1⟩
  have S1 := Lib.hid s1
  have B1 := Lib.hid b1
  clear s1 b1
  go_wp2_with fail
  refine (implId n w1).mono ?_
  rintro e w2 ⟨A2, n2, c2, rfl, s2, l2, b2⟩
  have S2 := Lib.hid s2
  have S1' := Lib.hid (S1.out.up b2)
  have B2 : Hid (Below w.heap.size w w2) := Lib.hid (btr B1.out b2)
  clear s2 b2
  go_wp2_with fail
  refine (eqS_same _ _ A2 A1 n2 c2 n1 c1 w2 S2.out S1'.out (by omega)).mono ?_
  rintro e w3 ⟨rfl, b3⟩
  have S2_3 := Lib.hid (S2.out.up b3)
  have S1_3 := Lib.hid (S1'.out.up b3)
  have B3 : Hid (Below w.heap.size w w3) := Lib.hid (btr B2.out b3)
  clear b3
  go_wp2_with fail
  refine (mark1 w1.heap.size A2 n2 c2 _ w3 S2_3.out (by omega)).mono ?_
  rintro e w4 ⟨rfl, s4, g4⟩
  have L1 := Lib.hid S1.out.lies
  have L2 := Lib.hid S2.out.lies
  have S2_4 := Lib.hid s4
  have S1_4 := Lib.hid (S1_3.out.far g4 L1.out L2.out (.inl (Nat.le_refl _)))
  have B4 : Hid (Below w.heap.size w w4) := Lib.hid (B3.out.trans (below_mark g4 L2.out B1.out.size B3.out.size))
  clear s4 g4
  go_wp2_with fail
  refine (held1 _ A2 n2 c2 w4 S2_4.out (by omega)).mono ?_
  rintro e w4' ⟨rfl, rfl⟩
  go_wp2_with fail
  refine (implId n w4).mono ?_
  rintro e w5 ⟨A5, n5, c5, rfl, s5, l5, b5⟩
  have S5 := Lib.hid s5
  have S1_5 := Lib.hid (S1_4.out.up b5)
  have S2_5 := Lib.hid (S2_4.out.up b5)
  have B5 : Hid (Below w.heap.size w w5) := Lib.hid (btr B4.out b5)
  clear s5 b5
  go_wp2_with fail
  refine (eqS_same _ _ A5 A1 n5 c5 n1 c1 w5 S5.out S1_5.out (by omega)).mono ?_
  rintro e w6 ⟨rfl, b6⟩
  have S2_6 := Lib.hid (S2_5.out.up b6)
  have B6 : Hid (Below w.heap.size w w6) := Lib.hid (btr B5.out b6)
  clear b6
  go_wp2_with fail
  refine (held1 _ A2 n2 c2 w6 S2_6.out (by omega)).mono ?_
  rintro e w6' ⟨rfl, rfl⟩
  go_wp2_with fail
  go_ret
  exact ⟨rfl, B6.out⟩
end Go.Proofs.Ytopaeojcpidfgaa
