/- The walks of the laws FnExactParseCycles: they return true at every input, and write nothing that was there. No condition. -/
import Derived.Test.YtplgdbkolklgnaaDoorPCyP
import Derived.Test.YtplgdbkolklgnaaDoorHelp
namespace Go.Proofs.YtplgdbkolklgnaaDoor
open Go.RowKit

set_option maxHeartbeats 2000000 in
set_option maxRecDepth 100000 in
/-- The law FnExactParseCycles. -/
theorem lawParseCycles (n : Int) (s : ByteArray) (w : World) (wfn : -9223372036854775808 ≤ n ∧ n ≤ 9223372036854775807) :
    Calls Tryd.prog 5 #[.int .i64 n, .string s] w fun e w' => e = .returned (.bool true) ∧ Below w.heap.size w w' := by
  by_cases hs : s.size ≤ 1048576
  · have d1 : decide ((1048576 : Int) < s.size) = false := by simp; omega
    go_enter Tryd.func5, Tryd.ntmps5
    go_wp2_with fail
    refine (specParseCycles n s w (by omega) wfn).mono ?_
    rintro e w1 ⟨A1, n1, c1, rfl, s1, l1, b1⟩
    have B1 := Lib.hid b1
    have W1 := Lib.hid s1
    have L1 := Lib.hid s1.lies
    clear s1 b1
    go_wp2_with fail
    refine (implParseCycles n s w1 (by omega) wfn).mono ?_
    rintro e w2 ⟨A2, n2, c2, rfl, s2, l2, b2⟩
    have B12 := Lib.hid b2
    have B2 : Hid (Below w.heap.size w w2) := Lib.hid (btr B1.out b2)
    have W2 := Lib.hid (W1.out.up b2)
    have G2 := Lib.hid s2
    have L2 := Lib.hid s2.lies
    clear s2 b2
    go_wp2_with fail
    refine (eqS_same _ _ A2 A1 n2 c2 n1 c1 w2 G2.out W2.out (by omega)).mono ?_
    rintro e w3 ⟨rfl, b3⟩
    have B3 : Hid (Below w.heap.size w w3) := Lib.hid (btr B2.out b3)
    have W3 := Lib.hid (W2.out.up b3)
    have G3 := Lib.hid (G2.out.up b3)
    clear b3
    go_wp2_with fail
    refine (markK _ 1 _ A2 n2 c2 _ w3 G3.out (by omega) (by omega) (by omega)).mono ?_
    rintro e w4 ⟨rfl, s4, g4⟩
    have B4 : Hid (Below w.heap.size w w4) := Lib.hid (B3.out.trans (below_mark g4 L2.out B1.out.size B3.out.size))
    have G4 := Lib.hid s4
    have W4 := Lib.hid (W3.out.far g4 L1.out L2.out (.inl (Nat.le_refl _)))
    clear s4 g4
    go_wp2_with fail
    refine (held1 _ A2 n2 c2 w4 G4.out (by omega)).mono ?_
    rintro e w5 ⟨rfl, rfl⟩
    go_wp2_with fail
    refine (implParseCycles n s w4 (by omega) wfn).mono ?_
    rintro e w6 ⟨A6, n6, c6, rfl, s6, l6, b6⟩
    have B6 : Hid (Below w.heap.size w w6) := Lib.hid (btr B4.out b6)
    have H6 := Lib.hid s6
    have G6 := Lib.hid (G4.out.up b6)
    have W6 := Lib.hid (W4.out.up b6)
    clear s6 b6
    go_wp2_with fail
    refine (eqS_same _ _ A6 A1 n6 c6 n1 c1 w6 H6.out W6.out (by omega)).mono ?_
    rintro e w7 ⟨rfl, b7⟩
    have B7 : Hid (Below w.heap.size w w7) := Lib.hid (btr B6.out b7)
    have G7 := Lib.hid (G6.out.up b7)
    clear b7
    go_wp2_with fail
    refine (held1 _ A2 n2 c2 w7 G7.out (by omega)).mono ?_
    rintro e w8 ⟨rfl, rfl⟩
    go_wp2_with fail
    go_ret
    exact ⟨rfl, B7.out⟩
  · have d1 : decide ((1048576 : Int) < s.size) = true := by simp; omega
    go_enter Tryd.func5, Tryd.ntmps5
    go_wp2
    go_ret
    exact ⟨rfl, Below.refl _ _⟩

end Go.Proofs.YtplgdbkolklgnaaDoor
