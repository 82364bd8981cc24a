/- The walks of the laws FnExactPower: they return true at every input, and write nothing that was there. No condition. -/
import Derived.Test.YtonanelghnjhpabPow
namespace Go.Proofs.Ytonanelghnjhpab
open Go.RowKit

set_option maxHeartbeats 2000000 in
set_option maxRecDepth 100000 in
/-- The law FnExactPower. -/
theorem lawPower (P : Option Addr) (cp np : Nat) (p : List Int) (k : Int) (w : World) (hp : RI w w.heap.size P p) (lp : Hid (p.length = np)) (wfk : -9223372036854775808 ≤ k ∧ k ≤ 9223372036854775807) :
    Calls Try.prog 3 #[.slice P np cp, .int .i64 k] w fun e w' => e = .returned (.bool true) ∧ Below w.heap.size w w' := by
  by_cases hnp : np ≤ 1048576
  · skip
    go_enter Try.func3, Try.ntmps3
    go_wp2_with fail
    refine (toS_any P cp np p w hp lp (by omega)).mono ?_
    rintro e w1 ⟨A1, c1, rfl, s1, b1⟩
    have B1 : Hid (Below w.heap.size w w1) := Lib.hid b1
    have Stp_1 := Lib.hid s1
    have Ltp := Lib.hid s1.lies
    have le1 := s1.le.1
    clear s1 b1
    go_wp2_with fail
    refine (specPower A1 c1 np p k w1 Stp_1.out.ri_ lp (by omega) le1 wfk.1 wfk.2).mono ?_
    rintro e w2 ⟨A2, n2, c2, rfl, s2, l2, b2⟩
    have B1_2 : Hid (Below w1.heap.size w1 w2) := Lib.hid b2
    have B2 : Hid (Below w.heap.size w w2) := Lib.hid (btr B1.out b2)
    have Stp_2 := Lib.hid (Stp_1.out.up b2)
    clear Stp_1
    have Sw0_2 := Lib.hid s2
    have Lw0 := Lib.hid s2.lies
    clear s2 b2
    clear Stp_2 Ltp
    go_wp2_with fail
    refine (toS_any P cp np p w2 (hp.up B2.out) lp (by omega)).mono ?_
    rintro e w3 ⟨A3, c3, rfl, s3, b3⟩
    have B1_3 : Hid (Below w1.heap.size w1 w3) := Lib.hid (btr B1_2.out b3)
    have B2_3 : Hid (Below w2.heap.size w2 w3) := Lib.hid b3
    have B3 : Hid (Below w.heap.size w w3) := Lib.hid (btr B2.out b3)
    have Sw0_3 := Lib.hid (Sw0_2.out.up b3)
    clear Sw0_2
    have Sxp_3 := Lib.hid s3
    have Lxp := Lib.hid s3.lies
    have le3 := s3.le.1
    clear s3 b3
    go_wp2_with fail
    refine (implPower A3 c3 np p k w3 Sxp_3.out.ri_ lp (by omega) wfk.1 wfk.2).mono ?_
    rintro e w4 ⟨A4, n4, c4, rfl, s4, l4, b4⟩
    have B1_4 : Hid (Below w1.heap.size w1 w4) := Lib.hid (btr B1_3.out b4)
    have B2_4 : Hid (Below w2.heap.size w2 w4) := Lib.hid (btr B2_3.out b4)
    have B3_4 : Hid (Below w3.heap.size w3 w4) := Lib.hid b4
    have B4 : Hid (Below w.heap.size w w4) := Lib.hid (btr B3.out b4)
    have Sw0_4 := Lib.hid (Sw0_3.out.up b4)
    clear Sw0_3
    have Sxp_4 := Lib.hid (Sxp_3.out.up b4)
    clear Sxp_3
    have Sg0_4 := Lib.hid s4
    have Lg0 := Lib.hid s4.lies
    clear s4 b4
    go_wp2_with fail
    refine (eqS_same _ _ A4 A2 n4 c4 n2 c2 w4 Sg0_4.out Sw0_4.out (by omega)).mono ?_
    rintro e w5 ⟨rfl, b5⟩
    have B1_5 : Hid (Below w1.heap.size w1 w5) := Lib.hid (btr B1_4.out b5)
    have B2_5 : Hid (Below w2.heap.size w2 w5) := Lib.hid (btr B2_4.out b5)
    have B3_5 : Hid (Below w3.heap.size w3 w5) := Lib.hid (btr B3_4.out b5)
    have B4_5 : Hid (Below w4.heap.size w4 w5) := Lib.hid b5
    have B5 : Hid (Below w.heap.size w w5) := Lib.hid (btr B4.out b5)
    have Sw0_5 := Lib.hid (Sw0_4.out.up b5)
    clear Sw0_4
    have Sxp_5 := Lib.hid (Sxp_4.out.up b5)
    clear Sxp_4
    have Sg0_5 := Lib.hid (Sg0_4.out.up b5)
    clear Sg0_4
    clear b5
    go_wp2_with fail
    refine (toS_any P cp np p w5 (hp.up B5.out) lp (by omega)).mono ?_
    rintro e w6 ⟨A6, c6, rfl, s6, b6⟩
    have B1_6 : Hid (Below w1.heap.size w1 w6) := Lib.hid (btr B1_5.out b6)
    have B2_6 : Hid (Below w2.heap.size w2 w6) := Lib.hid (btr B2_5.out b6)
    have B3_6 : Hid (Below w3.heap.size w3 w6) := Lib.hid (btr B3_5.out b6)
    have B4_6 : Hid (Below w4.heap.size w4 w6) := Lib.hid (btr B4_5.out b6)
    have B5_6 : Hid (Below w5.heap.size w5 w6) := Lib.hid b6
    have B6 : Hid (Below w.heap.size w w6) := Lib.hid (btr B5.out b6)
    have Sw0_6 := Lib.hid (Sw0_5.out.up b6)
    clear Sw0_5
    have Sxp_6 := Lib.hid (Sxp_5.out.up b6)
    clear Sxp_5
    have Sg0_6 := Lib.hid (Sg0_5.out.up b6)
    clear Sg0_5
    have Syp_6 := Lib.hid s6
    have Lyp := Lib.hid s6.lies
    have le6 := s6.le.1
    clear s6 b6
    go_wp2_with fail
    refine (eqS_same _ _ A3 A6 np c3 np c6 w6 Sxp_6.out Syp_6.out (by omega)).mono ?_
    rintro e w7 ⟨rfl, b7⟩
    have B1_7 : Hid (Below w1.heap.size w1 w7) := Lib.hid (btr B1_6.out b7)
    have B2_7 : Hid (Below w2.heap.size w2 w7) := Lib.hid (btr B2_6.out b7)
    have B3_7 : Hid (Below w3.heap.size w3 w7) := Lib.hid (btr B3_6.out b7)
    have B4_7 : Hid (Below w4.heap.size w4 w7) := Lib.hid (btr B4_6.out b7)
    have B5_7 : Hid (Below w5.heap.size w5 w7) := Lib.hid (btr B5_6.out b7)
    have B6_7 : Hid (Below w6.heap.size w6 w7) := Lib.hid b7
    have B7 : Hid (Below w.heap.size w w7) := Lib.hid (btr B6.out b7)
    have Sw0_7 := Lib.hid (Sw0_6.out.up b7)
    clear Sw0_6
    have Sxp_7 := Lib.hid (Sxp_6.out.up b7)
    clear Sxp_6
    have Sg0_7 := Lib.hid (Sg0_6.out.up b7)
    clear Sg0_6
    have Syp_7 := Lib.hid (Syp_6.out.up b7)
    clear Syp_6
    clear b7
    clear Syp_7 Lyp
    go_wp2_with fail
    refine (markK _ (1) _ A3 np c3 _ w7 Sxp_7.out (by omega) (by omega) (by omega)).mono ?_
    rintro e w8 ⟨rfl, s8, g8⟩
    have B8 : Hid (Below w.heap.size w w8) := Lib.hid (B7.out.trans (below_mark g8 Lxp.out B2.out.size B7.out.size))
    have Sw0_8 := Lib.hid (Sw0_7.out.far g8 Lw0.out Lxp.out (.inl (Nat.le_refl _)))
    clear Sw0_7
    have Sxp_8 := Lib.hid s8
    clear Sxp_7
    have Sg0_8 := Lib.hid (Sg0_7.out.far g8 Lg0.out Lxp.out (.inr (Nat.le_refl _)))
    clear Sg0_7
    clear s8 g8
    go_wp2_with fail
    refine (eqS_same _ _ A4 A2 n4 c4 n2 c2 w8 Sg0_8.out Sw0_8.out (by omega)).mono ?_
    rintro e w9 ⟨rfl, b9⟩
    have B9 : Hid (Below w.heap.size w w9) := Lib.hid (btr B8.out b9)
    have Sw0_9 := Lib.hid (Sw0_8.out.up b9)
    clear Sw0_8
    have Sxp_9 := Lib.hid (Sxp_8.out.up b9)
    clear Sxp_8
    have Sg0_9 := Lib.hid (Sg0_8.out.up b9)
    clear Sg0_8
    clear b9
    clear Sxp_9
    go_wp2_with fail
    refine (markK _ (1) _ A4 n4 c4 _ w9 Sg0_9.out (by omega) (by omega) (by omega)).mono ?_
    rintro e w10 ⟨rfl, s10, g10⟩
    have B10 : Hid (Below w.heap.size w w10) := Lib.hid (B9.out.trans (below_mark g10 Lg0.out B3.out.size B9.out.size))
    have Sw0_10 := Lib.hid (Sw0_9.out.far g10 Lw0.out Lg0.out (.inl (B2_3.out.size)))
    clear Sw0_9
    have Sg0_10 := Lib.hid s10
    clear Sg0_9
    clear s10 g10
    go_wp2_with fail
    refine (held1 _ A4 n4 c4 w10 Sg0_10.out (by omega)).mono ?_
    rintro e w' ⟨rfl, rfl⟩
    go_wp2_with fail
    refine (toS_any P cp np p w10 (hp.up B10.out) lp (by omega)).mono ?_
    rintro e w11 ⟨A11, c11, rfl, s11, b11⟩
    have B11 : Hid (Below w.heap.size w w11) := Lib.hid (btr B10.out b11)
    have Sw0_11 := Lib.hid (Sw0_10.out.up b11)
    clear Sw0_10
    have Sg0_11 := Lib.hid (Sg0_10.out.up b11)
    clear Sg0_10
    have Szp_11 := Lib.hid s11
    have Lzp := Lib.hid s11.lies
    have le11 := s11.le.1
    clear s11 b11
    go_wp2_with fail
    refine (implPower A11 c11 np p k w11 Szp_11.out.ri_ lp (by omega) wfk.1 wfk.2).mono ?_
    rintro e w12 ⟨A12, n12, c12, rfl, s12, l12, b12⟩
    have B11_12 : Hid (Below w11.heap.size w11 w12) := Lib.hid b12
    have B12 : Hid (Below w.heap.size w w12) := Lib.hid (btr B11.out b12)
    have Sw0_12 := Lib.hid (Sw0_11.out.up b12)
    clear Sw0_11
    have Sg0_12 := Lib.hid (Sg0_11.out.up b12)
    clear Sg0_11
    have Szp_12 := Lib.hid (Szp_11.out.up b12)
    clear Szp_11
    have Sh0_12 := Lib.hid s12
    have Lh0 := Lib.hid s12.lies
    clear s12 b12
    clear Szp_12
    go_wp2_with fail
    refine (eqS_same _ _ A12 A2 n12 c12 n2 c2 w12 Sh0_12.out Sw0_12.out (by omega)).mono ?_
    rintro e w13 ⟨rfl, b13⟩
    have B11_13 : Hid (Below w11.heap.size w11 w13) := Lib.hid (btr B11_12.out b13)
    have B12_13 : Hid (Below w12.heap.size w12 w13) := Lib.hid b13
    have B13 : Hid (Below w.heap.size w w13) := Lib.hid (btr B12.out b13)
    have Sw0_13 := Lib.hid (Sw0_12.out.up b13)
    clear Sw0_12
    have Sg0_13 := Lib.hid (Sg0_12.out.up b13)
    clear Sg0_12
    have Sh0_13 := Lib.hid (Sh0_12.out.up b13)
    clear Sh0_12
    clear b13
    go_wp2_with fail
    refine (held1 _ A4 n4 c4 w13 Sg0_13.out (by omega)).mono ?_
    rintro e w' ⟨rfl, rfl⟩
    go_wp2_with fail
    go_ret
    exact ⟨rfl, B13.out⟩
  · have d1 : decide ((1048576 : Int) < np) = true := by simp; omega
    go_enter Try.func3, Try.ntmps3
    go_wp2
    go_ret
    exact ⟨rfl, Below.refl _ _⟩

end Go.Proofs.Ytonanelghnjhpab
