/- The walks of the laws FnExactFindConjugator: they return true at every input, and write nothing that was there. No condition. -/
import Derived.Test.YtplgdbkolklgnaaFind
namespace Go.Proofs.Ytplgdbkolklgnaa
open Go.RowKit

set_option maxHeartbeats 2000000 in
set_option maxRecDepth 100000 in
/-- The law FnExactFindConjugator. -/
theorem lawFindConjugator (P : Option Addr) (cp np : Nat) (p : List Int) (Q : Option Addr) (cq nq : Nat) (q : List Int) (w : World) (hp : RI w w.heap.size P p) (lp : Hid (p.length = np)) (hq : RI w w.heap.size Q q) (lq : Hid (q.length = nq)) :
    Calls Try.prog 8 #[.slice P np cp, .slice Q nq cq] w fun e w' => e = .returned (.bool true) ∧ Below w.heap.size w w' := by
  by_cases hnp : np ≤ 1048576
  · skip
    by_cases hnq : nq ≤ 1048576
    · skip
      go_enter Try.func8, Try.ntmps8
      go_wp2_with fail
      refine (toS_any P cp np p w hp lp (by omega)).mono ?_
      rintro e w1 ⟨A1, c1, rfl, s1, b1⟩
      have B1 : Hid (Below w.heap.size w w1) := Lib.hid b1
      have Stp_1 := Lib.hid s1
      have Ltp := Lib.hid s1.lies
      have le1 := s1.le.1
      clear s1 b1
      go_wp2_with fail
      refine (toS_any Q cq nq q w1 (hq.up B1.out) lq (by omega)).mono ?_
      rintro e w2 ⟨A2, c2, rfl, s2, b2⟩
      have B1_2 : Hid (Below w1.heap.size w1 w2) := Lib.hid b2
      have B2 : Hid (Below w.heap.size w w2) := Lib.hid (btr B1.out b2)
      have Stp_2 := Lib.hid (Stp_1.out.up b2)
      clear Stp_1
      have Stq_2 := Lib.hid s2
      have Ltq := Lib.hid s2.lies
      have le2 := s2.le.1
      clear s2 b2
      go_wp2_with fail
      refine (specFindConjugator A1 A2 c1 c2 np nq p q w2 Stp_2.out.ri_ Stq_2.out.ri_ lp lq (by omega) (by omega) le1 le2).mono ?_
      rintro e w3 ⟨A3, n3, c3, rfl, s3, l3, b3⟩
      have B1_3 : Hid (Below w1.heap.size w1 w3) := Lib.hid (btr B1_2.out b3)
      have B2_3 : Hid (Below w2.heap.size w2 w3) := Lib.hid b3
      have B3 : Hid (Below w.heap.size w w3) := Lib.hid (btr B2.out b3)
      have Stp_3 := Lib.hid (Stp_2.out.up b3)
      clear Stp_2
      have Stq_3 := Lib.hid (Stq_2.out.up b3)
      clear Stq_2
      have Sw0_3 := Lib.hid s3
      have Lw0 := Lib.hid s3.lies
      clear s3 b3
      clear Stp_3 Ltp
      clear Stq_3 Ltq
      go_wp2_with fail
      refine (toS_any P cp np p w3 (hp.up B3.out) lp (by omega)).mono ?_
      rintro e w4 ⟨A4, c4, rfl, s4, b4⟩
      have B1_4 : Hid (Below w1.heap.size w1 w4) := Lib.hid (btr B1_3.out b4)
      have B2_4 : Hid (Below w2.heap.size w2 w4) := Lib.hid (btr B2_3.out b4)
      have B3_4 : Hid (Below w3.heap.size w3 w4) := Lib.hid b4
      have B4 : Hid (Below w.heap.size w w4) := Lib.hid (btr B3.out b4)
      have Sw0_4 := Lib.hid (Sw0_3.out.up b4)
      clear Sw0_3
      have Sxp_4 := Lib.hid s4
      have Lxp := Lib.hid s4.lies
      have le4 := s4.le.1
      clear s4 b4
      go_wp2_with fail
      refine (toS_any Q cq nq q w4 (hq.up B4.out) lq (by omega)).mono ?_
      rintro e w5 ⟨A5, c5, rfl, s5, b5⟩
      have B1_5 : Hid (Below w1.heap.size w1 w5) := Lib.hid (btr B1_4.out b5)
      have B2_5 : Hid (Below w2.heap.size w2 w5) := Lib.hid (btr B2_4.out b5)
      have B3_5 : Hid (Below w3.heap.size w3 w5) := Lib.hid (btr B3_4.out b5)
      have B4_5 : Hid (Below w4.heap.size w4 w5) := Lib.hid b5
      have B5 : Hid (Below w.heap.size w w5) := Lib.hid (btr B4.out b5)
      have Sw0_5 := Lib.hid (Sw0_4.out.up b5)
      clear Sw0_4
      have Sxp_5 := Lib.hid (Sxp_4.out.up b5)
      clear Sxp_4
      have Sxq_5 := Lib.hid s5
      have Lxq := Lib.hid s5.lies
      have le5 := s5.le.1
      clear s5 b5
      go_wp2_with fail
      refine (implFindConjugator A4 A5 c4 c5 np nq p q w5 Sxp_5.out.ri_ Sxq_5.out.ri_ lp lq (by omega) (by omega)).mono ?_
      rintro e w6 ⟨A6, n6, c6, rfl, s6, l6, b6⟩
      have B1_6 : Hid (Below w1.heap.size w1 w6) := Lib.hid (btr B1_5.out b6)
      have B2_6 : Hid (Below w2.heap.size w2 w6) := Lib.hid (btr B2_5.out b6)
      have B3_6 : Hid (Below w3.heap.size w3 w6) := Lib.hid (btr B3_5.out b6)
      have B4_6 : Hid (Below w4.heap.size w4 w6) := Lib.hid (btr B4_5.out b6)
      have B5_6 : Hid (Below w5.heap.size w5 w6) := Lib.hid b6
      have B6 : Hid (Below w.heap.size w w6) := Lib.hid (btr B5.out b6)
      have Sw0_6 := Lib.hid (Sw0_5.out.up b6)
      clear Sw0_5
      have Sxp_6 := Lib.hid (Sxp_5.out.up b6)
      clear Sxp_5
      have Sxq_6 := Lib.hid (Sxq_5.out.up b6)
      clear Sxq_5
      have Sg0_6 := Lib.hid s6
      have Lg0 := Lib.hid s6.lies
      clear s6 b6
      go_wp2_with fail
      refine (eqS_same _ _ A6 A3 n6 c6 n3 c3 w6 Sg0_6.out Sw0_6.out (by omega)).mono ?_
      rintro e w7 ⟨rfl, b7⟩
      have B1_7 : Hid (Below w1.heap.size w1 w7) := Lib.hid (btr B1_6.out b7)
      have B2_7 : Hid (Below w2.heap.size w2 w7) := Lib.hid (btr B2_6.out b7)
      have B3_7 : Hid (Below w3.heap.size w3 w7) := Lib.hid (btr B3_6.out b7)
      have B4_7 : Hid (Below w4.heap.size w4 w7) := Lib.hid (btr B4_6.out b7)
      have B5_7 : Hid (Below w5.heap.size w5 w7) := Lib.hid (btr B5_6.out b7)
      have B6_7 : Hid (Below w6.heap.size w6 w7) := Lib.hid b7
      have B7 : Hid (Below w.heap.size w w7) := Lib.hid (btr B6.out b7)
      have Sw0_7 := Lib.hid (Sw0_6.out.up b7)
      clear Sw0_6
      have Sxp_7 := Lib.hid (Sxp_6.out.up b7)
      clear Sxp_6
      have Sxq_7 := Lib.hid (Sxq_6.out.up b7)
      clear Sxq_6
      have Sg0_7 := Lib.hid (Sg0_6.out.up b7)
      clear Sg0_6
      clear b7
      go_wp2_with fail
      refine (toS_any P cp np p w7 (hp.up B7.out) lp (by omega)).mono ?_
      rintro e w8 ⟨A8, c8, rfl, s8, b8⟩
      have B1_8 : Hid (Below w1.heap.size w1 w8) := Lib.hid (btr B1_7.out b8)
      have B2_8 : Hid (Below w2.heap.size w2 w8) := Lib.hid (btr B2_7.out b8)
      have B3_8 : Hid (Below w3.heap.size w3 w8) := Lib.hid (btr B3_7.out b8)
      have B4_8 : Hid (Below w4.heap.size w4 w8) := Lib.hid (btr B4_7.out b8)
      have B5_8 : Hid (Below w5.heap.size w5 w8) := Lib.hid (btr B5_7.out b8)
      have B6_8 : Hid (Below w6.heap.size w6 w8) := Lib.hid (btr B6_7.out b8)
      have B7_8 : Hid (Below w7.heap.size w7 w8) := Lib.hid b8
      have B8 : Hid (Below w.heap.size w w8) := Lib.hid (btr B7.out b8)
      have Sw0_8 := Lib.hid (Sw0_7.out.up b8)
      clear Sw0_7
      have Sxp_8 := Lib.hid (Sxp_7.out.up b8)
      clear Sxp_7
      have Sxq_8 := Lib.hid (Sxq_7.out.up b8)
      clear Sxq_7
      have Sg0_8 := Lib.hid (Sg0_7.out.up b8)
      clear Sg0_7
      have Syp_8 := Lib.hid s8
      have Lyp := Lib.hid s8.lies
      have le8 := s8.le.1
      clear s8 b8
      go_wp2_with fail
      refine (eqS_same _ _ A4 A8 np c4 np c8 w8 Sxp_8.out Syp_8.out (by omega)).mono ?_
      rintro e w9 ⟨rfl, b9⟩
      have B1_9 : Hid (Below w1.heap.size w1 w9) := Lib.hid (btr B1_8.out b9)
      have B2_9 : Hid (Below w2.heap.size w2 w9) := Lib.hid (btr B2_8.out b9)
      have B3_9 : Hid (Below w3.heap.size w3 w9) := Lib.hid (btr B3_8.out b9)
      have B4_9 : Hid (Below w4.heap.size w4 w9) := Lib.hid (btr B4_8.out b9)
      have B5_9 : Hid (Below w5.heap.size w5 w9) := Lib.hid (btr B5_8.out b9)
      have B6_9 : Hid (Below w6.heap.size w6 w9) := Lib.hid (btr B6_8.out b9)
      have B7_9 : Hid (Below w7.heap.size w7 w9) := Lib.hid (btr B7_8.out b9)
      have B8_9 : Hid (Below w8.heap.size w8 w9) := Lib.hid b9
      have B9 : Hid (Below w.heap.size w w9) := Lib.hid (btr B8.out b9)
      have Sw0_9 := Lib.hid (Sw0_8.out.up b9)
      clear Sw0_8
      have Sxp_9 := Lib.hid (Sxp_8.out.up b9)
      clear Sxp_8
      have Sxq_9 := Lib.hid (Sxq_8.out.up b9)
      clear Sxq_8
      have Sg0_9 := Lib.hid (Sg0_8.out.up b9)
      clear Sg0_8
      have Syp_9 := Lib.hid (Syp_8.out.up b9)
      clear Syp_8
      clear b9
      clear Syp_9 Lyp
      go_wp2_with fail
      refine (toS_any Q cq nq q w9 (hq.up B9.out) lq (by omega)).mono ?_
      rintro e w10 ⟨A10, c10, rfl, s10, b10⟩
      have B1_10 : Hid (Below w1.heap.size w1 w10) := Lib.hid (btr B1_9.out b10)
      have B2_10 : Hid (Below w2.heap.size w2 w10) := Lib.hid (btr B2_9.out b10)
      have B3_10 : Hid (Below w3.heap.size w3 w10) := Lib.hid (btr B3_9.out b10)
      have B4_10 : Hid (Below w4.heap.size w4 w10) := Lib.hid (btr B4_9.out b10)
      have B5_10 : Hid (Below w5.heap.size w5 w10) := Lib.hid (btr B5_9.out b10)
      have B6_10 : Hid (Below w6.heap.size w6 w10) := Lib.hid (btr B6_9.out b10)
      have B7_10 : Hid (Below w7.heap.size w7 w10) := Lib.hid (btr B7_9.out b10)
      have B8_10 : Hid (Below w8.heap.size w8 w10) := Lib.hid (btr B8_9.out b10)
      have B9_10 : Hid (Below w9.heap.size w9 w10) := Lib.hid b10
      have B10 : Hid (Below w.heap.size w w10) := Lib.hid (btr B9.out b10)
      have Sw0_10 := Lib.hid (Sw0_9.out.up b10)
      clear Sw0_9
      have Sxp_10 := Lib.hid (Sxp_9.out.up b10)
      clear Sxp_9
      have Sxq_10 := Lib.hid (Sxq_9.out.up b10)
      clear Sxq_9
      have Sg0_10 := Lib.hid (Sg0_9.out.up b10)
      clear Sg0_9
      have Syq_10 := Lib.hid s10
      have Lyq := Lib.hid s10.lies
      have le10 := s10.le.1
      clear s10 b10
      go_wp2_with fail
      refine (eqS_same _ _ A5 A10 nq c5 nq c10 w10 Sxq_10.out Syq_10.out (by omega)).mono ?_
      rintro e w11 ⟨rfl, b11⟩
      have B1_11 : Hid (Below w1.heap.size w1 w11) := Lib.hid (btr B1_10.out b11)
      have B2_11 : Hid (Below w2.heap.size w2 w11) := Lib.hid (btr B2_10.out b11)
      have B3_11 : Hid (Below w3.heap.size w3 w11) := Lib.hid (btr B3_10.out b11)
      have B4_11 : Hid (Below w4.heap.size w4 w11) := Lib.hid (btr B4_10.out b11)
      have B5_11 : Hid (Below w5.heap.size w5 w11) := Lib.hid (btr B5_10.out b11)
      have B6_11 : Hid (Below w6.heap.size w6 w11) := Lib.hid (btr B6_10.out b11)
      have B7_11 : Hid (Below w7.heap.size w7 w11) := Lib.hid (btr B7_10.out b11)
      have B8_11 : Hid (Below w8.heap.size w8 w11) := Lib.hid (btr B8_10.out b11)
      have B9_11 : Hid (Below w9.heap.size w9 w11) := Lib.hid (btr B9_10.out b11)
      have B10_11 : Hid (Below w10.heap.size w10 w11) := Lib.hid b11
      have B11 : Hid (Below w.heap.size w w11) := Lib.hid (btr B10.out b11)
      have Sw0_11 := Lib.hid (Sw0_10.out.up b11)
      clear Sw0_10
      have Sxp_11 := Lib.hid (Sxp_10.out.up b11)
      clear Sxp_10
      have Sxq_11 := Lib.hid (Sxq_10.out.up b11)
      clear Sxq_10
      have Sg0_11 := Lib.hid (Sg0_10.out.up b11)
      clear Sg0_10
      have Syq_11 := Lib.hid (Syq_10.out.up b11)
      clear Syq_10
      clear b11
      clear Syq_11 Lyq
      go_wp2_with fail
      refine (markK _ (1) _ A4 np c4 _ w11 Sxp_11.out (by omega) (by omega) (by omega)).mono ?_
      rintro e w12 ⟨rfl, s12, g12⟩
      have B12 : Hid (Below w.heap.size w w12) := Lib.hid (B11.out.trans (below_mark g12 Lxp.out B3.out.size B11.out.size))
      have Sw0_12 := Lib.hid (Sw0_11.out.far g12 Lw0.out Lxp.out (.inl (Nat.le_refl _)))
      clear Sw0_11
      have Sxp_12 := Lib.hid s12
      clear Sxp_11
      have Sxq_12 := Lib.hid (Sxq_11.out.far g12 Lxq.out Lxp.out (.inr (Nat.le_refl _)))
      clear Sxq_11
      have Sg0_12 := Lib.hid (Sg0_11.out.far g12 Lg0.out Lxp.out (.inr (B4_5.out.size)))
      clear Sg0_11
      clear s12 g12
      go_wp2_with fail
      refine (markK _ (1 + np) _ A5 nq c5 _ w12 Sxq_12.out (by omega) (by omega) (by omega)).mono ?_
      rintro e w13 ⟨rfl, s13, g13⟩
      have B13 : Hid (Below w.heap.size w w13) := Lib.hid (B12.out.trans (below_mark g13 Lxq.out B4.out.size B12.out.size))
      have Sw0_13 := Lib.hid (Sw0_12.out.far g13 Lw0.out Lxq.out (.inl (B3_4.out.size)))
      clear Sw0_12
      have Sxp_13 := Lib.hid (Sxp_12.out.far g13 Lxp.out Lxq.out (.inl (Nat.le_refl _)))
      clear Sxp_12
      have Sxq_13 := Lib.hid s13
      clear Sxq_12
      have Sg0_13 := Lib.hid (Sg0_12.out.far g13 Lg0.out Lxq.out (.inr (Nat.le_refl _)))
      clear Sg0_12
      clear s13 g13
      go_wp2_with fail
      refine (eqS_same _ _ A6 A3 n6 c6 n3 c3 w13 Sg0_13.out Sw0_13.out (by omega)).mono ?_
      rintro e w14 ⟨rfl, b14⟩
      have B14 : Hid (Below w.heap.size w w14) := Lib.hid (btr B13.out b14)
      have Sw0_14 := Lib.hid (Sw0_13.out.up b14)
      clear Sw0_13
      have Sxp_14 := Lib.hid (Sxp_13.out.up b14)
      clear Sxp_13
      have Sxq_14 := Lib.hid (Sxq_13.out.up b14)
      clear Sxq_13
      have Sg0_14 := Lib.hid (Sg0_13.out.up b14)
      clear Sg0_13
      clear b14
      clear Sxp_14
      clear Sxq_14
      go_wp2_with fail
      refine (markK _ (1) _ A6 n6 c6 _ w14 Sg0_14.out (by omega) (by omega) (by omega)).mono ?_
      rintro e w15 ⟨rfl, s15, g15⟩
      have B15 : Hid (Below w.heap.size w w15) := Lib.hid (B14.out.trans (below_mark g15 Lg0.out B5.out.size B14.out.size))
      have Sw0_15 := Lib.hid (Sw0_14.out.far g15 Lw0.out Lg0.out (.inl (B3_5.out.size)))
      clear Sw0_14
      have Sg0_15 := Lib.hid s15
      clear Sg0_14
      clear s15 g15
      go_wp2_with fail
      refine (held1 _ A6 n6 c6 w15 Sg0_15.out (by omega)).mono ?_
      rintro e w' ⟨rfl, rfl⟩
      go_wp2_with fail
      refine (toS_any P cp np p w15 (hp.up B15.out) lp (by omega)).mono ?_
      rintro e w16 ⟨A16, c16, rfl, s16, b16⟩
      have B16 : Hid (Below w.heap.size w w16) := Lib.hid (btr B15.out b16)
      have Sw0_16 := Lib.hid (Sw0_15.out.up b16)
      clear Sw0_15
      have Sg0_16 := Lib.hid (Sg0_15.out.up b16)
      clear Sg0_15
      have Szp_16 := Lib.hid s16
      have Lzp := Lib.hid s16.lies
      have le16 := s16.le.1
      clear s16 b16
      go_wp2_with fail
      refine (toS_any Q cq nq q w16 (hq.up B16.out) lq (by omega)).mono ?_
      rintro e w17 ⟨A17, c17, rfl, s17, b17⟩
      have B16_17 : Hid (Below w16.heap.size w16 w17) := Lib.hid b17
      have B17 : Hid (Below w.heap.size w w17) := Lib.hid (btr B16.out b17)
      have Sw0_17 := Lib.hid (Sw0_16.out.up b17)
      clear Sw0_16
      have Sg0_17 := Lib.hid (Sg0_16.out.up b17)
      clear Sg0_16
      have Szp_17 := Lib.hid (Szp_16.out.up b17)
      clear Szp_16
      have Szq_17 := Lib.hid s17
      have Lzq := Lib.hid s17.lies
      have le17 := s17.le.1
      clear s17 b17
      go_wp2_with fail
      refine (implFindConjugator A16 A17 c16 c17 np nq p q w17 Szp_17.out.ri_ Szq_17.out.ri_ lp lq (by omega) (by omega)).mono ?_
      rintro e w18 ⟨A18, n18, c18, rfl, s18, l18, b18⟩
      have B16_18 : Hid (Below w16.heap.size w16 w18) := Lib.hid (btr B16_17.out b18)
      have B17_18 : Hid (Below w17.heap.size w17 w18) := Lib.hid b18
      have B18 : Hid (Below w.heap.size w w18) := Lib.hid (btr B17.out b18)
      have Sw0_18 := Lib.hid (Sw0_17.out.up b18)
      clear Sw0_17
      have Sg0_18 := Lib.hid (Sg0_17.out.up b18)
      clear Sg0_17
      have Szp_18 := Lib.hid (Szp_17.out.up b18)
      clear Szp_17
      have Szq_18 := Lib.hid (Szq_17.out.up b18)
      clear Szq_17
      have Sh0_18 := Lib.hid s18
      have Lh0 := Lib.hid s18.lies
      clear s18 b18
      clear Szp_18
      clear Szq_18
      go_wp2_with fail
      refine (eqS_same _ _ A18 A3 n18 c18 n3 c3 w18 Sh0_18.out Sw0_18.out (by omega)).mono ?_
      rintro e w19 ⟨rfl, b19⟩
      have B16_19 : Hid (Below w16.heap.size w16 w19) := Lib.hid (btr B16_18.out b19)
      have B17_19 : Hid (Below w17.heap.size w17 w19) := Lib.hid (btr B17_18.out b19)
      have B18_19 : Hid (Below w18.heap.size w18 w19) := Lib.hid b19
      have B19 : Hid (Below w.heap.size w w19) := Lib.hid (btr B18.out b19)
      have Sw0_19 := Lib.hid (Sw0_18.out.up b19)
      clear Sw0_18
      have Sg0_19 := Lib.hid (Sg0_18.out.up b19)
      clear Sg0_18
      have Sh0_19 := Lib.hid (Sh0_18.out.up b19)
      clear Sh0_18
      clear b19
      go_wp2_with fail
      refine (held1 _ A6 n6 c6 w19 Sg0_19.out (by omega)).mono ?_
      rintro e w' ⟨rfl, rfl⟩
      go_wp2_with fail
      go_ret
      exact ⟨rfl, B19.out⟩
    · have d1 : decide ((1048576 : Int) < nq) = true := by simp; omega
      go_enter Try.func8, Try.ntmps8
      go_wp2
      go_ret
      exact ⟨rfl, Below.refl _ _⟩
  · have d1 : decide ((1048576 : Int) < np) = true := by simp; omega
    go_enter Try.func8, Try.ntmps8
    go_wp2
    go_ret
    exact ⟨rfl, Below.refl _ _⟩

end Go.Proofs.Ytplgdbkolklgnaa
