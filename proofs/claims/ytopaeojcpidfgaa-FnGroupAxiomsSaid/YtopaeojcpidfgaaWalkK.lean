/- The walk of the law FnGroupAxioms: it returns true at every code, and writes nothing that was there. No condition. -/
import Derived.Test.YtopaeojcpidfgaaGroup
namespace Go.Proofs.Ytopaeojcpidfgaa
open Go.RowKit

theorem comp_inv' {p : List Int} {n : Nat} (hp : IsP p) (hn : p.length = n) : compL p (invL p n) = idL n := by subst hn; exact comp_inv hp
theorem inv_comp' {p : List Int} {n : Nat} (hp : IsP p) (hn : p.length = n) : compL (invL p n) p = idL n := by subst hn; exact inv_comp hp
theorem isP_inv' {p : List Int} {n : Nat} (hp : IsP p) (hn : p.length = n) : IsP (invL p n) := by subst hn; exact isP_inv hp

set_option maxHeartbeats 4000000 in
set_option maxRecDepth 100000 in
/-- The law FnGroupAxioms. -/
theorem lawGroupAxioms (A : Option Addr) (cap len : Nat) (w : World) (hb : RB w w.heap.size A len) :
    Calls Try.prog 3 #[.slice A len cap] w fun e w' => e = .returned (.bool true) ∧ Below w.heap.size w w' := by
  by_cases hl : len ≤ 4096
  · go_enter Try.func3, Try.ntmps3
    go_wp2_with fail
    refine (bigT A len cap w hl).mono ?_
    rintro e w0 ⟨rfl, rfl⟩
    go_wp2_with fail
    refine (rollDice len cap 901 A w hb hl (by omega) (by omega)).mono ?_
    rintro e w1 ⟨rfl, di1, b1, sz1⟩
    have D1 := Lib.hid di1
    have B1 := Lib.hid b1
    have HB := Lib.hid hb
    have Z1 := Lib.hid sz1
    clear di1 b1 hb sz1
    go_wp2_with fail
    refine (diceBelowK w.heap.size len cap 9 _ A w.heap.size w1 D1.out (HB.out.below B1.out (Nat.le_refl _)) hl (by omega) (by omega) (Nat.le_refl _) (by omega)).mono ?_
    rintro e w2 ⟨r, hr, rfl, di2, g2⟩
    have D2 := Lib.hid di2
    have B2 : Hid (Below w.heap.size w w2) := Lib.hid (below_gro B1.out g2 (Nat.le_refl _))
    have Z2 : Hid (w.heap.size < w2.heap.size) := Lib.hid (Nat.lt_of_lt_of_le Z1.out g2.size)
    clear di2 g2
    obtain ⟨n, hn⟩ : ∃ n : Nat, n = 1 + r := ⟨_, rfl⟩
    have hn1 : 1 ≤ n := by omega
    have hn20 : n ≤ 20 := by omega
    have hK : ((1 : Int) + (r : Int)) = (n : Int) := by omega
    have HK := Lib.hid hK
    clear hK
    have hd9 : ((n : Int) == 1 + (r : Int)) = true := by rw [beq_iff_eq]; omega
    have HD := Lib.hid hd9
    clear hd9 hn
    go_wp2_with fail
    refine (swapT w.heap.size len cap n _ A w.heap.size w2 D2.out (HB.out.below B2.out (Nat.le_refl _)) hl hn1 hn20 (Nat.le_refl _) Z2.out HK.out).mono ?_
    rintro e w3 ⟨App, cpp, pp, rfl, s3, ip3, di3, g3⟩
    have D3 := Lib.hid di3
    have B3 : Hid (Below w.heap.size w w3) := Lib.hid (below_gro B2.out g3 (Nat.le_refl _))
    have Z3 : Hid (w.heap.size < w3.heap.size) := Lib.hid (Nat.lt_of_lt_of_le Z2.out g3.size)
    have Spp_3 := Lib.hid s3
    have Ipp := Lib.hid ip3
    have Lpp := s3.hid
    have Hpp : Hid (w.heap.size < w2.heap.size) := Z2
    clear s3 ip3 di3 g3
    go_wp2_with fail
    refine (swapT w.heap.size len cap n _ A w.heap.size w3 D3.out (HB.out.below B3.out (Nat.le_refl _)) hl hn1 hn20 (Nat.le_refl _) Z3.out HK.out).mono ?_
    rintro e w4 ⟨Aqq, cqq, qq, rfl, s4, ip4, di4, g4⟩
    have D4 := Lib.hid di4
    have B4 : Hid (Below w.heap.size w w4) := Lib.hid (below_gro B3.out g4 (Nat.le_refl _))
    have Z4 : Hid (w.heap.size < w4.heap.size) := Lib.hid (Nat.lt_of_lt_of_le Z3.out g4.size)
    have Spp_4 := Lib.hid (Spp_3.out.gro g4 Hpp.out)
    clear Spp_3
    have Sqq_4 := Lib.hid s4
    have Iqq := Lib.hid ip4
    have Lqq := s4.hid
    have Hqq : Hid (w.heap.size < w3.heap.size) := Z3
    clear s4 ip4 di4 g4
    go_wp2_with fail
    refine (swapT w.heap.size len cap n _ A w.heap.size w4 D4.out (HB.out.below B4.out (Nat.le_refl _)) hl hn1 hn20 (Nat.le_refl _) Z4.out HK.out).mono ?_
    rintro e w5 ⟨Arr, crr, rr, rfl, s5, ip5, di5, g5⟩
    have D5 := Lib.hid di5
    have B5 : Hid (Below w.heap.size w w5) := Lib.hid (below_gro B4.out g5 (Nat.le_refl _))
    have Z5 : Hid (w.heap.size < w5.heap.size) := Lib.hid (Nat.lt_of_lt_of_le Z4.out g5.size)
    have Spp_5 := Lib.hid (Spp_4.out.gro g5 Hpp.out)
    clear Spp_4
    have Sqq_5 := Lib.hid (Sqq_4.out.gro g5 Hqq.out)
    clear Sqq_4
    have Srr_5 := Lib.hid s5
    have Irr := Lib.hid ip5
    have Lrr := s5.hid
    have Hrr : Hid (w.heap.size < w4.heap.size) := Z4
    clear s5 ip5 di5 g5
    go_wp2_with fail
    refine (compT App Aqq cpp cqq n _ _ _ _ w5 Spp_5.out Sqq_5.out Ipp Iqq).mono ?_
    rintro e w6 ⟨Apq, cpq, rfl, s6, b6⟩
    have B6 : Hid (Below w.heap.size w w6) := Lib.hid (btr B5.out b6)
    have Spp_6 := Lib.hid (Spp_5.out.up b6)
    clear Spp_5
    have Sqq_6 := Lib.hid (Sqq_5.out.up b6)
    clear Sqq_5
    have Srr_6 := Lib.hid (Srr_5.out.up b6)
    clear Srr_5
    have Spq_6 := Lib.hid s6
    have Lpq := s6.hid
    have Ipq := Lib.hid (isP_comp Ipp.out Iqq.out (Lpp.out.trans Lqq.out.symm))
    clear s6 b6
    go_wp2_with fail
    refine (compT Aqq Arr cqq crr n _ _ _ _ w6 Sqq_6.out Srr_6.out Iqq Irr).mono ?_
    rintro e w7 ⟨Aqr, cqr, rfl, s7, b7⟩
    have B7 : Hid (Below w.heap.size w w7) := Lib.hid (btr B6.out b7)
    have Spp_7 := Lib.hid (Spp_6.out.up b7)
    clear Spp_6
    have Sqq_7 := Lib.hid (Sqq_6.out.up b7)
    clear Sqq_6
    have Srr_7 := Lib.hid (Srr_6.out.up b7)
    clear Srr_6
    have Spq_7 := Lib.hid (Spq_6.out.up b7)
    clear Spq_6
    have Sqr_7 := Lib.hid s7
    have Lqr := s7.hid
    have Iqr := Lib.hid (isP_comp Iqq.out Irr.out (Lqq.out.trans Lrr.out.symm))
    clear s7 b7
    go_wp2_with fail
    refine (compT Apq Arr cpq crr n _ _ _ _ w7 Spq_7.out Srr_7.out Ipq Irr).mono ?_
    rintro e w8 ⟨Axx, cxx, rfl, s8, b8⟩
    have B8 : Hid (Below w.heap.size w w8) := Lib.hid (btr B7.out b8)
    have Spp_8 := Lib.hid (Spp_7.out.up b8)
    clear Spp_7
    have Sqq_8 := Lib.hid (Sqq_7.out.up b8)
    clear Sqq_7
    have Srr_8 := Lib.hid (Srr_7.out.up b8)
    clear Srr_7
    have Spq_8 := Lib.hid (Spq_7.out.up b8)
    clear Spq_7
    have Sqr_8 := Lib.hid (Sqr_7.out.up b8)
    clear Sqr_7
    rw [comp_assoc Ipp.out (Lpp.out.trans Lqq.out.symm)] at s8
    have Sxx_8 := Lib.hid s8
    have Lxx := s8.hid
    clear s8 b8
    go_wp2_with fail
    refine (compT App Aqr cpp cqr n _ _ _ _ w8 Spp_8.out Sqr_8.out Ipp Iqr).mono ?_
    rintro e w9 ⟨Ayy, cyy, rfl, s9, b9⟩
    have B9 : Hid (Below w.heap.size w w9) := Lib.hid (btr B8.out b9)
    have Spp_9 := Lib.hid (Spp_8.out.up b9)
    clear Spp_8
    have Sqq_9 := Lib.hid (Sqq_8.out.up b9)
    clear Sqq_8
    have Srr_9 := Lib.hid (Srr_8.out.up b9)
    clear Srr_8
    have Spq_9 := Lib.hid (Spq_8.out.up b9)
    clear Spq_8
    have Sqr_9 := Lib.hid (Sqr_8.out.up b9)
    clear Sqr_8
    have Sxx_9 := Lib.hid (Sxx_8.out.up b9)
    clear Sxx_8
    have Syy_9 := Lib.hid s9
    have Lyy := s9.hid
    clear s9 b9
    go_wp2_with fail
    refine (invT App cpp n _ _ w9 Spp_9.out Ipp).mono ?_
    rintro e w10 ⟨Aii, cii, rfl, s10, b10⟩
    have B10 : Hid (Below w.heap.size w w10) := Lib.hid (btr B9.out b10)
    have Spp_10 := Lib.hid (Spp_9.out.up b10)
    clear Spp_9
    have Sqq_10 := Lib.hid (Sqq_9.out.up b10)
    clear Sqq_9
    have Srr_10 := Lib.hid (Srr_9.out.up b10)
    clear Srr_9
    have Spq_10 := Lib.hid (Spq_9.out.up b10)
    clear Spq_9
    have Sqr_10 := Lib.hid (Sqr_9.out.up b10)
    clear Sqr_9
    have Sxx_10 := Lib.hid (Sxx_9.out.up b10)
    clear Sxx_9
    have Syy_10 := Lib.hid (Syy_9.out.up b10)
    clear Syy_9
    have Sii_10 := Lib.hid s10
    have Lii := s10.hid
    have Iii := Lib.hid (isP_inv' Ipp.out Lpp.out)
    clear s10 b10
    go_wp2_with fail
    refine (compT App Aii cpp cii n _ _ _ _ w10 Spp_10.out Sii_10.out Ipp Iii).mono ?_
    rintro e w11 ⟨Auu, cuu, rfl, s11, b11⟩
    have B11 : Hid (Below w.heap.size w w11) := Lib.hid (btr B10.out b11)
    have Spp_11 := Lib.hid (Spp_10.out.up b11)
    clear Spp_10
    have Sqq_11 := Lib.hid (Sqq_10.out.up b11)
    clear Sqq_10
    have Srr_11 := Lib.hid (Srr_10.out.up b11)
    clear Srr_10
    have Spq_11 := Lib.hid (Spq_10.out.up b11)
    clear Spq_10
    have Sqr_11 := Lib.hid (Sqr_10.out.up b11)
    clear Sqr_10
    have Sxx_11 := Lib.hid (Sxx_10.out.up b11)
    clear Sxx_10
    have Syy_11 := Lib.hid (Syy_10.out.up b11)
    clear Syy_10
    have Sii_11 := Lib.hid (Sii_10.out.up b11)
    clear Sii_10
    rw [comp_inv' Ipp.out Lpp.out] at s11
    have Suu_11 := Lib.hid s11
    have Luu := s11.hid
    clear s11 b11
    go_wp2_with fail
    refine (compT Aii App cii cpp n _ _ _ _ w11 Sii_11.out Spp_11.out Iii Ipp).mono ?_
    rintro e w12 ⟨Avv, cvv, rfl, s12, b12⟩
    have B12 : Hid (Below w.heap.size w w12) := Lib.hid (btr B11.out b12)
    have Spp_12 := Lib.hid (Spp_11.out.up b12)
    clear Spp_11
    have Sqq_12 := Lib.hid (Sqq_11.out.up b12)
    clear Sqq_11
    have Srr_12 := Lib.hid (Srr_11.out.up b12)
    clear Srr_11
    have Spq_12 := Lib.hid (Spq_11.out.up b12)
    clear Spq_11
    have Sqr_12 := Lib.hid (Sqr_11.out.up b12)
    clear Sqr_11
    have Sxx_12 := Lib.hid (Sxx_11.out.up b12)
    clear Sxx_11
    have Syy_12 := Lib.hid (Syy_11.out.up b12)
    clear Syy_11
    have Sii_12 := Lib.hid (Sii_11.out.up b12)
    clear Sii_11
    have Suu_12 := Lib.hid (Suu_11.out.up b12)
    clear Suu_11
    rw [inv_comp' Ipp.out Lpp.out] at s12
    have Svv_12 := Lib.hid s12
    have Lvv := s12.hid
    clear s12 b12
    go_wp2_with fail
    refine (idT _ n w12 HK.out hn1 hn20).mono ?_
    rintro e w13 ⟨Aone, cone, rfl, s13, b13⟩
    have B13 : Hid (Below w.heap.size w w13) := Lib.hid (btr B12.out b13)
    have Spp_13 := Lib.hid (Spp_12.out.up b13)
    clear Spp_12
    have Sqq_13 := Lib.hid (Sqq_12.out.up b13)
    clear Sqq_12
    have Srr_13 := Lib.hid (Srr_12.out.up b13)
    clear Srr_12
    have Spq_13 := Lib.hid (Spq_12.out.up b13)
    clear Spq_12
    have Sqr_13 := Lib.hid (Sqr_12.out.up b13)
    clear Sqr_12
    have Sxx_13 := Lib.hid (Sxx_12.out.up b13)
    clear Sxx_12
    have Syy_13 := Lib.hid (Syy_12.out.up b13)
    clear Syy_12
    have Sii_13 := Lib.hid (Sii_12.out.up b13)
    clear Sii_12
    have Suu_13 := Lib.hid (Suu_12.out.up b13)
    clear Suu_12
    have Svv_13 := Lib.hid (Svv_12.out.up b13)
    clear Svv_12
    have Sone_13 := Lib.hid s13
    have Lone := s13.hid
    clear s13 b13
    have hd9 := HD.out
    go_wp2_with fail
    refine (likeT _ _ Axx Ayy n cxx n cyy w13 Sxx_13.out Syy_13.out (by omega)).mono ?_
    rintro e w14 ⟨rfl, b14⟩
    have B14 : Hid (Below w.heap.size w w14) := Lib.hid (btr B13.out b14)
    have Spp_14 := Lib.hid (Spp_13.out.up b14)
    clear Spp_13
    have Sqq_14 := Lib.hid (Sqq_13.out.up b14)
    clear Sqq_13
    have Srr_14 := Lib.hid (Srr_13.out.up b14)
    clear Srr_13
    have Spq_14 := Lib.hid (Spq_13.out.up b14)
    clear Spq_13
    have Sqr_14 := Lib.hid (Sqr_13.out.up b14)
    clear Sqr_13
    have Sxx_14 := Lib.hid (Sxx_13.out.up b14)
    clear Sxx_13
    have Syy_14 := Lib.hid (Syy_13.out.up b14)
    clear Syy_13
    have Sii_14 := Lib.hid (Sii_13.out.up b14)
    clear Sii_13
    have Suu_14 := Lib.hid (Suu_13.out.up b14)
    clear Suu_13
    have Svv_14 := Lib.hid (Svv_13.out.up b14)
    clear Svv_13
    have Sone_14 := Lib.hid (Sone_13.out.up b14)
    clear Sone_13
    clear b14
    go_wp2_with fail
    refine (likeT _ _ Auu Aone n cuu n cone w14 Suu_14.out Sone_14.out (by omega)).mono ?_
    rintro e w15 ⟨rfl, b15⟩
    have B15 : Hid (Below w.heap.size w w15) := Lib.hid (btr B14.out b15)
    have Spp_15 := Lib.hid (Spp_14.out.up b15)
    clear Spp_14
    have Sqq_15 := Lib.hid (Sqq_14.out.up b15)
    clear Sqq_14
    have Srr_15 := Lib.hid (Srr_14.out.up b15)
    clear Srr_14
    have Spq_15 := Lib.hid (Spq_14.out.up b15)
    clear Spq_14
    have Sqr_15 := Lib.hid (Sqr_14.out.up b15)
    clear Sqr_14
    have Sxx_15 := Lib.hid (Sxx_14.out.up b15)
    clear Sxx_14
    have Syy_15 := Lib.hid (Syy_14.out.up b15)
    clear Syy_14
    have Sii_15 := Lib.hid (Sii_14.out.up b15)
    clear Sii_14
    have Suu_15 := Lib.hid (Suu_14.out.up b15)
    clear Suu_14
    have Svv_15 := Lib.hid (Svv_14.out.up b15)
    clear Svv_14
    have Sone_15 := Lib.hid (Sone_14.out.up b15)
    clear Sone_14
    clear b15
    go_wp2_with fail
    refine (likeT _ _ Avv Aone n cvv n cone w15 Svv_15.out Sone_15.out (by omega)).mono ?_
    rintro e w16 ⟨rfl, b16⟩
    have B16 : Hid (Below w.heap.size w w16) := Lib.hid (btr B15.out b16)
    have Spp_16 := Lib.hid (Spp_15.out.up b16)
    clear Spp_15
    have Sqq_16 := Lib.hid (Sqq_15.out.up b16)
    clear Sqq_15
    have Srr_16 := Lib.hid (Srr_15.out.up b16)
    clear Srr_15
    have Spq_16 := Lib.hid (Spq_15.out.up b16)
    clear Spq_15
    have Sqr_16 := Lib.hid (Sqr_15.out.up b16)
    clear Sqr_15
    have Sxx_16 := Lib.hid (Sxx_15.out.up b16)
    clear Sxx_15
    have Syy_16 := Lib.hid (Syy_15.out.up b16)
    clear Syy_15
    have Sii_16 := Lib.hid (Sii_15.out.up b16)
    clear Sii_15
    have Suu_16 := Lib.hid (Suu_15.out.up b16)
    clear Suu_15
    have Svv_16 := Lib.hid (Svv_15.out.up b16)
    clear Svv_15
    have Sone_16 := Lib.hid (Sone_15.out.up b16)
    clear Sone_15
    clear b16
    go_wp2_with fail
    refine (isPT Apq cpq n _ _ w16 Spq_16.out Ipq).mono ?_
    rintro e w17 ⟨rfl, b17⟩
    have B17 : Hid (Below w.heap.size w w17) := Lib.hid (btr B16.out b17)
    have Spp_17 := Lib.hid (Spp_16.out.up b17)
    clear Spp_16
    have Sqq_17 := Lib.hid (Sqq_16.out.up b17)
    clear Sqq_16
    have Srr_17 := Lib.hid (Srr_16.out.up b17)
    clear Srr_16
    have Spq_17 := Lib.hid (Spq_16.out.up b17)
    clear Spq_16
    have Sqr_17 := Lib.hid (Sqr_16.out.up b17)
    clear Sqr_16
    have Sxx_17 := Lib.hid (Sxx_16.out.up b17)
    clear Sxx_16
    have Syy_17 := Lib.hid (Syy_16.out.up b17)
    clear Syy_16
    have Sii_17 := Lib.hid (Sii_16.out.up b17)
    clear Sii_16
    have Suu_17 := Lib.hid (Suu_16.out.up b17)
    clear Suu_16
    have Svv_17 := Lib.hid (Svv_16.out.up b17)
    clear Svv_16
    have Sone_17 := Lib.hid (Sone_16.out.up b17)
    clear Sone_16
    clear b17
    go_wp2_with fail
    go_ret
    exact ⟨rfl, B17.out⟩
  · go_enter Try.func3, Try.ntmps3
    go_wp2_with fail
    refine (bigF A len cap w (by omega)).mono ?_
    rintro e w0 ⟨rfl, rfl⟩
    go_wp2_with fail
    go_ret
    exact ⟨rfl, Below.refl _ _⟩
end Go.Proofs.Ytopaeojcpidfgaa
