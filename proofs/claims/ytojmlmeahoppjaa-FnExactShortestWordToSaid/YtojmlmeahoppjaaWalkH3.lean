/- The walk of the law FnExactShortestWordTo: it returns true at every input, and writes nothing that was there. No condition. -/
import Derived.Test.YtojmlmeahoppjaaWordG
import Derived.Test.YtojmlmeahoppjaaWordZ
import Derived.Test.YtojmlmeahoppjaaSSo
namespace Go.Proofs.Ytojmlmeahoppjaa
open Go.RowKit

set_option maxHeartbeats 4000000 in
set_option maxRecDepth 100000 in
/-- The law FnExactShortestWordTo. -/
theorem lawShortestWordTo (a : Int) (A : Option Addr) (n c : Nat) (x : Int) (y : Int) (vs : List SV) (xss : List (List Int)) (w : World) (hx : RR w w.heap.size A n vs xss) (hnm : n ≤ maxLen) (hlm : Hid (∀ i, i < n → (vs.getD i sd0).2.1 ≤ maxLen)) (wfa : -9223372036854775808 ≤ a ∧ a ≤ 9223372036854775807) (wfx : -9223372036854775808 ≤ x ∧ x ≤ 9223372036854775807) (wfy : -9223372036854775808 ≤ y ∧ y ≤ 9223372036854775807) :
    Calls Try.prog 8 #[.int .i64 a, .slice A n c, .int .i64 x, .int .i64 y] w fun e w' => e = .returned (.bool true) ∧ Below w.heap.size w w' := by
  have HX := Lib.hid hx
  have hlxs := Lib.hid hx.lx
  have hll := Lib.hid hx.lens
  by_cases hT : n + tot vs n ≤ 1048576
  · have hn : n ≤ 1048576 := by omega
    have hl : Hid (∀ i, i < n → (vs.getD i sd0).2.1 ≤ 1048576) := Lib.hid fun i hi => by have := tot_row (vs := vs) hi; omega
    have hyl : Hid (∀ i, i < n → (xss.getD i []).length ≤ 1048576) := Lib.hid fun i hi => by rw [hll.out i hi]; exact hl.out i hi
    obtain ⟨L, eL⟩ : ∃ L : Int, 1048576 - ((n + tot vs n : Nat) : Int) = L := ⟨_, rfl⟩
    have hL : ¬ L < 0 := by omega
    have dL : decide (L < 0) = false := by simp; omega
    have KT : Hid (tot vs n ≤ 1048576) := Lib.hid (by omega)
    clear hx
    go_enter Try.func8, Try.ntmps8
    go_wp2_with fail
    have K0 := szSS A n c vs xss w HX.out hnm hlm
    refine K0.mono ?_
    rintro e w0 ⟨rfl, rfl⟩
    clear K0
    rw [if_pos hT, eL]
    have HT := Lib.hid hT
    clear hT eL
    go_wp2_with fail
    refine (toSS A n c vs xss w HX.out hn hl).mono ?_
    rintro e w1 ⟨A1, c1, us1, rfl, s1, q1, b1⟩
    have Z1 : Hid (w.heap.size ≤ w1.heap.size) := Lib.hid b1.size
    have B1 : Hid (Below w.heap.size w w1) := Lib.hid b1
    have Ft_1 := Lib.hid s1
    have Lt : Hid (Lies A1 n c1 w.heap.size w1.heap.size) := Lib.hid s1.lt_
    have It : Hid (∀ t, t < n → ∀ k, (sval (us1.getD t sd0)).ownBlock = some k → w.heap.size ≤ k ∧ k < w1.heap.size) := Lib.hid fun t ht => (s1.row t ht).lt_
    have Qt := Lib.hid q1
    have hlt : Hid (∀ i, i < n → (us1.getD i sd0).2.1 ≤ 1048576) := Lib.hid fun i hi => by rw [q1 i hi]; exact hl.out i hi
    clear s1 b1 q1
    go_wp2_with fail
    have K2 := specShortestWordTo a A1 n c1 x y us1 xss w1 Ft_1.out.rr hn hlt wfa wfx wfy
    refine K2.mono ?_
    clear K2
    rintro e w2 ⟨A2, n2, c2, rfl, s2, m2, b2⟩
    have Z2 : Hid (w1.heap.size ≤ w2.heap.size) := Lib.hid b2.size
    have B2 : Hid (Below w.heap.size w w2) := Lib.hid (btr B1.out b2)
    have Ft_2 := Lib.hid (Ft_1.out.up b2)
    clear Ft_1
    have FW_2 := Lib.hid s2
    have LW : Hid (Lies A2 n2 c2 w1.heap.size w2.heap.size) := Lib.hid s2.lies
    clear s2 b2
    clear Ft_2
    go_wp2_with fail
    refine (toSS A n c vs xss w2 (HX.out.up B2.out) hn hl).mono ?_
    rintro e w3 ⟨A3, c3, us3, rfl, s3, q3, b3⟩
    have Z3 : Hid (w2.heap.size ≤ w3.heap.size) := Lib.hid b3.size
    have B3 : Hid (Below w.heap.size w w3) := Lib.hid (btr B2.out b3)
    have FW_3 := Lib.hid (FW_2.out.up b3)
    clear FW_2
    have Fx_3 := Lib.hid s3
    have Lx : Hid (Lies A3 n c3 w2.heap.size w3.heap.size) := Lib.hid s3.lt_
    have Ix : Hid (∀ t, t < n → ∀ k, (sval (us3.getD t sd0)).ownBlock = some k → w2.heap.size ≤ k ∧ k < w3.heap.size) := Lib.hid fun t ht => (s3.row t ht).lt_
    have Qx := Lib.hid q3
    have hlx : Hid (∀ i, i < n → (us3.getD i sd0).2.1 ≤ 1048576) := Lib.hid fun i hi => by rw [q3 i hi]; exact hl.out i hi
    clear s3 b3 q3
    go_wp2_with fail
    have K4 := implShortestWordTo a A3 n c3 x y us3 xss w3 Fx_3.out.rr hn hlx
    refine K4.mono ?_
    clear K4
    rintro e w4 ⟨A4, n4, c4, rfl, s4, m4, b4⟩
    have Z4 : Hid (w3.heap.size ≤ w4.heap.size) := Lib.hid b4.size
    have B4 : Hid (Below w.heap.size w w4) := Lib.hid (btr B3.out b4)
    have FW_4 := Lib.hid (FW_3.out.up b4)
    clear FW_3
    have Fx_4 := Lib.hid (Fx_3.out.up b4)
    clear Fx_3
    have FG_4 := Lib.hid s4
    have LG : Hid (Lies A4 n4 c4 w3.heap.size w4.heap.size) := Lib.hid s4.lies
    clear s4 b4
    go_wp2_with fail
    refine (eqS_same _ _ A4 A2 n4 c4 n2 c2 w4 FG_4.out FW_4.out (by omega)).mono ?_
    rintro e w5 ⟨rfl, b5⟩
    have Z5 : Hid (w4.heap.size ≤ w5.heap.size) := Lib.hid b5.size
    have B5 : Hid (Below w.heap.size w w5) := Lib.hid (btr B4.out b5)
    have FW_5 := Lib.hid (FW_4.out.up b5)
    clear FW_4
    have Fx_5 := Lib.hid (Fx_4.out.up b5)
    clear Fx_4
    have FG_5 := Lib.hid (FG_4.out.up b5)
    clear FG_4
    clear b5
    go_wp2_with fail
    refine (toSS A n c vs xss w5 (HX.out.up B5.out) hn hl).mono ?_
    rintro e w6 ⟨A6, c6, us6, rfl, s6, q6, b6⟩
    have Z6 : Hid (w5.heap.size ≤ w6.heap.size) := Lib.hid b6.size
    have B6 : Hid (Below w.heap.size w w6) := Lib.hid (btr B5.out b6)
    have FW_6 := Lib.hid (FW_5.out.up b6)
    clear FW_5
    have Fx_6 := Lib.hid (Fx_5.out.up b6)
    clear Fx_5
    have FG_6 := Lib.hid (FG_5.out.up b6)
    clear FG_5
    have Fy_6 := Lib.hid s6
    have Ly : Hid (Lies A6 n c6 w5.heap.size w6.heap.size) := Lib.hid s6.lt_
    have Iy : Hid (∀ t, t < n → ∀ k, (sval (us6.getD t sd0)).ownBlock = some k → w5.heap.size ≤ k ∧ k < w6.heap.size) := Lib.hid fun t ht => (s6.row t ht).lt_
    have Qy := Lib.hid q6
    have hly : Hid (∀ i, i < n → (us6.getD i sd0).2.1 ≤ 1048576) := Lib.hid fun i hi => by rw [q6 i hi]; exact hl.out i hi
    clear s6 b6 q6
    go_wp2_with fail
    refine (eqRR_same A3 A6 n c3 n c6 us3 us6 _ w6 Fx_6.out.rr Fy_6.out.rr (by omega) hyl).mono ?_
    rintro e w7 ⟨rfl, b7⟩
    have Z7 : Hid (w6.heap.size ≤ w7.heap.size) := Lib.hid b7.size
    have B7 : Hid (Below w.heap.size w w7) := Lib.hid (btr B6.out b7)
    have FW_7 := Lib.hid (FW_6.out.up b7)
    clear FW_6
    have Fx_7 := Lib.hid (Fx_6.out.up b7)
    clear Fx_6
    have FG_7 := Lib.hid (FG_6.out.up b7)
    clear FG_6
    have Fy_7 := Lib.hid (Fy_6.out.up b7)
    clear Fy_6
    clear b7
    clear Fy_7
    have KTx : Hid (tot us3 n ≤ 1048576) := Lib.hid (by rw [tot_eq n Qx.out]; exact KT.out)
    go_wp2_with fail
    refine (markSS A3 n c3 _ _ us3 _ w7 Fx_7.out (by omega) KTx).mono ?_
    rintro e w8 ⟨rfl, s8, o8⟩
    have Z8 : Hid (w7.heap.size ≤ w8.heap.size) := Lib.hid o8.size
    have B8 : Hid (Below w.heap.size w w8) := Lib.hid (B7.out.trans (o8.below B7.out.size (fun t ht k e => by have h2 := Ix.out t ht k e; have := Z1.out; have := Z2.out; have := Z3.out; have := Z4.out; have := Z5.out; have := Z6.out; have := Z7.out; have := Z8.out; omega)))
    have FW_8 := Lib.hid (FW_7.out.only o8 (fun k hk t ht e => by have h1 := LW.out k hk; have h2 := Ix.out t ht k e; have := Z1.out; have := Z2.out; have := Z3.out; have := Z4.out; have := Z5.out; have := Z6.out; have := Z7.out; have := Z8.out; omega))
    clear FW_7
    have Fx_8 := Lib.hid s8
    clear Fx_7
    have FG_8 := Lib.hid (FG_7.out.only o8 (fun k hk t ht e => by have h1 := LG.out k hk; have h2 := Ix.out t ht k e; have := Z1.out; have := Z2.out; have := Z3.out; have := Z4.out; have := Z5.out; have := Z6.out; have := Z7.out; have := Z8.out; omega))
    clear FG_7
    clear s8 o8
    obtain ⟨T, eT⟩ : ∃ T, tot us3 n = T := ⟨_, rfl⟩
    have hT9 : T ≤ 1048576 := by rw [← eT]; exact KTx.out
    rw [eT]
    clear eT
    go_wp2_with fail
    refine (eqS_same _ _ A4 A2 n4 c4 n2 c2 w8 FG_8.out FW_8.out (by omega)).mono ?_
    rintro e w9 ⟨rfl, b9⟩
    have Z9 : Hid (w8.heap.size ≤ w9.heap.size) := Lib.hid b9.size
    have B9 : Hid (Below w.heap.size w w9) := Lib.hid (btr B8.out b9)
    have FW_9 := Lib.hid (FW_8.out.up b9)
    clear FW_8
    have Fx_9 := Lib.hid (Fx_8.out.up b9)
    clear Fx_8
    have FG_9 := Lib.hid (FG_8.out.up b9)
    clear FG_8
    clear b9
    clear Fx_9
    go_wp2_with fail
    refine (mark1 _ A4 n4 c4 _ w9 FG_9.out (by omega)).mono ?_
    rintro e w10 ⟨rfl, s10, g10⟩
    have Z10 : Hid (w9.heap.size ≤ w10.heap.size) := Lib.hid g10.size
    have B10 : Hid (Below w.heap.size w w10) := Lib.hid (B9.out.trans (below_mark g10 LG.out (by have := Z1.out; have := Z2.out; have := Z3.out; have := Z4.out; have := Z5.out; have := Z6.out; have := Z7.out; have := Z8.out; have := Z9.out; have := Z10.out; omega) B9.out.size))
    have FW_10 := Lib.hid (FW_9.out.far g10 LW.out LG.out (.inl (by have := Z1.out; have := Z2.out; have := Z3.out; have := Z4.out; have := Z5.out; have := Z6.out; have := Z7.out; have := Z8.out; have := Z9.out; have := Z10.out; omega)))
    clear FW_9
    have FG_10 := Lib.hid s10
    clear FG_9
    clear s10 g10
    go_wp2_with fail
    refine (held1 _ A4 n4 c4 w10 FG_10.out (by omega)).mono ?_
    rintro e w' ⟨rfl, rfl⟩
    go_wp2_with fail
    refine (toSS A n c vs xss w10 (HX.out.up B10.out) hn hl).mono ?_
    rintro e w11 ⟨A11, c11, us11, rfl, s11, q11, b11⟩
    have Z11 : Hid (w10.heap.size ≤ w11.heap.size) := Lib.hid b11.size
    have B11 : Hid (Below w.heap.size w w11) := Lib.hid (btr B10.out b11)
    have FW_11 := Lib.hid (FW_10.out.up b11)
    clear FW_10
    have FG_11 := Lib.hid (FG_10.out.up b11)
    clear FG_10
    have Fz_11 := Lib.hid s11
    have Lz : Hid (Lies A11 n c11 w10.heap.size w11.heap.size) := Lib.hid s11.lt_
    have Iz : Hid (∀ t, t < n → ∀ k, (sval (us11.getD t sd0)).ownBlock = some k → w10.heap.size ≤ k ∧ k < w11.heap.size) := Lib.hid fun t ht => (s11.row t ht).lt_
    have Qz := Lib.hid q11
    have hlz : Hid (∀ i, i < n → (us11.getD i sd0).2.1 ≤ 1048576) := Lib.hid fun i hi => by rw [q11 i hi]; exact hl.out i hi
    clear s11 b11 q11
    go_wp2_with fail
    have K12 := implShortestWordTo a A11 n c11 x y us11 xss w11 Fz_11.out.rr hn hlz
    refine K12.mono ?_
    clear K12
    rintro e w12 ⟨A12, n12, c12, rfl, s12, m12, b12⟩
    have Z12 : Hid (w11.heap.size ≤ w12.heap.size) := Lib.hid b12.size
    have B12 : Hid (Below w.heap.size w w12) := Lib.hid (btr B11.out b12)
    have FW_12 := Lib.hid (FW_11.out.up b12)
    clear FW_11
    have FG_12 := Lib.hid (FG_11.out.up b12)
    clear FG_11
    have Fz_12 := Lib.hid (Fz_11.out.up b12)
    clear Fz_11
    have FH_12 := Lib.hid s12
    have LH : Hid (Lies A12 n12 c12 w11.heap.size w12.heap.size) := Lib.hid s12.lies
    clear s12 b12
    clear Fz_12
    go_wp2_with fail
    refine (eqS_same _ _ A12 A2 n12 c12 n2 c2 w12 FH_12.out FW_12.out (by omega)).mono ?_
    rintro e w13 ⟨rfl, b13⟩
    have Z13 : Hid (w12.heap.size ≤ w13.heap.size) := Lib.hid b13.size
    have B13 : Hid (Below w.heap.size w w13) := Lib.hid (btr B12.out b13)
    have FW_13 := Lib.hid (FW_12.out.up b13)
    clear FW_12
    have FG_13 := Lib.hid (FG_12.out.up b13)
    clear FG_12
    have FH_13 := Lib.hid (FH_12.out.up b13)
    clear FH_12
    clear b13
    go_wp2_with fail
    refine (held1 _ A4 n4 c4 w13 FG_13.out (by omega)).mono ?_
    rintro e w' ⟨rfl, rfl⟩
    go_wp2_with fail
    go_ret
    exact ⟨rfl, B13.out⟩
  · clear hx
    go_enter Try.func8, Try.ntmps8
    go_wp2_with fail
    have K0 := szSS A n c vs xss w HX.out hnm hlm
    refine K0.mono ?_
    rintro e w0 ⟨rfl, rfl⟩
    clear K0
    rw [if_neg hT]
    go_wp2
    go_ret
    exact ⟨rfl, Below.refl _ _⟩
end Go.Proofs.Ytojmlmeahoppjaa
