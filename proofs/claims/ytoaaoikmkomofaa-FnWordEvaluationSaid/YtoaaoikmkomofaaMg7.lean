/- Part 7 of the texts: WalkL8, WalkM8, Nmd8. No condition of its own: each text tells its own. -/
import Derived.Test.YtoaaoikmkomofaaMg6
import Derived.Test.YtoaaoikmkomofaaMg1
set_option linter.unusedVariables false
set_option linter.unusedSimpArgs false

/- The walk of the law FnWordForms: it returns true at every input, and writes nothing that was there. No condition. -/
namespace Go.Proofs.Ytoaaoikmkomofaa
open Go.RowKit

theorem okF_iff {xss : List (List Int)} : okF xss = true ↔ (∀ y ∈ xss, vW 8 y = true) ∧ xss.flatten.length ≤ 200 := by
  unfold okF; rw [Bool.and_eq_true, List.all_eq_true, decide_eq_true_eq]
theorem vW_app {a b : List Int} (ha : vW 8 a = true) (hb : vW 8 b = true) (hl : (a ++ b).length ≤ 200) : vW 8 (a ++ b) = true := by
  rw [vW_iff] at ha hb ⊢
  exact ⟨hl, fun l h => by rcases List.mem_append.1 h with h | h; exact ha.2 l h; exact hb.2 l h⟩
theorem cat2 {a b : List Int} (ha : vW 8 a = true) (hb : vW 8 b = true) (hl : (a ++ b).length ≤ 200) : catF [a, b] = a ++ b := by
  have : okF [a, b] = true := okF_iff.2 ⟨fun y hy => by simp at hy; rcases hy with rfl | rfl <;> assumption, by simpa using hl⟩
  unfold catF; rw [if_pos this]; simp
theorem cjg_cat {a b : List Int} (h : okF (cjgF a b) = true) : catF [catF [a, b], invF a] = catF (cjgF a b) := by
  have e0 : catF (cjgF a b) = (cjgF a b).flatten := by unfold catF; rw [if_pos h]
  rw [e0]
  obtain ⟨h1, h2⟩ := okF_iff.1 h
  have ha := h1 a (by simp [cjgF])
  have hb := h1 b (by simp [cjgF])
  have e1 : invF a = ivW a := by unfold invF; rw [if_pos ha]
  simp only [cjgF, List.flatten_cons, List.flatten_nil, List.append_nil, List.length_append] at h2
  have hl : (a ++ b).length ≤ 200 := by rw [List.length_append]; omega
  rw [e1, cat2 ha hb hl, cat2 (vW_app ha hb hl) (vW_iv ha) (by rw [List.length_append, List.length_append]; omega)]
  simp [cjgF]
theorem com_cat {a b : List Int} (h : okF (comF a b) = true) : catF [catF [catF [a, b], invF a], invF b] = catF (comF a b) := by
  have e0 : catF (comF a b) = (comF a b).flatten := by unfold catF; rw [if_pos h]
  rw [e0]
  obtain ⟨h1, h2⟩ := okF_iff.1 h
  have ha := h1 a (by simp [comF])
  have hb := h1 b (by simp [comF])
  have e1 : invF a = ivW a := by unfold invF; rw [if_pos ha]
  have e2 : invF b = ivW b := by unfold invF; rw [if_pos hb]
  simp only [comF, List.flatten_cons, List.flatten_nil, List.append_nil, List.length_append] at h2
  have hl : (a ++ b).length ≤ 200 := by rw [List.length_append]; omega
  have hl2 : ((a ++ b) ++ ivW a).length ≤ 200 := by rw [List.length_append, List.length_append]; omega
  rw [e1, e2, cat2 ha hb hl, cat2 (vW_app ha hb hl) (vW_iv ha) hl2, cat2 (vW_app (vW_app ha hb hl) (vW_iv ha) hl2) (vW_iv hb) (by rw [List.length_append, List.length_append, List.length_append]; omega)]
  simp [comF]
theorem wlB_asymm {a b : List Int} (h : wlB a b = true) : wlB b a = false := by
  unfold wlB at h ⊢
  rw [Bool.and_eq_true, Bool.and_eq_true] at h
  rw [lsW_asymm h.2, Bool.and_false]

set_option maxHeartbeats 8000000 in
set_option maxRecDepth 100000 in
theorem lawWordForms (A : Option Addr) (cap len : Nat) (w : World) (hb : SB w w.heap.size A len) :
    Calls Try.prog 5 #[.slice A len cap] w fun e w' => e = .returned (.bool true) ∧ Below w.heap.size w w' := by
  by_cases hl : len ≤ 4096
  · go_enter Try.func5, Try.ntmps5
    go_wp2_with fail
    refine (bigF8 A len cap w hl).mono ?_
    rintro e w0 ⟨rfl, rfl⟩
    have HB := Lib.hid hb
    go_wp2_with fail
    refine (drawCM len cap A w hb hl).mono ?_
    rintro e w1 ⟨Ax, nx, cx, x, Ay, ny, cy, y, rfl, x1, y1, b1⟩
    have B1 : Hid (Below w.heap.size w w1) := Lib.hid b1
    have X1 := Lib.hid x1
    have Y1 := Lib.hid y1
    clear b1 x1 y1
    clear hb
    go_wp2_with fail
    refine (iCM X1.out Y1.out).mono ?_
    rintro e w2 ⟨A2, n2, c2, rfl, s2, b2⟩
    have B2 : Hid (Below w.heap.size w w2) := Lib.hid (btr B1.out b2)
    have X2 := Lib.hid (X1.out.up b2)
    clear X1
    have Y2 := Lib.hid (Y1.out.up b2)
    clear Y1
    have U2 : Hid (WI w2 A2 n2 c2 (catF (comF x y))) := Lib.hid s2
    clear b2 s2
    go_wp2_with fail
    refine (iCJ X2.out Y2.out).mono ?_
    rintro e w3 ⟨A3, n3, c3, rfl, s3, b3⟩
    have B3 : Hid (Below w.heap.size w w3) := Lib.hid (btr B2.out b3)
    have X3 := Lib.hid (X2.out.up b3)
    clear X2
    have Y3 := Lib.hid (Y2.out.up b3)
    clear Y2
    have U3 := Lib.hid (U2.out.up b3)
    clear U2
    have V3 : Hid (WI w3 A3 n3 c3 (catF (cjgF x y))) := Lib.hid s3
    clear b3 s3
    go_wp2_with fail
    refine (iCW X3.out Y3.out).mono ?_
    rintro e w4 ⟨A4, n4, c4, rfl, s4, b4⟩
    have B4 : Hid (Below w.heap.size w w4) := Lib.hid (btr B3.out b4)
    have X4 := Lib.hid (X3.out.up b4)
    clear X3
    have Y4 := Lib.hid (Y3.out.up b4)
    clear Y3
    have U4 := Lib.hid (U3.out.up b4)
    clear U3
    have V4 := Lib.hid (V3.out.up b4)
    clear V3
    have Z4 : Hid (WI w4 A4 n4 c4 (catF [x, y])) := Lib.hid s4
    clear b4 s4
    go_wp2_with fail
    refine (sCM X4.out Y4.out).mono ?_
    rintro e w5 ⟨A5, n5, c5, rfl, s5, b5⟩
    have B5 : Hid (Below w.heap.size w w5) := Lib.hid (btr B4.out b5)
    have X5 := Lib.hid (X4.out.up b5)
    clear X4
    have Y5 := Lib.hid (Y4.out.up b5)
    clear Y4
    have U5 := Lib.hid (U4.out.up b5)
    clear U4
    have V5 := Lib.hid (V4.out.up b5)
    clear V4
    have Z5 := Lib.hid (Z4.out.up b5)
    clear Z4
    clear b5
    clear s5
    go_wp2_with fail
    refine (sCJ X5.out Y5.out).mono ?_
    rintro e w6 ⟨A6, n6, c6, rfl, s6, b6⟩
    have B6 : Hid (Below w.heap.size w w6) := Lib.hid (btr B5.out b6)
    have X6 := Lib.hid (X5.out.up b6)
    clear X5
    have Y6 := Lib.hid (Y5.out.up b6)
    clear Y5
    have U6 := Lib.hid (U5.out.up b6)
    clear U5
    have V6 := Lib.hid (V5.out.up b6)
    clear V5
    have Z6 := Lib.hid (Z5.out.up b6)
    clear Z5
    clear b6
    clear s6
    go_wp2_with fail
    refine (sCW X6.out Y6.out).mono ?_
    rintro e w7 ⟨A7, n7, c7, rfl, s7, b7⟩
    have B7 : Hid (Below w.heap.size w w7) := Lib.hid (btr B6.out b7)
    have X7 := Lib.hid (X6.out.up b7)
    clear X6
    have Y7 := Lib.hid (Y6.out.up b7)
    clear Y6
    have U7 := Lib.hid (U6.out.up b7)
    clear U6
    have V7 := Lib.hid (V6.out.up b7)
    clear V6
    have Z7 := Lib.hid (Z6.out.up b7)
    clear Z6
    clear b7
    clear s7
    have : (okF (comF x y) != okF (comF x y)) = false := by simp
    have : (okF (cjgF x y) != okF (cjgF x y)) = false := by simp
    have : (okF ([x, y]) != okF ([x, y])) = false := by simp
    go_wp2_with fail
    refine (sCW X7.out Y7.out).mono ?_
    rintro e w8 ⟨A8, n8, c8, rfl, s8, b8⟩
    have B8 : Hid (Below w.heap.size w w8) := Lib.hid (btr B7.out b8)
    have X8 := Lib.hid (X7.out.up b8)
    clear X7
    have Y8 := Lib.hid (Y7.out.up b8)
    clear Y7
    have U8 := Lib.hid (U7.out.up b8)
    clear U7
    have V8 := Lib.hid (V7.out.up b8)
    clear V7
    have Z8 := Lib.hid (Z7.out.up b8)
    clear Z7
    have P8 : Hid (WI w8 A8 n8 c8 (catF [x, y])) := Lib.hid s8
    clear b8 s8
    go_wp2_with fail
    refine (sIV X8.out).mono ?_
    rintro e w9 ⟨A9, n9, c9, rfl, s9, b9⟩
    have B9 : Hid (Below w.heap.size w w9) := Lib.hid (btr B8.out b9)
    have X9 := Lib.hid (X8.out.up b9)
    clear X8
    have Y9 := Lib.hid (Y8.out.up b9)
    clear Y8
    have U9 := Lib.hid (U8.out.up b9)
    clear U8
    have V9 := Lib.hid (V8.out.up b9)
    clear V8
    have Z9 := Lib.hid (Z8.out.up b9)
    clear Z8
    have P9 := Lib.hid (P8.out.up b9)
    clear P8
    have I9 : Hid (WI w9 A9 n9 c9 (invF x)) := Lib.hid s9
    clear b9 s9
    go_wp2_with fail
    refine (sCW P9.out I9.out).mono ?_
    rintro e w10 ⟨A10, n10, c10, rfl, s10, b10⟩
    have B10 : Hid (Below w.heap.size w w10) := Lib.hid (btr B9.out b10)
    have X10 := Lib.hid (X9.out.up b10)
    clear X9
    have Y10 := Lib.hid (Y9.out.up b10)
    clear Y9
    have U10 := Lib.hid (U9.out.up b10)
    clear U9
    have V10 := Lib.hid (V9.out.up b10)
    clear V9
    have Z10 := Lib.hid (Z9.out.up b10)
    clear Z9
    have P10 := Lib.hid (P9.out.up b10)
    clear P9
    have I10 := Lib.hid (I9.out.up b10)
    clear I9
    have Q10 : Hid (WI w10 A10 n10 c10 (catF [catF [x, y], invF x])) := Lib.hid s10
    clear b10 s10
    clear I10
    go_wp2_with fail
    refine (sIV Y10.out).mono ?_
    rintro e w11 ⟨A11, n11, c11, rfl, s11, b11⟩
    have B11 : Hid (Below w.heap.size w w11) := Lib.hid (btr B10.out b11)
    have X11 := Lib.hid (X10.out.up b11)
    clear X10
    have Y11 := Lib.hid (Y10.out.up b11)
    clear Y10
    have U11 := Lib.hid (U10.out.up b11)
    clear U10
    have V11 := Lib.hid (V10.out.up b11)
    clear V10
    have Z11 := Lib.hid (Z10.out.up b11)
    clear Z10
    have P11 := Lib.hid (P10.out.up b11)
    clear P10
    have Q11 := Lib.hid (Q10.out.up b11)
    clear Q10
    have I11 : Hid (WI w11 A11 n11 c11 (invF y)) := Lib.hid s11
    clear b11 s11
    go_wp2_with fail
    refine (sCW Q11.out I11.out).mono ?_
    rintro e w12 ⟨A12, n12, c12, rfl, s12, b12⟩
    have B12 : Hid (Below w.heap.size w w12) := Lib.hid (btr B11.out b12)
    have X12 := Lib.hid (X11.out.up b12)
    clear X11
    have Y12 := Lib.hid (Y11.out.up b12)
    clear Y11
    have U12 := Lib.hid (U11.out.up b12)
    clear U11
    have V12 := Lib.hid (V11.out.up b12)
    clear V11
    have Z12 := Lib.hid (Z11.out.up b12)
    clear Z11
    have P12 := Lib.hid (P11.out.up b12)
    clear P11
    have Q12 := Lib.hid (Q11.out.up b12)
    clear Q11
    have I12 := Lib.hid (I11.out.up b12)
    clear I11
    have S12 : Hid (WI w12 A12 n12 c12 (catF [catF [catF [x, y], invF x], invF y])) := Lib.hid s12
    clear b12 s12
    clear I12
    go_wp2_with fail
    refine (likeW Z12.out P12.out).mono ?_
    rintro e w13 ⟨rfl, b13⟩
    have B13 : Hid (Below w.heap.size w w13) := Lib.hid (btr B12.out b13)
    have X13 := Lib.hid (X12.out.up b13)
    clear X12
    have Y13 := Lib.hid (Y12.out.up b13)
    clear Y12
    have U13 := Lib.hid (U12.out.up b13)
    clear U12
    have V13 := Lib.hid (V12.out.up b13)
    clear V12
    have Z13 := Lib.hid (Z12.out.up b13)
    clear Z12
    have P13 := Lib.hid (P12.out.up b13)
    clear P12
    have Q13 := Lib.hid (Q12.out.up b13)
    clear Q12
    have S13 := Lib.hid (S12.out.up b13)
    clear S12
    clear b13
    clear Z13
    clear P13
    rcases h2 : okF (cjgF x y) with _ | _
    · skip
      rcases h1 : okF (comF x y) with _ | _
      · skip
        go_wp2_with fail
        refine (drawRW len cap A w13 (SB.up (w' := w) (HB.out.below B13.out (Nat.le_refl _)) B13.out.size) hl).mono ?_
        rintro e w14 ⟨Aw, nw, cw, v, t, rfl, x14, t14, b14⟩
        have B14 : Hid (Below w.heap.size w w14) := Lib.hid (btr B13.out b14)
        have X14 := Lib.hid (X13.out.up b14)
        clear X13
        have Y14 := Lib.hid (Y13.out.up b14)
        clear Y13
        have U14 := Lib.hid (U13.out.up b14)
        clear U13
        have V14 := Lib.hid (V13.out.up b14)
        clear V13
        have Q14 := Lib.hid (Q13.out.up b14)
        clear Q13
        have S14 := Lib.hid (S13.out.up b14)
        clear S13
        have W14 := Lib.hid x14
        clear b14 x14
        have T := Lib.hid t14
        clear t14
        go_wp2_with fail
        refine (iRW t W14.out T.out).mono ?_
        rintro e w15 ⟨A15, n15, c15, rfl, s15, b15⟩
        have B15 : Hid (Below w.heap.size w w15) := Lib.hid (btr B14.out b15)
        have X15 := Lib.hid (X14.out.up b15)
        clear X14
        have Y15 := Lib.hid (Y14.out.up b15)
        clear Y14
        have U15 := Lib.hid (U14.out.up b15)
        clear U14
        have V15 := Lib.hid (V14.out.up b15)
        clear V14
        have Q15 := Lib.hid (Q14.out.up b15)
        clear Q14
        have S15 := Lib.hid (S14.out.up b15)
        clear S14
        have W15 := Lib.hid (W14.out.up b15)
        clear W14
        have R15 : Hid (WI w15 A15 n15 c15 (repF v t)) := Lib.hid s15
        clear b15 s15
        go_wp2_with fail
        refine (sRW t W15.out T.out).mono ?_
        rintro e w16 ⟨A16, n16, c16, rfl, s16, b16⟩
        have B16 : Hid (Below w.heap.size w w16) := Lib.hid (btr B15.out b16)
        have X16 := Lib.hid (X15.out.up b16)
        clear X15
        have Y16 := Lib.hid (Y15.out.up b16)
        clear Y15
        have U16 := Lib.hid (U15.out.up b16)
        clear U15
        have V16 := Lib.hid (V15.out.up b16)
        clear V15
        have Q16 := Lib.hid (Q15.out.up b16)
        clear Q15
        have S16 := Lib.hid (S15.out.up b16)
        clear S15
        have W16 := Lib.hid (W15.out.up b16)
        clear W15
        have R16 := Lib.hid (R15.out.up b16)
        clear R15
        have K16 : Hid (WI w16 A16 n16 c16 (repF v t)) := Lib.hid s16
        clear b16 s16
        go_wp2_with fail
        refine (iWL X16.out Y16.out).mono ?_
        rintro e w17 ⟨rfl, b17⟩
        have B17 : Hid (Below w.heap.size w w17) := Lib.hid (btr B16.out b17)
        have X17 := Lib.hid (X16.out.up b17)
        clear X16
        have Y17 := Lib.hid (Y16.out.up b17)
        clear Y16
        have U17 := Lib.hid (U16.out.up b17)
        clear U16
        have V17 := Lib.hid (V16.out.up b17)
        clear V16
        have Q17 := Lib.hid (Q16.out.up b17)
        clear Q16
        have S17 := Lib.hid (S16.out.up b17)
        clear S16
        have W17 := Lib.hid (W16.out.up b17)
        clear W16
        have R17 := Lib.hid (R16.out.up b17)
        clear R16
        have K17 := Lib.hid (K16.out.up b17)
        clear K16
        clear b17
        have e1 : (repB v t == repB v t) = true := by simp
        go_wp2_with fail
        refine (likeW R17.out K17.out).mono ?_
        rintro e w18 ⟨rfl, b18⟩
        have B18 : Hid (Below w.heap.size w w18) := Lib.hid (btr B17.out b18)
        have X18 := Lib.hid (X17.out.up b18)
        clear X17
        have Y18 := Lib.hid (Y17.out.up b18)
        clear Y17
        have U18 := Lib.hid (U17.out.up b18)
        clear U17
        have V18 := Lib.hid (V17.out.up b18)
        clear V17
        have Q18 := Lib.hid (Q17.out.up b18)
        clear Q17
        have S18 := Lib.hid (S17.out.up b18)
        clear S17
        have W18 := Lib.hid (W17.out.up b18)
        clear W17
        have R18 := Lib.hid (R17.out.up b18)
        clear R17
        have K18 := Lib.hid (K17.out.up b18)
        clear K17
        clear b18
        clear R18
        clear K18
        go_wp2_with fail
        refine (sWL X18.out Y18.out).mono ?_
        rintro e w19 ⟨rfl, b19⟩
        have B19 : Hid (Below w.heap.size w w19) := Lib.hid (btr B18.out b19)
        have X19 := Lib.hid (X18.out.up b19)
        clear X18
        have Y19 := Lib.hid (Y18.out.up b19)
        clear Y18
        have U19 := Lib.hid (U18.out.up b19)
        clear U18
        have V19 := Lib.hid (V18.out.up b19)
        clear V18
        have Q19 := Lib.hid (Q18.out.up b19)
        clear Q18
        have S19 := Lib.hid (S18.out.up b19)
        clear S18
        have W19 := Lib.hid (W18.out.up b19)
        clear W18
        clear b19
        have e2 : (wlB x y == wlB x y) = true := by simp
        rcases hq : wlB x y with _ | _
        · rw [hq] at e2
          go_wp2_with fail
          go_ret
          exact ⟨rfl, B19.out⟩
        · have As : Hid (wlB y x = false) := Lib.hid (wlB_asymm hq)
          rw [hq] at e2
          go_wp2_with fail
          refine (iWL Y19.out X19.out).mono ?_
          rintro e w20 ⟨rfl, b20⟩
          have B20 : Hid (Below w.heap.size w w20) := Lib.hid (btr B19.out b20)
          have X20 := Lib.hid (X19.out.up b20)
          clear X19
          have Y20 := Lib.hid (Y19.out.up b20)
          clear Y19
          have U20 := Lib.hid (U19.out.up b20)
          clear U19
          have V20 := Lib.hid (V19.out.up b20)
          clear V19
          have Q20 := Lib.hid (Q19.out.up b20)
          clear Q19
          have S20 := Lib.hid (S19.out.up b20)
          clear S19
          have W20 := Lib.hid (W19.out.up b20)
          clear W19
          clear b20
          rw [As.out]
          go_wp2_with fail
          go_ret
          exact ⟨rfl, B20.out⟩
      · have S13' : Hid (WI w13 _ _ _ (catF (comF x y))) := Lib.hid (by rw [← com_cat h1]; exact S13.out)
        clear S13
        go_wp2_with fail
        refine (likeW U13.out S13'.out).mono ?_
        rintro e w14 ⟨rfl, b14⟩
        have B14 : Hid (Below w.heap.size w w14) := Lib.hid (btr B13.out b14)
        have X14 := Lib.hid (X13.out.up b14)
        clear X13
        have Y14 := Lib.hid (Y13.out.up b14)
        clear Y13
        have U14 := Lib.hid (U13.out.up b14)
        clear U13
        have V14 := Lib.hid (V13.out.up b14)
        clear V13
        have Q14 := Lib.hid (Q13.out.up b14)
        clear Q13
        have S14 := Lib.hid (S13'.out.up b14)
        clear S13'
        clear b14
        go_wp2_with fail
        refine (drawRW len cap A w14 (SB.up (w' := w) (HB.out.below B14.out (Nat.le_refl _)) B14.out.size) hl).mono ?_
        rintro e w15 ⟨Aw, nw, cw, v, t, rfl, x15, t15, b15⟩
        have B15 : Hid (Below w.heap.size w w15) := Lib.hid (btr B14.out b15)
        have X15 := Lib.hid (X14.out.up b15)
        clear X14
        have Y15 := Lib.hid (Y14.out.up b15)
        clear Y14
        have U15 := Lib.hid (U14.out.up b15)
        clear U14
        have V15 := Lib.hid (V14.out.up b15)
        clear V14
        have Q15 := Lib.hid (Q14.out.up b15)
        clear Q14
        have S15 := Lib.hid (S14.out.up b15)
        clear S14
        have W15 := Lib.hid x15
        clear b15 x15
        have T := Lib.hid t15
        clear t15
        go_wp2_with fail
        refine (iRW t W15.out T.out).mono ?_
        rintro e w16 ⟨A16, n16, c16, rfl, s16, b16⟩
        have B16 : Hid (Below w.heap.size w w16) := Lib.hid (btr B15.out b16)
        have X16 := Lib.hid (X15.out.up b16)
        clear X15
        have Y16 := Lib.hid (Y15.out.up b16)
        clear Y15
        have U16 := Lib.hid (U15.out.up b16)
        clear U15
        have V16 := Lib.hid (V15.out.up b16)
        clear V15
        have Q16 := Lib.hid (Q15.out.up b16)
        clear Q15
        have S16 := Lib.hid (S15.out.up b16)
        clear S15
        have W16 := Lib.hid (W15.out.up b16)
        clear W15
        have R16 : Hid (WI w16 A16 n16 c16 (repF v t)) := Lib.hid s16
        clear b16 s16
        go_wp2_with fail
        refine (sRW t W16.out T.out).mono ?_
        rintro e w17 ⟨A17, n17, c17, rfl, s17, b17⟩
        have B17 : Hid (Below w.heap.size w w17) := Lib.hid (btr B16.out b17)
        have X17 := Lib.hid (X16.out.up b17)
        clear X16
        have Y17 := Lib.hid (Y16.out.up b17)
        clear Y16
        have U17 := Lib.hid (U16.out.up b17)
        clear U16
        have V17 := Lib.hid (V16.out.up b17)
        clear V16
        have Q17 := Lib.hid (Q16.out.up b17)
        clear Q16
        have S17 := Lib.hid (S16.out.up b17)
        clear S16
        have W17 := Lib.hid (W16.out.up b17)
        clear W16
        have R17 := Lib.hid (R16.out.up b17)
        clear R16
        have K17 : Hid (WI w17 A17 n17 c17 (repF v t)) := Lib.hid s17
        clear b17 s17
        go_wp2_with fail
        refine (iWL X17.out Y17.out).mono ?_
        rintro e w18 ⟨rfl, b18⟩
        have B18 : Hid (Below w.heap.size w w18) := Lib.hid (btr B17.out b18)
        have X18 := Lib.hid (X17.out.up b18)
        clear X17
        have Y18 := Lib.hid (Y17.out.up b18)
        clear Y17
        have U18 := Lib.hid (U17.out.up b18)
        clear U17
        have V18 := Lib.hid (V17.out.up b18)
        clear V17
        have Q18 := Lib.hid (Q17.out.up b18)
        clear Q17
        have S18 := Lib.hid (S17.out.up b18)
        clear S17
        have W18 := Lib.hid (W17.out.up b18)
        clear W17
        have R18 := Lib.hid (R17.out.up b18)
        clear R17
        have K18 := Lib.hid (K17.out.up b18)
        clear K17
        clear b18
        have e1 : (repB v t == repB v t) = true := by simp
        go_wp2_with fail
        refine (likeW R18.out K18.out).mono ?_
        rintro e w19 ⟨rfl, b19⟩
        have B19 : Hid (Below w.heap.size w w19) := Lib.hid (btr B18.out b19)
        have X19 := Lib.hid (X18.out.up b19)
        clear X18
        have Y19 := Lib.hid (Y18.out.up b19)
        clear Y18
        have U19 := Lib.hid (U18.out.up b19)
        clear U18
        have V19 := Lib.hid (V18.out.up b19)
        clear V18
        have Q19 := Lib.hid (Q18.out.up b19)
        clear Q18
        have S19 := Lib.hid (S18.out.up b19)
        clear S18
        have W19 := Lib.hid (W18.out.up b19)
        clear W18
        have R19 := Lib.hid (R18.out.up b19)
        clear R18
        have K19 := Lib.hid (K18.out.up b19)
        clear K18
        clear b19
        clear R19
        clear K19
        go_wp2_with fail
        refine (sWL X19.out Y19.out).mono ?_
        rintro e w20 ⟨rfl, b20⟩
        have B20 : Hid (Below w.heap.size w w20) := Lib.hid (btr B19.out b20)
        have X20 := Lib.hid (X19.out.up b20)
        clear X19
        have Y20 := Lib.hid (Y19.out.up b20)
        clear Y19
        have U20 := Lib.hid (U19.out.up b20)
        clear U19
        have V20 := Lib.hid (V19.out.up b20)
        clear V19
        have Q20 := Lib.hid (Q19.out.up b20)
        clear Q19
        have S20 := Lib.hid (S19.out.up b20)
        clear S19
        have W20 := Lib.hid (W19.out.up b20)
        clear W19
        clear b20
        have e2 : (wlB x y == wlB x y) = true := by simp
        rcases hq : wlB x y with _ | _
        · rw [hq] at e2
          go_wp2_with fail
          go_ret
          exact ⟨rfl, B20.out⟩
        · have As : Hid (wlB y x = false) := Lib.hid (wlB_asymm hq)
          rw [hq] at e2
          go_wp2_with fail
          refine (iWL Y20.out X20.out).mono ?_
          rintro e w21 ⟨rfl, b21⟩
          have B21 : Hid (Below w.heap.size w w21) := Lib.hid (btr B20.out b21)
          have X21 := Lib.hid (X20.out.up b21)
          clear X20
          have Y21 := Lib.hid (Y20.out.up b21)
          clear Y20
          have U21 := Lib.hid (U20.out.up b21)
          clear U20
          have V21 := Lib.hid (V20.out.up b21)
          clear V20
          have Q21 := Lib.hid (Q20.out.up b21)
          clear Q20
          have S21 := Lib.hid (S20.out.up b21)
          clear S20
          have W21 := Lib.hid (W20.out.up b21)
          clear W20
          clear b21
          rw [As.out]
          go_wp2_with fail
          go_ret
          exact ⟨rfl, B21.out⟩
    · have Q13' : Hid (WI w13 _ _ _ (catF (cjgF x y))) := Lib.hid (by rw [← cjg_cat h2]; exact Q13.out)
      clear Q13
      go_wp2_with fail
      refine (likeW V13.out Q13'.out).mono ?_
      rintro e w14 ⟨rfl, b14⟩
      have B14 : Hid (Below w.heap.size w w14) := Lib.hid (btr B13.out b14)
      have X14 := Lib.hid (X13.out.up b14)
      clear X13
      have Y14 := Lib.hid (Y13.out.up b14)
      clear Y13
      have U14 := Lib.hid (U13.out.up b14)
      clear U13
      have V14 := Lib.hid (V13.out.up b14)
      clear V13
      have Q14 := Lib.hid (Q13'.out.up b14)
      clear Q13'
      have S14 := Lib.hid (S13.out.up b14)
      clear S13
      clear b14
      rcases h1 : okF (comF x y) with _ | _
      · skip
        go_wp2_with fail
        refine (drawRW len cap A w14 (SB.up (w' := w) (HB.out.below B14.out (Nat.le_refl _)) B14.out.size) hl).mono ?_
        rintro e w15 ⟨Aw, nw, cw, v, t, rfl, x15, t15, b15⟩
        have B15 : Hid (Below w.heap.size w w15) := Lib.hid (btr B14.out b15)
        have X15 := Lib.hid (X14.out.up b15)
        clear X14
        have Y15 := Lib.hid (Y14.out.up b15)
        clear Y14
        have U15 := Lib.hid (U14.out.up b15)
        clear U14
        have V15 := Lib.hid (V14.out.up b15)
        clear V14
        have Q15 := Lib.hid (Q14.out.up b15)
        clear Q14
        have S15 := Lib.hid (S14.out.up b15)
        clear S14
        have W15 := Lib.hid x15
        clear b15 x15
        have T := Lib.hid t15
        clear t15
        go_wp2_with fail
        refine (iRW t W15.out T.out).mono ?_
        rintro e w16 ⟨A16, n16, c16, rfl, s16, b16⟩
        have B16 : Hid (Below w.heap.size w w16) := Lib.hid (btr B15.out b16)
        have X16 := Lib.hid (X15.out.up b16)
        clear X15
        have Y16 := Lib.hid (Y15.out.up b16)
        clear Y15
        have U16 := Lib.hid (U15.out.up b16)
        clear U15
        have V16 := Lib.hid (V15.out.up b16)
        clear V15
        have Q16 := Lib.hid (Q15.out.up b16)
        clear Q15
        have S16 := Lib.hid (S15.out.up b16)
        clear S15
        have W16 := Lib.hid (W15.out.up b16)
        clear W15
        have R16 : Hid (WI w16 A16 n16 c16 (repF v t)) := Lib.hid s16
        clear b16 s16
        go_wp2_with fail
        refine (sRW t W16.out T.out).mono ?_
        rintro e w17 ⟨A17, n17, c17, rfl, s17, b17⟩
        have B17 : Hid (Below w.heap.size w w17) := Lib.hid (btr B16.out b17)
        have X17 := Lib.hid (X16.out.up b17)
        clear X16
        have Y17 := Lib.hid (Y16.out.up b17)
        clear Y16
        have U17 := Lib.hid (U16.out.up b17)
        clear U16
        have V17 := Lib.hid (V16.out.up b17)
        clear V16
        have Q17 := Lib.hid (Q16.out.up b17)
        clear Q16
        have S17 := Lib.hid (S16.out.up b17)
        clear S16
        have W17 := Lib.hid (W16.out.up b17)
        clear W16
        have R17 := Lib.hid (R16.out.up b17)
        clear R16
        have K17 : Hid (WI w17 A17 n17 c17 (repF v t)) := Lib.hid s17
        clear b17 s17
        go_wp2_with fail
        refine (iWL X17.out Y17.out).mono ?_
        rintro e w18 ⟨rfl, b18⟩
        have B18 : Hid (Below w.heap.size w w18) := Lib.hid (btr B17.out b18)
        have X18 := Lib.hid (X17.out.up b18)
        clear X17
        have Y18 := Lib.hid (Y17.out.up b18)
        clear Y17
        have U18 := Lib.hid (U17.out.up b18)
        clear U17
        have V18 := Lib.hid (V17.out.up b18)
        clear V17
        have Q18 := Lib.hid (Q17.out.up b18)
        clear Q17
        have S18 := Lib.hid (S17.out.up b18)
        clear S17
        have W18 := Lib.hid (W17.out.up b18)
        clear W17
        have R18 := Lib.hid (R17.out.up b18)
        clear R17
        have K18 := Lib.hid (K17.out.up b18)
        clear K17
        clear b18
        have e1 : (repB v t == repB v t) = true := by simp
        go_wp2_with fail
        refine (likeW R18.out K18.out).mono ?_
        rintro e w19 ⟨rfl, b19⟩
        have B19 : Hid (Below w.heap.size w w19) := Lib.hid (btr B18.out b19)
        have X19 := Lib.hid (X18.out.up b19)
        clear X18
        have Y19 := Lib.hid (Y18.out.up b19)
        clear Y18
        have U19 := Lib.hid (U18.out.up b19)
        clear U18
        have V19 := Lib.hid (V18.out.up b19)
        clear V18
        have Q19 := Lib.hid (Q18.out.up b19)
        clear Q18
        have S19 := Lib.hid (S18.out.up b19)
        clear S18
        have W19 := Lib.hid (W18.out.up b19)
        clear W18
        have R19 := Lib.hid (R18.out.up b19)
        clear R18
        have K19 := Lib.hid (K18.out.up b19)
        clear K18
        clear b19
        clear R19
        clear K19
        go_wp2_with fail
        refine (sWL X19.out Y19.out).mono ?_
        rintro e w20 ⟨rfl, b20⟩
        have B20 : Hid (Below w.heap.size w w20) := Lib.hid (btr B19.out b20)
        have X20 := Lib.hid (X19.out.up b20)
        clear X19
        have Y20 := Lib.hid (Y19.out.up b20)
        clear Y19
        have U20 := Lib.hid (U19.out.up b20)
        clear U19
        have V20 := Lib.hid (V19.out.up b20)
        clear V19
        have Q20 := Lib.hid (Q19.out.up b20)
        clear Q19
        have S20 := Lib.hid (S19.out.up b20)
        clear S19
        have W20 := Lib.hid (W19.out.up b20)
        clear W19
        clear b20
        have e2 : (wlB x y == wlB x y) = true := by simp
        rcases hq : wlB x y with _ | _
        · rw [hq] at e2
          go_wp2_with fail
          go_ret
          exact ⟨rfl, B20.out⟩
        · have As : Hid (wlB y x = false) := Lib.hid (wlB_asymm hq)
          rw [hq] at e2
          go_wp2_with fail
          refine (iWL Y20.out X20.out).mono ?_
          rintro e w21 ⟨rfl, b21⟩
          have B21 : Hid (Below w.heap.size w w21) := Lib.hid (btr B20.out b21)
          have X21 := Lib.hid (X20.out.up b21)
          clear X20
          have Y21 := Lib.hid (Y20.out.up b21)
          clear Y20
          have U21 := Lib.hid (U20.out.up b21)
          clear U20
          have V21 := Lib.hid (V20.out.up b21)
          clear V20
          have Q21 := Lib.hid (Q20.out.up b21)
          clear Q20
          have S21 := Lib.hid (S20.out.up b21)
          clear S20
          have W21 := Lib.hid (W20.out.up b21)
          clear W20
          clear b21
          rw [As.out]
          go_wp2_with fail
          go_ret
          exact ⟨rfl, B21.out⟩
      · have S14' : Hid (WI w14 _ _ _ (catF (comF x y))) := Lib.hid (by rw [← com_cat h1]; exact S14.out)
        clear S14
        go_wp2_with fail
        refine (likeW U14.out S14'.out).mono ?_
        rintro e w15 ⟨rfl, b15⟩
        have B15 : Hid (Below w.heap.size w w15) := Lib.hid (btr B14.out b15)
        have X15 := Lib.hid (X14.out.up b15)
        clear X14
        have Y15 := Lib.hid (Y14.out.up b15)
        clear Y14
        have U15 := Lib.hid (U14.out.up b15)
        clear U14
        have V15 := Lib.hid (V14.out.up b15)
        clear V14
        have Q15 := Lib.hid (Q14.out.up b15)
        clear Q14
        have S15 := Lib.hid (S14'.out.up b15)
        clear S14'
        clear b15
        go_wp2_with fail
        refine (drawRW len cap A w15 (SB.up (w' := w) (HB.out.below B15.out (Nat.le_refl _)) B15.out.size) hl).mono ?_
        rintro e w16 ⟨Aw, nw, cw, v, t, rfl, x16, t16, b16⟩
        have B16 : Hid (Below w.heap.size w w16) := Lib.hid (btr B15.out b16)
        have X16 := Lib.hid (X15.out.up b16)
        clear X15
        have Y16 := Lib.hid (Y15.out.up b16)
        clear Y15
        have U16 := Lib.hid (U15.out.up b16)
        clear U15
        have V16 := Lib.hid (V15.out.up b16)
        clear V15
        have Q16 := Lib.hid (Q15.out.up b16)
        clear Q15
        have S16 := Lib.hid (S15.out.up b16)
        clear S15
        have W16 := Lib.hid x16
        clear b16 x16
        have T := Lib.hid t16
        clear t16
        go_wp2_with fail
        refine (iRW t W16.out T.out).mono ?_
        rintro e w17 ⟨A17, n17, c17, rfl, s17, b17⟩
        have B17 : Hid (Below w.heap.size w w17) := Lib.hid (btr B16.out b17)
        have X17 := Lib.hid (X16.out.up b17)
        clear X16
        have Y17 := Lib.hid (Y16.out.up b17)
        clear Y16
        have U17 := Lib.hid (U16.out.up b17)
        clear U16
        have V17 := Lib.hid (V16.out.up b17)
        clear V16
        have Q17 := Lib.hid (Q16.out.up b17)
        clear Q16
        have S17 := Lib.hid (S16.out.up b17)
        clear S16
        have W17 := Lib.hid (W16.out.up b17)
        clear W16
        have R17 : Hid (WI w17 A17 n17 c17 (repF v t)) := Lib.hid s17
        clear b17 s17
        go_wp2_with fail
        refine (sRW t W17.out T.out).mono ?_
        rintro e w18 ⟨A18, n18, c18, rfl, s18, b18⟩
        have B18 : Hid (Below w.heap.size w w18) := Lib.hid (btr B17.out b18)
        have X18 := Lib.hid (X17.out.up b18)
        clear X17
        have Y18 := Lib.hid (Y17.out.up b18)
        clear Y17
        have U18 := Lib.hid (U17.out.up b18)
        clear U17
        have V18 := Lib.hid (V17.out.up b18)
        clear V17
        have Q18 := Lib.hid (Q17.out.up b18)
        clear Q17
        have S18 := Lib.hid (S17.out.up b18)
        clear S17
        have W18 := Lib.hid (W17.out.up b18)
        clear W17
        have R18 := Lib.hid (R17.out.up b18)
        clear R17
        have K18 : Hid (WI w18 A18 n18 c18 (repF v t)) := Lib.hid s18
        clear b18 s18
        go_wp2_with fail
        refine (iWL X18.out Y18.out).mono ?_
        rintro e w19 ⟨rfl, b19⟩
        have B19 : Hid (Below w.heap.size w w19) := Lib.hid (btr B18.out b19)
        have X19 := Lib.hid (X18.out.up b19)
        clear X18
        have Y19 := Lib.hid (Y18.out.up b19)
        clear Y18
        have U19 := Lib.hid (U18.out.up b19)
        clear U18
        have V19 := Lib.hid (V18.out.up b19)
        clear V18
        have Q19 := Lib.hid (Q18.out.up b19)
        clear Q18
        have S19 := Lib.hid (S18.out.up b19)
        clear S18
        have W19 := Lib.hid (W18.out.up b19)
        clear W18
        have R19 := Lib.hid (R18.out.up b19)
        clear R18
        have K19 := Lib.hid (K18.out.up b19)
        clear K18
        clear b19
        have e1 : (repB v t == repB v t) = true := by simp
        go_wp2_with fail
        refine (likeW R19.out K19.out).mono ?_
        rintro e w20 ⟨rfl, b20⟩
        have B20 : Hid (Below w.heap.size w w20) := Lib.hid (btr B19.out b20)
        have X20 := Lib.hid (X19.out.up b20)
        clear X19
        have Y20 := Lib.hid (Y19.out.up b20)
        clear Y19
        have U20 := Lib.hid (U19.out.up b20)
        clear U19
        have V20 := Lib.hid (V19.out.up b20)
        clear V19
        have Q20 := Lib.hid (Q19.out.up b20)
        clear Q19
        have S20 := Lib.hid (S19.out.up b20)
        clear S19
        have W20 := Lib.hid (W19.out.up b20)
        clear W19
        have R20 := Lib.hid (R19.out.up b20)
        clear R19
        have K20 := Lib.hid (K19.out.up b20)
        clear K19
        clear b20
        clear R20
        clear K20
        go_wp2_with fail
        refine (sWL X20.out Y20.out).mono ?_
        rintro e w21 ⟨rfl, b21⟩
        have B21 : Hid (Below w.heap.size w w21) := Lib.hid (btr B20.out b21)
        have X21 := Lib.hid (X20.out.up b21)
        clear X20
        have Y21 := Lib.hid (Y20.out.up b21)
        clear Y20
        have U21 := Lib.hid (U20.out.up b21)
        clear U20
        have V21 := Lib.hid (V20.out.up b21)
        clear V20
        have Q21 := Lib.hid (Q20.out.up b21)
        clear Q20
        have S21 := Lib.hid (S20.out.up b21)
        clear S20
        have W21 := Lib.hid (W20.out.up b21)
        clear W20
        clear b21
        have e2 : (wlB x y == wlB x y) = true := by simp
        rcases hq : wlB x y with _ | _
        · rw [hq] at e2
          go_wp2_with fail
          go_ret
          exact ⟨rfl, B21.out⟩
        · have As : Hid (wlB y x = false) := Lib.hid (wlB_asymm hq)
          rw [hq] at e2
          go_wp2_with fail
          refine (iWL Y21.out X21.out).mono ?_
          rintro e w22 ⟨rfl, b22⟩
          have B22 : Hid (Below w.heap.size w w22) := Lib.hid (btr B21.out b22)
          have X22 := Lib.hid (X21.out.up b22)
          clear X21
          have Y22 := Lib.hid (Y21.out.up b22)
          clear Y21
          have U22 := Lib.hid (U21.out.up b22)
          clear U21
          have V22 := Lib.hid (V21.out.up b22)
          clear V21
          have Q22 := Lib.hid (Q21.out.up b22)
          clear Q21
          have S22 := Lib.hid (S21.out.up b22)
          clear S21
          have W22 := Lib.hid (W21.out.up b22)
          clear W21
          clear b22
          rw [As.out]
          go_wp2_with fail
          go_ret
          exact ⟨rfl, B22.out⟩
  · go_enter Try.func5, Try.ntmps5
    go_wp2_with fail
    refine (bigT8 A len cap w (by omega)).mono ?_
    rintro e w0 ⟨rfl, rfl⟩
    go_wp2
    go_ret
    exact ⟨rfl, Below.refl _ _⟩
end Go.Proofs.Ytoaaoikmkomofaa

/- The walk of the law FnWordEvaluation: it returns true at every input, and writes nothing that was there. No condition. -/
namespace Go.Proofs.Ytoaaoikmkomofaa
open Go.RowKit

theorem VI.perm {N : Nat} {p : List Int} (h : Pn N p) (h2 : N ≤ 20) : VI p := fun y hy => by
  obtain ⟨i, hi, rfl⟩ := List.mem_iff_getElem.1 hy
  have := nx_val h.1 hi
  have h3 := h.lt (x := i) (by rw [← h.2]; exact hi)
  rw [List.getD_eq_getElem?_getD, List.getElem?_eq_getElem hi] at this
  have e : p[i] = (nx p i : Int) := this
  omega
theorem evB_iff {z : Int} {gs : List (List Int)} {x : List Int} : evB z gs x = true ↔ gB z gs = true ∧ vW (gs.length : Int) x = true := by unfold evB; rw [Bool.and_eq_true]
theorem VI.evF (z : Int) (gs : List (List Int)) (x : List Int) : VI (evF z gs x) := by
  unfold Go.Proofs.Ytoaaoikmkomofaa.evF
  split
  · rename_i h
    obtain ⟨h1, h2⟩ := evB_iff.1 h
    obtain ⟨N, rfl, a, b, _, _, ok⟩ := gB_pm h1
    exact VI.perm (by rw [Int.toNat_natCast]; exact evW_pn (N := N) ok a b (vW_ltg h2)) b
  · exact VI.nil_
/-- What the evaluations tell of each other. -/
structure EvOK (z : Int) (gs : List (List Int)) (x : List Int) (K : Nat) : Prop where
  b1 : evB z gs (x.take K) = true
  b2 : evB z gs (x.drop K) = true
  b3 : evB z gs (invF x) = true
  b4 : evB z gs (redF x) = true
  sd : sameD (evF z gs (x.take K)) (evF z gs (x.drop K)) = true
  comp : composeL (evF z gs (x.take K)) (evF z gs (x.drop K)) = evF z gs x
  inv : evF z gs (invF x) = inverseL (evF z gs x)
  red : evF z gs (redF x) = evF z gs x
theorem ev_facts {z : Int} {gs : List (List Int)} {x : List Int} (h : evB z gs x = true) (K : Nat) : EvOK z gs x K := by
  obtain ⟨h1, h2⟩ := evB_iff.1 h
  obtain ⟨N, rfl, a, b, h8, _, ok⟩ := gB_pm h1
  have hok : ∀ g ∈ gs, Pn N g := ok
  have hx := vW_ltg h2
  have v8 : vW 8 x = true := vW_mono h2 (by omega)
  have v1 : vW (gs.length : Int) (x.take K) = true := by
    rw [vW_iff] at h2 ⊢
    exact ⟨by rw [List.length_take]; omega, fun l hl => h2.2 l (List.mem_of_mem_take hl)⟩
  have v2 : vW (gs.length : Int) (x.drop K) = true := by
    rw [vW_iff] at h2 ⊢
    exact ⟨by rw [List.length_drop]; omega, fun l hl => h2.2 l (List.mem_of_mem_drop hl)⟩
  have e1 : invF x = ivW x := by unfold invF; rw [if_pos v8]
  have e2 : redF x = redW x := by unfold redF; rw [if_pos v8]
  have ev : ∀ {y}, vW (gs.length : Int) y = true → evB N gs y = true ∧ evF N gs y = evW N gs y := fun {y} hy => by
    have hb : evB N gs y = true := evB_iff.2 ⟨h1, hy⟩
    exact ⟨hb, by unfold evF; rw [if_pos hb, Int.toNat_natCast]⟩
  have p1 := evW_pn hok a b (vW_ltg v1)
  have p2 := evW_pn hok a b (vW_ltg v2)
  have px := evW_pn hok a b hx
  have hs : sameD (evW N gs (x.take K)) (evW N gs (x.drop K)) = true := sameD_iff.2 ⟨p1.2.trans p2.2.symm, p1.1, p2.1⟩
  refine ⟨(ev v1).1, (ev v2).1, by rw [e1]; exact (ev (vW_iv h2)).1, by rw [e2]; exact (ev (vW_red h2)).1, ?_, ?_, ?_, ?_⟩
  · rw [(ev v1).2, (ev v2).2]; exact hs
  · rw [(ev v1).2, (ev v2).2, (ev h2).2]
    unfold composeL
    rw [if_pos hs, ← evW_app hok a b (vW_ltg v1) (vW_ltg v2), List.take_append_drop]
  · rw [e1, (ev (vW_iv h2)).2, (ev h2).2, evW_inv hok a b hx]
    unfold inverseL
    rw [if_pos (isP_iff.2 px.1)]; rfl
  · rw [e2, (ev (vW_red h2)).2, (ev h2).2, evW_red hok a b hx]
theorem dropR0 {w : World} {B q : Nat} {xs : List Int} (h : RI w B (some ⟨q, 0, none⟩) xs) (r : Nat) : RI w B (some ⟨q, r, none⟩) (xs.drop r) := fun hp => by
  rw [List.length_drop] at hp
  obtain ⟨b, o, e, hb, hc⟩ := h (by omega)
  injection e with e; injection e with e1 e2
  subst e1 e2
  refine ⟨q, r, rfl, hb, fun j hj => ?_⟩
  rw [List.length_drop] at hj
  have := hc (r + j) (by omega)
  rw [Nat.zero_add] at this
  rw [this, List.getD_eq_getElem?_getD, List.getD_eq_getElem?_getD, List.getElem?_drop]
section
variable {w : World} {A B G : Option Addr} {n c m d cg : Nat} {a b : List Int} {vs : List SV} {gs : List (List Int)}
theorem iEV (z : Int) (g : GIn w G m vs gs) (h : WI w A n c a) (hz : I64 z) : Calls Try.prog 18 #[.int .i64 z, .slice G m cg, .slice A n c] w fun e w' => ∃ A' n' c', e = .returned (.tuple #[.slice A' n' c', .bool (evB z gs a)]) ∧ WI w' A' n' c' (evF z gs a) ∧ Below w.heap.size w w' :=
  (implEvaluateWord z G m cg vs gs A n c a w g ⟨h.ri, h.lx, by have := h.hn; omega, h.hc⟩ hz (Lib.hid h.vi)).mono fun _ _ ⟨A', n', c', zs, ok, e, s, r, bl⟩ => by
    obtain ⟨rfl, rfl⟩ := r
    exact ⟨A', n', c', e, WI.of_slc s (VI.evF _ _ _) (by have := s.1; have := evF_len (a := z) (gs := gs) (wd := a); omega), bl⟩
theorem sEV (z : Int) (g : GIn w G m vs gs) (h : WI w A n c a) (hz : I64 z) : Calls Try.prog 19 #[.int .i64 z, .slice G m cg, .slice A n c] w fun e w' => ∃ A' n' c', e = .returned (.tuple #[.slice A' n' c', .bool (evB z gs a)]) ∧ WI w' A' n' c' (evF z gs a) ∧ Below w.heap.size w w' :=
  (ctEvw z G m cg vs gs A n c a w g ⟨h.ri, h.lx, by have := h.hn; omega, h.hc⟩ hz).mono fun _ _ ⟨A', n', c', zs, ok, e, s, r, bl⟩ => by
    obtain ⟨rfl, rfl⟩ := r
    exact ⟨A', n', c', e, WI.of_slc s (VI.evF _ _ _) (by have := s.1; have := evF_len (a := z) (gs := gs) (wd := a); omega), bl⟩
theorem VI.of_isP {p : List Int} (h : IsP p) : VI p := VI.perm (N := p.length) ⟨h, rfl⟩ (Pn.pos (N := p.length) ⟨h, rfl⟩).2
theorem VI.composeL (p q : List Int) : VI (composeL p q) := by
  unfold Go.Proofs.Ytoaaoikmkomofaa.composeL
  split
  · rename_i h
    obtain ⟨h1, h2, h3⟩ := sameD_iff.1 h
    exact VI.of_isP (isP_comp h2 h3 h1)
  · exact VI.nil_
theorem VI.inverseL (p : List Int) : VI (inverseL p) := by
  unfold Go.Proofs.Ytoaaoikmkomofaa.inverseL
  split
  · rename_i h; exact VI.of_isP (isP_inv (isP_iff.1 h))
  · exact VI.nil_
theorem iCO (h : WI w A n c a) (k : WI w B m d b) : Calls Try.prog 21 #[.slice A n c, .slice B m d] w fun e w' => ∃ A' n' c', e = .returned (.tuple #[.slice A' n' c', .bool (sameD a b)]) ∧ WI w' A' n' c' (composeL a b) ∧ Below w.heap.size w w' :=
  (implCompose A B c d n m a b w h.ri k.ri (Lib.hid h.lx) (Lib.hid k.lx) (by have := h.hn; omega) (by have := k.hn; omega)).mono fun _ _ ⟨A', n', c', e, s, hn, bl⟩ => ⟨A', n', c', e, WI.of_slc s (VI.composeL _ _) (by omega), bl⟩
theorem iIN (h : WI w A n c a) : Calls Try.prog 24 #[.slice A n c] w fun e w' => ∃ A' n' c', e = .returned (.slice A' n' c') ∧ WI w' A' n' c' (inverseL a) ∧ Below w.heap.size w w' :=
  (implInverse A c n a w h.ri (Lib.hid h.lx) (by have := h.hn; omega)).mono fun _ _ ⟨A', n', c', e, s, hn, bl⟩ => ⟨A', n', c', e, WI.of_slc s (VI.inverseL _) (by omega), bl⟩
end

set_option maxHeartbeats 8000000 in
set_option maxRecDepth 100000 in
theorem lawWordEvaluation (A : Option Addr) (cap len : Nat) (w : World) (hb : SB w w.heap.size A len) :
    Calls Try.prog 3 #[.slice A len cap] w fun e w' => e = .returned (.bool true) ∧ Below w.heap.size w w' := by
  by_cases hl : len ≤ 4096
  · go_enter Try.func3, Try.ntmps3
    go_wp2_with fail
    refine (bigF8 A len cap w hl).mono ?_
    rintro e w0 ⟨rfl, rfl⟩
    go_wp2_with fail
    refine (drawEW len cap A w hb hl).mono ?_
    rintro e w1 ⟨z, G, m, cg, vs, gs, Ax, n, c, x, rfl, z1, g1, x1, a1, b1⟩
    have B1 : Hid (Below w.heap.size w w1) := Lib.hid b1
    have G1 := Lib.hid g1
    have X1 := Lib.hid x1
    clear b1 g1 x1
    clear hb
    have Z := Lib.hid z1
    have Ad := Lib.hid a1
    clear z1 a1
    go_wp2_with fail
    refine (iEV z G1.out X1.out Z.out).mono ?_
    rintro e w2 ⟨A2, n2, c2, rfl, s2, b2⟩
    have B2 : Hid (Below w.heap.size w w2) := Lib.hid (btr B1.out b2)
    have G2 := Lib.hid (G1.out.up b2)
    clear G1
    have X2 := Lib.hid (X1.out.up b2)
    clear X1
    have P2 : Hid (WI w2 A2 n2 c2 (evF z gs x)) := Lib.hid s2
    clear b2 s2
    go_wp2_with fail
    refine (sEV z G2.out X2.out Z.out).mono ?_
    rintro e w3 ⟨A3, n3, c3, rfl, s3, b3⟩
    have B3 : Hid (Below w.heap.size w w3) := Lib.hid (btr B2.out b3)
    have G3 := Lib.hid (G2.out.up b3)
    clear G2
    have X3 := Lib.hid (X2.out.up b3)
    clear X2
    have P3 := Lib.hid (P2.out.up b3)
    clear P2
    have Q3 : Hid (WI w3 A3 n3 c3 (evF z gs x)) := Lib.hid s3
    clear b3 s3
    have ne : (evB z gs x != evB z gs x) = false := by simp
    go_wp2_with fail
    refine (likeW P3.out Q3.out).mono ?_
    rintro e w4 ⟨rfl, b4⟩
    have B4 : Hid (Below w.heap.size w w4) := Lib.hid (btr B3.out b4)
    have G4 := Lib.hid (G3.out.up b4)
    clear G3
    have X4 := Lib.hid (X3.out.up b4)
    clear X3
    have P4 := Lib.hid (P3.out.up b4)
    clear P3
    have Q4 := Lib.hid (Q3.out.up b4)
    clear Q3
    clear b4
    clear Q4
    rcases he : evB z gs x with _ | _
    · have E0 : Hid (evF z gs x = []) := Lib.hid (by unfold evF; rw [he]; rfl)
      rw [he] at ne
      obtain rfl : n2 = 0 := by have := P4.out.lx; rw [E0.out] at this; exact this.symm
      go_wp2_with fail
      go_ret
      exact ⟨rfl, B4.out⟩
    · rw [he] at ne
      have F := Lib.hid (ev_facts he (n / 2))
      have hn := X4.out.hn
      have hc := X4.out.hc
      have lx := Lib.hid X4.out.lx
      clear he
      obtain ⟨K, hK⟩ : ∃ K, n / 2 = K := ⟨_, rfl⟩
      have q2 : (n : Int) / 2 = (K : Int) := by omega
      have q3 : (n : Int).tdiv 2 = (K : Int) := by rw [Int.tdiv_eq_ediv_of_nonneg (by omega)]; exact q2
      have hKn : K ≤ n := by omega
      have wq : IntKind.i64.wrap (K : Int) = (K : Int) := by rw [IntKind.wrap_i64]; omega
      rw [hK] at F
      rcases Ad.out with ⟨rfl, rfl, rfl⟩ | ⟨q, rfl⟩
      · skip
        obtain rfl : K = 0 := by omega
        have T1 : Hid (WI w4 none 0 0 (x.take 0)) := Lib.hid ⟨(by rw [List.take_zero]; exact RI.nil_), by rw [List.length_take, lx.out]; omega, by omega, by omega, fun y hy => X4.out.vi y (List.mem_of_mem_take hy)⟩
        have T2 : Hid (WI w4 none (0 - 0) 0 (x.drop 0)) := Lib.hid ⟨(by rw [List.eq_nil_of_length_eq_zero lx.out]; exact RI.nil_), by rw [List.length_drop, lx.out], by omega, by omega, fun y hy => X4.out.vi y (List.mem_of_mem_drop hy)⟩
        go_wp2_with fail
        refine (iEV z G4.out T1.out Z.out).mono ?_
        rintro e w5 ⟨A5, n5, c5, rfl, s5, b5⟩
        have B5 : Hid (Below w.heap.size w w5) := Lib.hid (btr B4.out b5)
        have G5 := Lib.hid (G4.out.up b5)
        clear G4
        have X5 := Lib.hid (X4.out.up b5)
        clear X4
        have P5 := Lib.hid (P4.out.up b5)
        clear P4
        have T5 := Lib.hid (T1.out.up b5)
        clear T1
        have D5 := Lib.hid (T2.out.up b5)
        clear T2
        have L5 : Hid (WI w5 A5 n5 c5 (evF z gs (x.take 0))) := Lib.hid s5
        clear b5 s5
        rw [F.out.b1]
        clear T5
        go_wp2_with fail
        refine (iEV z G5.out D5.out Z.out).mono ?_
        rintro e w6 ⟨A6, n6, c6, rfl, s6, b6⟩
        have B6 : Hid (Below w.heap.size w w6) := Lib.hid (btr B5.out b6)
        have G6 := Lib.hid (G5.out.up b6)
        clear G5
        have X6 := Lib.hid (X5.out.up b6)
        clear X5
        have P6 := Lib.hid (P5.out.up b6)
        clear P5
        have D6 := Lib.hid (D5.out.up b6)
        clear D5
        have L6 := Lib.hid (L5.out.up b6)
        clear L5
        have M6 : Hid (WI w6 A6 n6 c6 (evF z gs (x.drop 0))) := Lib.hid s6
        clear b6 s6
        rw [F.out.b2]
        clear D6
        go_wp2_with fail
        refine (iCO L6.out M6.out).mono ?_
        rintro e w7 ⟨A7, n7, c7, rfl, s7, b7⟩
        have B7 : Hid (Below w.heap.size w w7) := Lib.hid (btr B6.out b7)
        have G7 := Lib.hid (G6.out.up b7)
        clear G6
        have X7 := Lib.hid (X6.out.up b7)
        clear X6
        have P7 := Lib.hid (P6.out.up b7)
        clear P6
        have L7 := Lib.hid (L6.out.up b7)
        clear L6
        have M7 := Lib.hid (M6.out.up b7)
        clear M6
        clear b7
        rw [F.out.sd]
        have C7 : Hid (WI w7 A7 n7 c7 (evF z gs x)) := Lib.hid (by rw [← F.out.comp]; exact s7)
        clear s7
        clear L7
        clear M7
        go_wp2_with fail
        refine (iIV X7.out).mono ?_
        rintro e w8 ⟨A8, n8, c8, rfl, s8, b8⟩
        have B8 : Hid (Below w.heap.size w w8) := Lib.hid (btr B7.out b8)
        have G8 := Lib.hid (G7.out.up b8)
        clear G7
        have X8 := Lib.hid (X7.out.up b8)
        clear X7
        have P8 := Lib.hid (P7.out.up b8)
        clear P7
        have C8 := Lib.hid (C7.out.up b8)
        clear C7
        have V8 : Hid (WI w8 A8 n8 c8 (invF x)) := Lib.hid s8
        clear b8 s8
        go_wp2_with fail
        refine (iEV z G8.out V8.out Z.out).mono ?_
        rintro e w9 ⟨A9, n9, c9, rfl, s9, b9⟩
        have B9 : Hid (Below w.heap.size w w9) := Lib.hid (btr B8.out b9)
        have G9 := Lib.hid (G8.out.up b9)
        clear G8
        have X9 := Lib.hid (X8.out.up b9)
        clear X8
        have P9 := Lib.hid (P8.out.up b9)
        clear P8
        have C9 := Lib.hid (C8.out.up b9)
        clear C8
        have V9 := Lib.hid (V8.out.up b9)
        clear V8
        have J9 : Hid (WI w9 A9 n9 c9 (evF z gs (invF x))) := Lib.hid s9
        clear b9 s9
        rw [F.out.b3]
        clear V9
        go_wp2_with fail
        refine (iFR X9.out).mono ?_
        rintro e w10 ⟨A10, n10, c10, rfl, s10, b10⟩
        have B10 : Hid (Below w.heap.size w w10) := Lib.hid (btr B9.out b10)
        have G10 := Lib.hid (G9.out.up b10)
        clear G9
        have X10 := Lib.hid (X9.out.up b10)
        clear X9
        have P10 := Lib.hid (P9.out.up b10)
        clear P9
        have C10 := Lib.hid (C9.out.up b10)
        clear C9
        have J10 := Lib.hid (J9.out.up b10)
        clear J9
        have R10 : Hid (WI w10 A10 n10 c10 (redF x)) := Lib.hid s10
        clear b10 s10
        go_wp2_with fail
        refine (iEV z G10.out R10.out Z.out).mono ?_
        rintro e w11 ⟨A11, n11, c11, rfl, s11, b11⟩
        have B11 : Hid (Below w.heap.size w w11) := Lib.hid (btr B10.out b11)
        have G11 := Lib.hid (G10.out.up b11)
        clear G10
        have X11 := Lib.hid (X10.out.up b11)
        clear X10
        have P11 := Lib.hid (P10.out.up b11)
        clear P10
        have C11 := Lib.hid (C10.out.up b11)
        clear C10
        have J11 := Lib.hid (J10.out.up b11)
        clear J10
        have R11 := Lib.hid (R10.out.up b11)
        clear R10
        clear b11
        rw [F.out.b4]
        have E11 : Hid (WI w11 A11 n11 c11 (evF z gs x)) := Lib.hid (by rw [← F.out.red]; exact s11)
        clear s11
        clear R11
        clear X11
        clear G11
        go_wp2_with fail
        refine (likeW C11.out P11.out).mono ?_
        rintro e w12 ⟨rfl, b12⟩
        have B12 : Hid (Below w.heap.size w w12) := Lib.hid (btr B11.out b12)
        have P12 := Lib.hid (P11.out.up b12)
        clear P11
        have C12 := Lib.hid (C11.out.up b12)
        clear C11
        have J12 := Lib.hid (J11.out.up b12)
        clear J11
        have E12 := Lib.hid (E11.out.up b12)
        clear E11
        clear b12
        clear C12
        go_wp2_with fail
        refine (iIN P12.out).mono ?_
        rintro e w13 ⟨A13, n13, c13, rfl, s13, b13⟩
        have B13 : Hid (Below w.heap.size w w13) := Lib.hid (btr B12.out b13)
        have P13 := Lib.hid (P12.out.up b13)
        clear P12
        have J13 := Lib.hid (J12.out.up b13)
        clear J12
        have E13 := Lib.hid (E12.out.up b13)
        clear E12
        clear b13
        have I13 : Hid (WI w13 A13 n13 c13 (evF z gs (invF x))) := Lib.hid (by rw [F.out.inv]; exact s13)
        clear s13
        go_wp2_with fail
        refine (likeW J13.out I13.out).mono ?_
        rintro e w14 ⟨rfl, b14⟩
        have B14 : Hid (Below w.heap.size w w14) := Lib.hid (btr B13.out b14)
        have P14 := Lib.hid (P13.out.up b14)
        clear P13
        have J14 := Lib.hid (J13.out.up b14)
        clear J13
        have E14 := Lib.hid (E13.out.up b14)
        clear E13
        have I14 := Lib.hid (I13.out.up b14)
        clear I13
        clear b14
        clear J14
        clear I14
        go_wp2_with fail
        refine (likeW E14.out P14.out).mono ?_
        rintro e w15 ⟨rfl, b15⟩
        have B15 : Hid (Below w.heap.size w w15) := Lib.hid (btr B14.out b15)
        have P15 := Lib.hid (P14.out.up b15)
        clear P14
        have E15 := Lib.hid (E14.out.up b15)
        clear E14
        clear b15
        go_wp2_with fail
        go_ret
        exact ⟨rfl, B15.out⟩
      · have k0 : (0 : Int) ≤ K := by omega
        have k1 : (K : Int) ≤ n := by omega
        have k2 : (K : Int) ≤ c := by omega
        have k3 : K ≤ c := by omega
        by_cases hcK : c = K
        · skip
          obtain rfl : n = 0 := by omega
          obtain rfl : K = 0 := by omega
          subst hcK
          have T1 : Hid (WI w4 (some ⟨q, 0, none⟩) 0 0 (x.take 0)) := Lib.hid ⟨(by rw [List.take_zero]; exact RI.nil_), by rw [List.length_take, lx.out]; omega, by omega, by omega, fun y hy => X4.out.vi y (List.mem_of_mem_take hy)⟩
          have T2 : Hid (WI w4 (some ⟨q, 0, none⟩) (0 - 0) 0 (x.drop 0)) := Lib.hid ⟨(by rw [List.eq_nil_of_length_eq_zero lx.out]; exact RI.nil_), by rw [List.length_drop, lx.out], by omega, by omega, fun y hy => X4.out.vi y (List.mem_of_mem_drop hy)⟩
          go_wp2_with fail
          refine (iEV z G4.out T1.out Z.out).mono ?_
          rintro e w5 ⟨A5, n5, c5, rfl, s5, b5⟩
          have B5 : Hid (Below w.heap.size w w5) := Lib.hid (btr B4.out b5)
          have G5 := Lib.hid (G4.out.up b5)
          clear G4
          have X5 := Lib.hid (X4.out.up b5)
          clear X4
          have P5 := Lib.hid (P4.out.up b5)
          clear P4
          have T5 := Lib.hid (T1.out.up b5)
          clear T1
          have D5 := Lib.hid (T2.out.up b5)
          clear T2
          have L5 : Hid (WI w5 A5 n5 c5 (evF z gs (x.take 0))) := Lib.hid s5
          clear b5 s5
          rw [F.out.b1]
          clear T5
          go_wp2_with fail
          refine (iEV z G5.out D5.out Z.out).mono ?_
          rintro e w6 ⟨A6, n6, c6, rfl, s6, b6⟩
          have B6 : Hid (Below w.heap.size w w6) := Lib.hid (btr B5.out b6)
          have G6 := Lib.hid (G5.out.up b6)
          clear G5
          have X6 := Lib.hid (X5.out.up b6)
          clear X5
          have P6 := Lib.hid (P5.out.up b6)
          clear P5
          have D6 := Lib.hid (D5.out.up b6)
          clear D5
          have L6 := Lib.hid (L5.out.up b6)
          clear L5
          have M6 : Hid (WI w6 A6 n6 c6 (evF z gs (x.drop 0))) := Lib.hid s6
          clear b6 s6
          rw [F.out.b2]
          clear D6
          go_wp2_with fail
          refine (iCO L6.out M6.out).mono ?_
          rintro e w7 ⟨A7, n7, c7, rfl, s7, b7⟩
          have B7 : Hid (Below w.heap.size w w7) := Lib.hid (btr B6.out b7)
          have G7 := Lib.hid (G6.out.up b7)
          clear G6
          have X7 := Lib.hid (X6.out.up b7)
          clear X6
          have P7 := Lib.hid (P6.out.up b7)
          clear P6
          have L7 := Lib.hid (L6.out.up b7)
          clear L6
          have M7 := Lib.hid (M6.out.up b7)
          clear M6
          clear b7
          rw [F.out.sd]
          have C7 : Hid (WI w7 A7 n7 c7 (evF z gs x)) := Lib.hid (by rw [← F.out.comp]; exact s7)
          clear s7
          clear L7
          clear M7
          go_wp2_with fail
          refine (iIV X7.out).mono ?_
          rintro e w8 ⟨A8, n8, c8, rfl, s8, b8⟩
          have B8 : Hid (Below w.heap.size w w8) := Lib.hid (btr B7.out b8)
          have G8 := Lib.hid (G7.out.up b8)
          clear G7
          have X8 := Lib.hid (X7.out.up b8)
          clear X7
          have P8 := Lib.hid (P7.out.up b8)
          clear P7
          have C8 := Lib.hid (C7.out.up b8)
          clear C7
          have V8 : Hid (WI w8 A8 n8 c8 (invF x)) := Lib.hid s8
          clear b8 s8
          go_wp2_with fail
          refine (iEV z G8.out V8.out Z.out).mono ?_
          rintro e w9 ⟨A9, n9, c9, rfl, s9, b9⟩
          have B9 : Hid (Below w.heap.size w w9) := Lib.hid (btr B8.out b9)
          have G9 := Lib.hid (G8.out.up b9)
          clear G8
          have X9 := Lib.hid (X8.out.up b9)
          clear X8
          have P9 := Lib.hid (P8.out.up b9)
          clear P8
          have C9 := Lib.hid (C8.out.up b9)
          clear C8
          have V9 := Lib.hid (V8.out.up b9)
          clear V8
          have J9 : Hid (WI w9 A9 n9 c9 (evF z gs (invF x))) := Lib.hid s9
          clear b9 s9
          rw [F.out.b3]
          clear V9
          go_wp2_with fail
          refine (iFR X9.out).mono ?_
          rintro e w10 ⟨A10, n10, c10, rfl, s10, b10⟩
          have B10 : Hid (Below w.heap.size w w10) := Lib.hid (btr B9.out b10)
          have G10 := Lib.hid (G9.out.up b10)
          clear G9
          have X10 := Lib.hid (X9.out.up b10)
          clear X9
          have P10 := Lib.hid (P9.out.up b10)
          clear P9
          have C10 := Lib.hid (C9.out.up b10)
          clear C9
          have J10 := Lib.hid (J9.out.up b10)
          clear J9
          have R10 : Hid (WI w10 A10 n10 c10 (redF x)) := Lib.hid s10
          clear b10 s10
          go_wp2_with fail
          refine (iEV z G10.out R10.out Z.out).mono ?_
          rintro e w11 ⟨A11, n11, c11, rfl, s11, b11⟩
          have B11 : Hid (Below w.heap.size w w11) := Lib.hid (btr B10.out b11)
          have G11 := Lib.hid (G10.out.up b11)
          clear G10
          have X11 := Lib.hid (X10.out.up b11)
          clear X10
          have P11 := Lib.hid (P10.out.up b11)
          clear P10
          have C11 := Lib.hid (C10.out.up b11)
          clear C10
          have J11 := Lib.hid (J10.out.up b11)
          clear J10
          have R11 := Lib.hid (R10.out.up b11)
          clear R10
          clear b11
          rw [F.out.b4]
          have E11 : Hid (WI w11 A11 n11 c11 (evF z gs x)) := Lib.hid (by rw [← F.out.red]; exact s11)
          clear s11
          clear R11
          clear X11
          clear G11
          go_wp2_with fail
          refine (likeW C11.out P11.out).mono ?_
          rintro e w12 ⟨rfl, b12⟩
          have B12 : Hid (Below w.heap.size w w12) := Lib.hid (btr B11.out b12)
          have P12 := Lib.hid (P11.out.up b12)
          clear P11
          have C12 := Lib.hid (C11.out.up b12)
          clear C11
          have J12 := Lib.hid (J11.out.up b12)
          clear J11
          have E12 := Lib.hid (E11.out.up b12)
          clear E11
          clear b12
          clear C12
          go_wp2_with fail
          refine (iIN P12.out).mono ?_
          rintro e w13 ⟨A13, n13, c13, rfl, s13, b13⟩
          have B13 : Hid (Below w.heap.size w w13) := Lib.hid (btr B12.out b13)
          have P13 := Lib.hid (P12.out.up b13)
          clear P12
          have J13 := Lib.hid (J12.out.up b13)
          clear J12
          have E13 := Lib.hid (E12.out.up b13)
          clear E12
          clear b13
          have I13 : Hid (WI w13 A13 n13 c13 (evF z gs (invF x))) := Lib.hid (by rw [F.out.inv]; exact s13)
          clear s13
          go_wp2_with fail
          refine (likeW J13.out I13.out).mono ?_
          rintro e w14 ⟨rfl, b14⟩
          have B14 : Hid (Below w.heap.size w w14) := Lib.hid (btr B13.out b14)
          have P14 := Lib.hid (P13.out.up b14)
          clear P13
          have J14 := Lib.hid (J13.out.up b14)
          clear J13
          have E14 := Lib.hid (E13.out.up b14)
          clear E13
          have I14 := Lib.hid (I13.out.up b14)
          clear I13
          clear b14
          clear J14
          clear I14
          go_wp2_with fail
          refine (likeW E14.out P14.out).mono ?_
          rintro e w15 ⟨rfl, b15⟩
          have B15 : Hid (Below w.heap.size w w15) := Lib.hid (btr B14.out b15)
          have P15 := Lib.hid (P14.out.up b15)
          clear P14
          have E15 := Lib.hid (E14.out.up b15)
          clear E14
          clear b15
          go_wp2_with fail
          go_ret
          exact ⟨rfl, B15.out⟩
        · skip
          have T1 : Hid (WI w4 (some ⟨q, 0, none⟩) K c (x.take K)) := Lib.hid ⟨(takeRI X4.out.ri K), by rw [List.length_take, lx.out]; omega, by omega, by omega, fun y hy => X4.out.vi y (List.mem_of_mem_take hy)⟩
          have T2 : Hid (WI w4 (some ⟨q, K, none⟩) (n - K) (c - K) (x.drop K)) := Lib.hid ⟨(dropR0 X4.out.ri K), by rw [List.length_drop, lx.out], by omega, by omega, fun y hy => X4.out.vi y (List.mem_of_mem_drop hy)⟩
          go_wp2_with fail
          refine (iEV z G4.out T1.out Z.out).mono ?_
          rintro e w5 ⟨A5, n5, c5, rfl, s5, b5⟩
          have B5 : Hid (Below w.heap.size w w5) := Lib.hid (btr B4.out b5)
          have G5 := Lib.hid (G4.out.up b5)
          clear G4
          have X5 := Lib.hid (X4.out.up b5)
          clear X4
          have P5 := Lib.hid (P4.out.up b5)
          clear P4
          have T5 := Lib.hid (T1.out.up b5)
          clear T1
          have D5 := Lib.hid (T2.out.up b5)
          clear T2
          have L5 : Hid (WI w5 A5 n5 c5 (evF z gs (x.take K))) := Lib.hid s5
          clear b5 s5
          rw [F.out.b1]
          clear T5
          go_wp2_with fail
          refine (iEV z G5.out D5.out Z.out).mono ?_
          rintro e w6 ⟨A6, n6, c6, rfl, s6, b6⟩
          have B6 : Hid (Below w.heap.size w w6) := Lib.hid (btr B5.out b6)
          have G6 := Lib.hid (G5.out.up b6)
          clear G5
          have X6 := Lib.hid (X5.out.up b6)
          clear X5
          have P6 := Lib.hid (P5.out.up b6)
          clear P5
          have D6 := Lib.hid (D5.out.up b6)
          clear D5
          have L6 := Lib.hid (L5.out.up b6)
          clear L5
          have M6 : Hid (WI w6 A6 n6 c6 (evF z gs (x.drop K))) := Lib.hid s6
          clear b6 s6
          rw [F.out.b2]
          clear D6
          go_wp2_with fail
          refine (iCO L6.out M6.out).mono ?_
          rintro e w7 ⟨A7, n7, c7, rfl, s7, b7⟩
          have B7 : Hid (Below w.heap.size w w7) := Lib.hid (btr B6.out b7)
          have G7 := Lib.hid (G6.out.up b7)
          clear G6
          have X7 := Lib.hid (X6.out.up b7)
          clear X6
          have P7 := Lib.hid (P6.out.up b7)
          clear P6
          have L7 := Lib.hid (L6.out.up b7)
          clear L6
          have M7 := Lib.hid (M6.out.up b7)
          clear M6
          clear b7
          rw [F.out.sd]
          have C7 : Hid (WI w7 A7 n7 c7 (evF z gs x)) := Lib.hid (by rw [← F.out.comp]; exact s7)
          clear s7
          clear L7
          clear M7
          go_wp2_with fail
          refine (iIV X7.out).mono ?_
          rintro e w8 ⟨A8, n8, c8, rfl, s8, b8⟩
          have B8 : Hid (Below w.heap.size w w8) := Lib.hid (btr B7.out b8)
          have G8 := Lib.hid (G7.out.up b8)
          clear G7
          have X8 := Lib.hid (X7.out.up b8)
          clear X7
          have P8 := Lib.hid (P7.out.up b8)
          clear P7
          have C8 := Lib.hid (C7.out.up b8)
          clear C7
          have V8 : Hid (WI w8 A8 n8 c8 (invF x)) := Lib.hid s8
          clear b8 s8
          go_wp2_with fail
          refine (iEV z G8.out V8.out Z.out).mono ?_
          rintro e w9 ⟨A9, n9, c9, rfl, s9, b9⟩
          have B9 : Hid (Below w.heap.size w w9) := Lib.hid (btr B8.out b9)
          have G9 := Lib.hid (G8.out.up b9)
          clear G8
          have X9 := Lib.hid (X8.out.up b9)
          clear X8
          have P9 := Lib.hid (P8.out.up b9)
          clear P8
          have C9 := Lib.hid (C8.out.up b9)
          clear C8
          have V9 := Lib.hid (V8.out.up b9)
          clear V8
          have J9 : Hid (WI w9 A9 n9 c9 (evF z gs (invF x))) := Lib.hid s9
          clear b9 s9
          rw [F.out.b3]
          clear V9
          go_wp2_with fail
          refine (iFR X9.out).mono ?_
          rintro e w10 ⟨A10, n10, c10, rfl, s10, b10⟩
          have B10 : Hid (Below w.heap.size w w10) := Lib.hid (btr B9.out b10)
          have G10 := Lib.hid (G9.out.up b10)
          clear G9
          have X10 := Lib.hid (X9.out.up b10)
          clear X9
          have P10 := Lib.hid (P9.out.up b10)
          clear P9
          have C10 := Lib.hid (C9.out.up b10)
          clear C9
          have J10 := Lib.hid (J9.out.up b10)
          clear J9
          have R10 : Hid (WI w10 A10 n10 c10 (redF x)) := Lib.hid s10
          clear b10 s10
          go_wp2_with fail
          refine (iEV z G10.out R10.out Z.out).mono ?_
          rintro e w11 ⟨A11, n11, c11, rfl, s11, b11⟩
          have B11 : Hid (Below w.heap.size w w11) := Lib.hid (btr B10.out b11)
          have G11 := Lib.hid (G10.out.up b11)
          clear G10
          have X11 := Lib.hid (X10.out.up b11)
          clear X10
          have P11 := Lib.hid (P10.out.up b11)
          clear P10
          have C11 := Lib.hid (C10.out.up b11)
          clear C10
          have J11 := Lib.hid (J10.out.up b11)
          clear J10
          have R11 := Lib.hid (R10.out.up b11)
          clear R10
          clear b11
          rw [F.out.b4]
          have E11 : Hid (WI w11 A11 n11 c11 (evF z gs x)) := Lib.hid (by rw [← F.out.red]; exact s11)
          clear s11
          clear R11
          clear X11
          clear G11
          go_wp2_with fail
          refine (likeW C11.out P11.out).mono ?_
          rintro e w12 ⟨rfl, b12⟩
          have B12 : Hid (Below w.heap.size w w12) := Lib.hid (btr B11.out b12)
          have P12 := Lib.hid (P11.out.up b12)
          clear P11
          have C12 := Lib.hid (C11.out.up b12)
          clear C11
          have J12 := Lib.hid (J11.out.up b12)
          clear J11
          have E12 := Lib.hid (E11.out.up b12)
          clear E11
          clear b12
          clear C12
          go_wp2_with fail
          refine (iIN P12.out).mono ?_
          rintro e w13 ⟨A13, n13, c13, rfl, s13, b13⟩
          have B13 : Hid (Below w.heap.size w w13) := Lib.hid (btr B12.out b13)
          have P13 := Lib.hid (P12.out.up b13)
          clear P12
          have J13 := Lib.hid (J12.out.up b13)
          clear J12
          have E13 := Lib.hid (E12.out.up b13)
          clear E12
          clear b13
          have I13 : Hid (WI w13 A13 n13 c13 (evF z gs (invF x))) := Lib.hid (by rw [F.out.inv]; exact s13)
          clear s13
          go_wp2_with fail
          refine (likeW J13.out I13.out).mono ?_
          rintro e w14 ⟨rfl, b14⟩
          have B14 : Hid (Below w.heap.size w w14) := Lib.hid (btr B13.out b14)
          have P14 := Lib.hid (P13.out.up b14)
          clear P13
          have J14 := Lib.hid (J13.out.up b14)
          clear J13
          have E14 := Lib.hid (E13.out.up b14)
          clear E13
          have I14 := Lib.hid (I13.out.up b14)
          clear I13
          clear b14
          clear J14
          clear I14
          go_wp2_with fail
          refine (likeW E14.out P14.out).mono ?_
          rintro e w15 ⟨rfl, b15⟩
          have B15 : Hid (Below w.heap.size w w15) := Lib.hid (btr B14.out b15)
          have P15 := Lib.hid (P14.out.up b15)
          clear P14
          have E15 := Lib.hid (E14.out.up b15)
          clear E14
          clear b15
          go_wp2_with fail
          go_ret
          exact ⟨rfl, B15.out⟩
  · go_enter Try.func3, Try.ntmps3
    go_wp2_with fail
    refine (bigT8 A len cap w (by omega)).mono ?_
    rintro e w0 ⟨rfl, rfl⟩
    go_wp2
    go_ret
    exact ⟨rfl, Below.refl _ _⟩
end Go.Proofs.Ytoaaoikmkomofaa

/- The three named laws of chapter 8. Conditions: none beyond those of the texts imported. -/
namespace Go.Proofs.Ytoaaoikmkomofaa
open Go.RowKit
theorem nmdFreeReduction (A : Option Addr) (cap len : Nat) (w : World) (hb : SB w w.heap.size A len) :
    Calls Try.prog 4 #[.slice A len cap] w fun e w' => e = .returned (.bool true) ∧ Below w.heap.size w w' := lawFreeReduction A cap len w hb
theorem nmdWordForms (A : Option Addr) (cap len : Nat) (w : World) (hb : SB w w.heap.size A len) :
    Calls Try.prog 5 #[.slice A len cap] w fun e w' => e = .returned (.bool true) ∧ Below w.heap.size w w' := lawWordForms A cap len w hb
theorem nmdWordEvaluation (A : Option Addr) (cap len : Nat) (w : World) (hb : SB w w.heap.size A len) :
    Calls Try.prog 3 #[.slice A len cap] w fun e w' => e = .returned (.bool true) ∧ Below w.heap.size w w' := lawWordEvaluation A cap len w hb
end Go.Proofs.Ytoaaoikmkomofaa
