/- The walk of the law FnConjugacy: it returns true at every input, and writes nothing that was there. No condition. -/
import Derived.Test.YtplgdbkolklgnaaDrawC
import Derived.Test.YtplgdbkolklgnaaSameT
namespace Go.Proofs.Ytplgdbkolklgnaa
open Go.RowKit

theorem sameD_of {p q : List Int} {np nq : Nat} (lp : p.length = np) (lq : q.length = nq) (h1 : isP p = true) (h2 : isP q = true) (h3 : np = nq) : sameD p q = true := sameD_iff.2 ⟨by omega, isP_iff.1 h1, isP_iff.1 h2⟩
theorem conjL_of {p q : List Int} (h : sameD p q = true) : conjL p q = conjP p q := if_pos h
theorem sameType_conj {p q : List Int} (h : sameD p q = true) : sameType p (conjL p q) = true := by
  obtain ⟨hl, hp, hq⟩ := sameD_iff.1 h
  rw [conjL_of h]
  exact sameType_iff.2 ⟨(conj_length hl).symm, hp, isP_conj hp hq hl, (ctype_conj hp hq hl).symm⟩
theorem ctypeL_conj {p q : List Int} (h : sameD p q = true) : ctypeL p = ctypeL (conjL p q) := by
  obtain ⟨hl, hp, hq⟩ := sameD_iff.1 h
  rw [conjL_of h]
  unfold ctypeL
  rw [if_pos (isP_iff.2 hp), if_pos (isP_iff.2 (isP_conj hp hq hl)), ctype_conj hp hq hl]
theorem findL_none {p q : List Int} (h : findB p q = false) : findL p q = [] := if_neg (by rw [h]; decide)
theorem findL_some {p q : List Int} (h : findB p q = true) : sameType p q = true ∧ sameD p (findL p q) = true ∧ conjL p (findL p q) = q := by
  have ht : sameType p q = true := by unfold findB at h; rw [Bool.and_eq_true] at h; exact h.1
  obtain ⟨hl, hp, hq, hc⟩ := sameType_iff.1 ht
  have e : findL p q = grL p q := if_pos h
  have hs : sameD p (grL p q) = true := sameD_iff.2 ⟨(gr_len p q).symm, hp, gr_isP hp hq hc⟩
  refine ⟨ht, by rw [e]; exact hs, ?_⟩
  rw [e, conjL_of hs]
  exact gr_conj hp hq hc

set_option maxHeartbeats 4000000 in
set_option maxRecDepth 100000 in
theorem lawConjugacy (A : Option Addr) (cap len : Nat) (w : World) (hb : SB w w.heap.size A len) :
    Calls Try.prog 3 #[.slice A len cap] w fun e w' => e = .returned (.bool true) ∧ Below w.heap.size w w' := by
  by_cases hl : len ≤ 4096
  · go_enter Try.func3, Try.ntmps3
    go_wp2_with fail
    refine (bigT2 A len cap w hl).mono ?_
    rintro e w0 ⟨rfl, rfl⟩
    go_wp2_with fail
    refine (drawFC len cap A w hb hl).mono ?_
    rintro e w1 ⟨P, np, cp, p, Q, nq, cq, q, rfl, p1, q1, hnp, hnq, b1⟩
    have P1 := Lib.hid p1
    have Q1 := Lib.hid q1
    have B1 := Lib.hid b1
    clear p1 q1 b1
    go_wp2_with fail
    refine (implSameCycleType P Q cp cq np nq p q w1 P1.out.ri Q1.out.ri P1.out.hid Q1.out.hid (by omega) (by omega)).mono ?_
    rintro e w2 ⟨rfl, b2⟩
    have P2 := Lib.hid (P1.out.up b2)
    have Q2 := Lib.hid (Q1.out.up b2)
    have B2 : Hid (Below w.heap.size w w2) := Lib.hid (btr B1.out b2)
    clear b2
    go_wp2_with fail
    refine (implFindConjugator P Q cp cq np nq p q w2 P2.out.ri Q2.out.ri P2.out.hid Q2.out.hid (by omega) (by omega)).mono ?_
    rintro e w3 ⟨A3, n3, c3, rfl, s3, l3, b3⟩
    have P3 := Lib.hid (P2.out.up b3)
    have Q3 := Lib.hid (Q2.out.up b3)
    have G3 := Lib.hid (Pm.of_slc s3)
    have B3 : Hid (Below w.heap.size w w3) := Lib.hid (btr B2.out b3)
    clear b3 s3
    go_wp2_with fail
    refine (specFindConjugator P Q cp cq np nq p q w3 P3.out.ri Q3.out.ri P3.out.hid Q3.out.hid (by omega) (by omega) P3.out.2.1 Q3.out.2.1).mono ?_
    rintro e w4 ⟨A4, n4, c4, rfl, s4, l4, b4⟩
    have P4 := Lib.hid (P3.out.up b4)
    have Q4 := Lib.hid (Q3.out.up b4)
    have G4 := Lib.hid (G3.out.up b4)
    have B4 : Hid (Below w.heap.size w w4) := Lib.hid (btr B3.out b4)
    clear b4 s4
    go_wp2_with fail
    refine (specSameCycleType P Q cp cq np nq p q w4 P4.out.ri Q4.out.ri P4.out.hid Q4.out.hid (by omega) (by omega) P4.out.2.1 Q4.out.2.1).mono ?_
    rintro e w5 ⟨rfl, b5⟩
    have P5 := Lib.hid (P4.out.up b5)
    have Q5 := Lib.hid (Q4.out.up b5)
    have G5 := Lib.hid (G4.out.up b5)
    have B5 : Hid (Below w.heap.size w w5) := Lib.hid (btr B4.out b5)
    clear b5
    have ne1 : (sameType p q != sameType p q) = false := by simp
    have ne2 : (findB p q != findB p q) = false := by simp
    go_wp2_with fail
    refine (quiet_below (specIsP P cp np p w5 P5.out.ri P5.out.hid (by omega) P5.out.2.1)).mono ?_
    rintro e w6 ⟨he6, b6⟩
    have P6 := Lib.hid (P5.out.up b6)
    have Q6 := Lib.hid (Q5.out.up b6)
    have G6 := Lib.hid (G5.out.up b6)
    have B6 : Hid (Below w.heap.size w w6) := Lib.hid (btr B5.out b6)
    clear b6
    rcases hip : isP p with _ | _
    · rw [hip] at he6
      subst he6
      rcases hf : findB p q with _ | _
      · have F3 := Lib.hid (findL_none hf)
        have n0 : n3 = 0 := by have := G6.out.1; rw [F3.out] at this; simpa using this.symm
        subst n0
        clear hf
        go_wp2_with fail
        go_ret
        exact ⟨rfl, B6.out⟩
      · obtain ⟨ht, hd, hc⟩ := findL_some hf
        have Hc := Lib.hid hc
        rw [ht]
        clear hf hc
        go_wp2_with fail
        refine (implConjugate P A3 cp c3 np n3 p (findL p q) w6 P6.out.ri G6.out.ri P6.out.hid G6.out.hid (by omega) (by omega)).mono ?_
        rintro e wa ⟨Aa, na, ca, rfl, sa, la, ba⟩
        have Qa := Lib.hid (Q6.out.up ba)
        have Ra : Hid (Pm wa w6.heap.size Aa na ca q) := Lib.hid (by have := Pm.of_slc sa; rw [Hc.out] at this; exact this)
        have Ba : Hid (Below w.heap.size w wa) := Lib.hid (btr B6.out ba)
        rw [hd]
        clear ba sa hd ht
        go_wp2_with fail
        refine (quiet_below (likeI_any Aa Q ca cq na nq q q wa Ra.out.ri Qa.out.ri Ra.out.hid Qa.out.hid (by omega) (by omega))).mono ?_
        rintro e wb ⟨heb, bb⟩
        have Bb : Hid (Below w.heap.size w wb) := Lib.hid (btr Ba.out bb)
        rw [decide_eq_true rfl] at heb
        subst heb
        clear bb
        go_wp2_with fail
        go_ret
        exact ⟨rfl, Bb.out⟩
    · rw [hip] at he6
      subst he6
      go_wp2_with fail
      refine (quiet_below (specIsP Q cq nq q w6 Q6.out.ri Q6.out.hid (by omega) Q6.out.2.1)).mono ?_
      rintro e w7 ⟨he7, b7⟩
      have P7 := Lib.hid (P6.out.up b7)
      have Q7 := Lib.hid (Q6.out.up b7)
      have G7 := Lib.hid (G6.out.up b7)
      have B7 : Hid (Below w.heap.size w w7) := Lib.hid (btr B6.out b7)
      clear b7
      rcases hiq : isP q with _ | _
      · rw [hiq] at he7
        subst he7
        rcases hf : findB p q with _ | _
        · have F3 := Lib.hid (findL_none hf)
          have n0 : n3 = 0 := by have := G7.out.1; rw [F3.out] at this; simpa using this.symm
          subst n0
          clear hf
          go_wp2_with fail
          go_ret
          exact ⟨rfl, B7.out⟩
        · obtain ⟨ht, hd, hc⟩ := findL_some hf
          have Hc := Lib.hid hc
          rw [ht]
          clear hf hc
          go_wp2_with fail
          refine (implConjugate P A3 cp c3 np n3 p (findL p q) w7 P7.out.ri G7.out.ri P7.out.hid G7.out.hid (by omega) (by omega)).mono ?_
          rintro e wa ⟨Aa, na, ca, rfl, sa, la, ba⟩
          have Qa := Lib.hid (Q7.out.up ba)
          have Ra : Hid (Pm wa w7.heap.size Aa na ca q) := Lib.hid (by have := Pm.of_slc sa; rw [Hc.out] at this; exact this)
          have Ba : Hid (Below w.heap.size w wa) := Lib.hid (btr B7.out ba)
          rw [hd]
          clear ba sa hd ht
          go_wp2_with fail
          refine (quiet_below (likeI_any Aa Q ca cq na nq q q wa Ra.out.ri Qa.out.ri Ra.out.hid Qa.out.hid (by omega) (by omega))).mono ?_
          rintro e wb ⟨heb, bb⟩
          have Bb : Hid (Below w.heap.size w wb) := Lib.hid (btr Ba.out bb)
          rw [decide_eq_true rfl] at heb
          subst heb
          clear bb
          go_wp2_with fail
          go_ret
          exact ⟨rfl, Bb.out⟩
      · rw [hiq] at he7
        subst he7
        by_cases hn : np = nq
        · have hsd := sameD_of P7.out.1 Q7.out.1 hip hiq hn
          have eq1 : ((np : Int) == (nq : Int)) = true := by rw [beq_iff_eq]; omega
          have Hsd := Lib.hid hsd
          clear hn hip hiq hsd
          go_wp2_with fail
          refine (implConjugate P Q cp cq np nq p q w7 P7.out.ri Q7.out.ri P7.out.hid Q7.out.hid (by omega) (by omega)).mono ?_
          rintro e w8 ⟨A8, n8, c8, rfl, s8, l8, b8⟩
          have P8 := Lib.hid (P7.out.up b8)
          have Q8 := Lib.hid (Q7.out.up b8)
          have G8 := Lib.hid (G7.out.up b8)
          have R8 := Lib.hid (Pm.of_slc s8)
          have B8 : Hid (Below w.heap.size w w8) := Lib.hid (btr B7.out b8)
          rw [Hsd.out]
          clear b8 s8
          go_wp2_with fail
          refine (implSameCycleType P A8 cp c8 np n8 p (conjL p q) w8 P8.out.ri R8.out.ri P8.out.hid R8.out.hid (by omega) (by omega)).mono ?_
          rintro e w9 ⟨he9, b9⟩
          have P9 := Lib.hid (P8.out.up b9)
          have Q9 := Lib.hid (Q8.out.up b9)
          have G9 := Lib.hid (G8.out.up b9)
          have R9 := Lib.hid (R8.out.up b9)
          have B9 : Hid (Below w.heap.size w w9) := Lib.hid (btr B8.out b9)
          rw [sameType_conj Hsd.out] at he9
          subst he9
          clear b9
          go_wp2_with fail
          refine (implCycleType P cp np p w9 P9.out.ri P9.out.hid (by omega)).mono ?_
          rintro e w10 ⟨A10, n10, c10, rfl, s10, l10, b10⟩
          have P10 := Lib.hid (P9.out.up b10)
          have Q10 := Lib.hid (Q9.out.up b10)
          have G10 := Lib.hid (G9.out.up b10)
          have R10 := Lib.hid (R9.out.up b10)
          have S10 := Lib.hid (Pm.of_slc s10)
          have B10 : Hid (Below w.heap.size w w10) := Lib.hid (btr B9.out b10)
          clear b10 s10
          go_wp2_with fail
          refine (implCycleType A8 c8 n8 (conjL p q) w10 R10.out.ri R10.out.hid (by omega)).mono ?_
          rintro e w11 ⟨A11, n11, c11, rfl, s11, l11, b11⟩
          have P11 := Lib.hid (P10.out.up b11)
          have Q11 := Lib.hid (Q10.out.up b11)
          have G11 := Lib.hid (G10.out.up b11)
          have S11 := Lib.hid (S10.out.up b11)
          have T11 := Lib.hid (Pm.of_slc s11)
          have B11 : Hid (Below w.heap.size w w11) := Lib.hid (btr B10.out b11)
          clear b11 s11
          go_wp2_with fail
          refine (quiet_below (likeI_any A10 A11 c10 c11 n10 n11 (ctypeL p) (ctypeL (conjL p q)) w11 S11.out.ri T11.out.ri S11.out.hid T11.out.hid (by omega) (by omega))).mono ?_
          rintro e w12 ⟨he12, b12⟩
          have P12 := Lib.hid (P11.out.up b12)
          have Q12 := Lib.hid (Q11.out.up b12)
          have G12 := Lib.hid (G11.out.up b12)
          have B12 : Hid (Below w.heap.size w w12) := Lib.hid (btr B11.out b12)
          rw [decide_eq_true (ctypeL_conj Hsd.out)] at he12
          subst he12
          clear b12
          rcases hf : findB p q with _ | _
          · have F3 := Lib.hid (findL_none hf)
            have n0 : n3 = 0 := by have := G12.out.1; rw [F3.out] at this; simpa using this.symm
            subst n0
            clear hf
            go_wp2_with fail
            go_ret
            exact ⟨rfl, B12.out⟩
          · obtain ⟨ht, hd, hc⟩ := findL_some hf
            have Hc := Lib.hid hc
            rw [ht]
            clear hf hc
            go_wp2_with fail
            refine (implConjugate P A3 cp c3 np n3 p (findL p q) w12 P12.out.ri G12.out.ri P12.out.hid G12.out.hid (by omega) (by omega)).mono ?_
            rintro e wa ⟨Aa, na, ca, rfl, sa, la, ba⟩
            have Qa := Lib.hid (Q12.out.up ba)
            have Ra : Hid (Pm wa w12.heap.size Aa na ca q) := Lib.hid (by have := Pm.of_slc sa; rw [Hc.out] at this; exact this)
            have Ba : Hid (Below w.heap.size w wa) := Lib.hid (btr B12.out ba)
            rw [hd]
            clear ba sa hd ht
            go_wp2_with fail
            refine (quiet_below (likeI_any Aa Q ca cq na nq q q wa Ra.out.ri Qa.out.ri Ra.out.hid Qa.out.hid (by omega) (by omega))).mono ?_
            rintro e wb ⟨heb, bb⟩
            have Bb : Hid (Below w.heap.size w wb) := Lib.hid (btr Ba.out bb)
            rw [decide_eq_true rfl] at heb
            subst heb
            clear bb
            go_wp2_with fail
            go_ret
            exact ⟨rfl, Bb.out⟩
        · have eq1 : ((np : Int) == (nq : Int)) = false := by rw [beq_eq_false_iff_ne]; omega
          clear hn hip hiq
          rcases hf : findB p q with _ | _
          · have F3 := Lib.hid (findL_none hf)
            have n0 : n3 = 0 := by have := G7.out.1; rw [F3.out] at this; simpa using this.symm
            subst n0
            clear hf
            go_wp2_with fail
            go_ret
            exact ⟨rfl, B7.out⟩
          · obtain ⟨ht, hd, hc⟩ := findL_some hf
            have Hc := Lib.hid hc
            rw [ht]
            clear hf hc
            go_wp2_with fail
            refine (implConjugate P A3 cp c3 np n3 p (findL p q) w7 P7.out.ri G7.out.ri P7.out.hid G7.out.hid (by omega) (by omega)).mono ?_
            rintro e wa ⟨Aa, na, ca, rfl, sa, la, ba⟩
            have Qa := Lib.hid (Q7.out.up ba)
            have Ra : Hid (Pm wa w7.heap.size Aa na ca q) := Lib.hid (by have := Pm.of_slc sa; rw [Hc.out] at this; exact this)
            have Ba : Hid (Below w.heap.size w wa) := Lib.hid (btr B7.out ba)
            rw [hd]
            clear ba sa hd ht
            go_wp2_with fail
            refine (quiet_below (likeI_any Aa Q ca cq na nq q q wa Ra.out.ri Qa.out.ri Ra.out.hid Qa.out.hid (by omega) (by omega))).mono ?_
            rintro e wb ⟨heb, bb⟩
            have Bb : Hid (Below w.heap.size w wb) := Lib.hid (btr Ba.out bb)
            rw [decide_eq_true rfl] at heb
            subst heb
            clear bb
            go_wp2_with fail
            go_ret
            exact ⟨rfl, Bb.out⟩
  · go_enter Try.func3, Try.ntmps3
    go_wp2_with fail
    refine (bigF2 A len cap w (by omega)).mono ?_
    rintro e w0 ⟨rfl, rfl⟩
    go_wp2_with fail
    go_ret
    exact ⟨rfl, Below.refl _ _⟩
end Go.Proofs.Ytplgdbkolklgnaa
