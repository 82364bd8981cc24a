/- FindConjugator, of the program and of the model. No condition but lengths. -/
import Derived.Test.YtplgdbkolklgnaaFindI
import Derived.Test.YtplgdbkolklgnaaExt
namespace Go.Proofs.Ytplgdbkolklgnaa
open Go.RowKit

def findB (p q : List Int) : Bool := sameType p q && decide (p.length ≤ 7)
def findL (p q : List Int) : List Int := if findB p q = true then grL p q else []
theorem sameType_iff {p q : List Int} : sameType p q = true ↔ p.length = q.length ∧ IsP p ∧ IsP q ∧ ctype p = ctype q := by
  unfold sameType
  rw [Bool.and_eq_true, sameD_iff, decide_eq_true_eq]
  exact ⟨fun ⟨⟨a, b, c⟩, d⟩ => ⟨a, b, c, d⟩, fun ⟨a, b, c, d⟩ => ⟨⟨a, b, c⟩, d⟩⟩

set_option maxHeartbeats 1000000 in
/-- The program's FindConjugator. -/
theorem implFindConjugator (A B : Option Addr) (c d n m : Nat) (p q : List Int) (w : World) (hp : RI w w.heap.size A p) (hq : RI w w.heap.size B q) (lp : Hid (p.length = n)) (lq : Hid (q.length = m)) (hn : n ≤ 2097152) (hm : m ≤ 2097152) :
    Calls Try.prog 12 #[.slice A n c, .slice B m d] w fun e w' => ∃ A' n' c', e = .returned (.tuple #[.slice A' n' c', .bool (findB p q)]) ∧ Slc w' w.heap.size A' n' c' (findL p q) ∧ n' ≤ 20 ∧ Below w.heap.size w w' := by
  by_cases h7 : n ≤ 7
  · have d7 : decide ((7 : Int) < n) = false := by simp; omega
    by_cases k7 : m ≤ 7
    · have e7 : decide ((7 : Int) < m) = false := by simp; omega
      rcases hs : sameType p q with _ | _
      · have Fb : Hid (findB p q = false) := Lib.hid (by unfold findB; rw [hs]; rfl)
        have Fin : Hid (findL p q = []) := Lib.hid (if_neg (by rw [Fb.out]; decide))
        go_enter Try.func12, Try.ntmps12
        go_wp2_with fail
        refine (implSameCycleType A B c d n m p q w hp hq lp lq hn hm).mono ?_
        rintro e w1 ⟨he, b1⟩
        rw [hs] at he
        subst he
        have B1 := Lib.hid b1
        clear b1
        go_wp2_with fail
        go_ret2
        exact ⟨_, _, _, by rw [Fb.out]; rfl, by rw [Fin.out]; exact Slc.nil_, Nat.zero_le _, B1.out⟩
      · obtain ⟨h1, h2, h3, h4⟩ := sameType_iff.1 hs
        have Fb : Hid (findB p q = true) := Lib.hid (by unfold findB; rw [hs, lp.out]; simpa using h7)
        have Fin : Hid (findL p q = grL p q) := Lib.hid (if_pos Fb.out)
        have Ip := Lib.hid h2
        have Iq := Lib.hid h3
        have Ht := Lib.hid h4
        obtain rfl : n = m := by rw [← lp.out, ← lq.out, h1]
        clear h1 h2 h3 h4
        go_enter Try.func12, Try.ntmps12
        go_wp2_with fail
        refine (implSameCycleType A B c d n n p q w hp hq lp lq hn hm).mono ?_
        rintro e w1 ⟨he, b1⟩
        rw [hs] at he
        subst he
        have B1 := Lib.hid b1
        clear b1
        go_wp2_with fail
        refine (implSmallest A B c d n p q w1 (hp.up B1.out) (hq.up B1.out) lp lq Ip Iq Ht (by omega)).mono ?_
        rintro e w2 ⟨A2, c2, rfl, s2, b2⟩
        have S2 := Lib.hid (s2.mono B1.out.size)
        have B2 : Hid (Below w.heap.size w w2) := Lib.hid (btr B1.out b2)
        clear s2 b2
        go_wp2_with fail
        go_ret2
        exact ⟨_, _, _, by rw [Fb.out]; rfl, by rw [Fin.out]; exact S2.out, by omega, B2.out⟩
    · have e7 : decide ((7 : Int) < m) = true := by simp; omega
      have Fb : Hid (findB p q = false) := Lib.hid (by
        unfold findB
        cases hs : sameType p q with
        | false => rfl
        | true => have := (sameType_iff.1 hs).1; rw [lp.out, lq.out] at this; omega)
      have Fin : Hid (findL p q = []) := Lib.hid (if_neg (by rw [Fb.out]; decide))
      go_enter Try.func12, Try.ntmps12
      go_wp2_with fail
      go_ret2
      exact ⟨_, _, _, by rw [Fb.out]; rfl, by rw [Fin.out]; exact Slc.nil_, Nat.zero_le _, Below.refl _ _⟩
  · have d7 : decide ((7 : Int) < n) = true := by simp; omega
    have Fb : Hid (findB p q = false) := Lib.hid (by unfold findB; rw [lp.out, decide_eq_false h7, Bool.and_false])
    have Fin : Hid (findL p q = []) := Lib.hid (if_neg (by rw [Fb.out]; decide))
    go_enter Try.func12, Try.ntmps12
    go_wp2_with fail
    go_ret2
    exact ⟨_, _, _, by rw [Fb.out]; rfl, by rw [Fin.out]; exact Slc.nil_, Nat.zero_le _, Below.refl _ _⟩

set_option maxHeartbeats 1000000 in
/-- The model's FindConjugator. -/
theorem specFindConjugator (A B : Option Addr) (c d n m : Nat) (p q : List Int) (w : World) (hp : RI w w.heap.size A p) (hq : RI w w.heap.size B q) (lp : Hid (p.length = n)) (lq : Hid (q.length = m)) (hn : n ≤ 2097152) (hm : m ≤ 2097152) (hc : n ≤ c) (hd : m ≤ d) :
    Calls Try.prog 13 #[.slice A n c, .slice B m d] w fun e w' => ∃ A' n' c', e = .returned (.tuple #[.slice A' n' c', .bool (findB p q)]) ∧ Slc w' w.heap.size A' n' c' (findL p q) ∧ n' ≤ 20 ∧ Below w.heap.size w w' := by
  rcases hs : sameType p q with _ | _
  · have Fb : Hid (findB p q = false) := Lib.hid (by unfold findB; rw [hs]; rfl)
    have Fin : Hid (findL p q = []) := Lib.hid (if_neg (by rw [Fb.out]; decide))
    go_enter Try.func13, Try.ntmps13
    go_wp2_with fail
    refine (specSameCycleType A B c d n m p q w hp hq lp lq hn hm hc hd).mono ?_
    rintro e w1 ⟨he, b1⟩
    rw [hs] at he
    subst he
    have B1 := Lib.hid b1
    clear b1
    go_wp2_with fail
    go_ret2
    exact ⟨_, _, _, by rw [Fb.out]; rfl, by rw [Fin.out]; exact Slc.lit0 w1 _ B1.out.size, Nat.zero_le _, B1.out.alloc B1.out.size _⟩
  · obtain ⟨h1, h2, h3, h4⟩ := sameType_iff.1 hs
    have Ip := Lib.hid h2
    have Iq := Lib.hid h3
    have Ht := Lib.hid h4
    obtain rfl : n = m := by rw [← lp.out, ← lq.out, h1]
    have hn20 : n ≤ 20 := by rw [← lp.out]; exact h2.le
    clear h1 h2 h3 h4
    by_cases h7 : n ≤ 7
    · have d7 : decide ((7 : Int) < n) = false := by simp; omega
      have Fb : Hid (findB p q = true) := Lib.hid (by unfold findB; rw [hs, lp.out]; simpa using h7)
      have Fin : Hid (findL p q = grL p q) := Lib.hid (if_pos Fb.out)
      have Cx : Hid (CX p q [] (grL p q)) := Lib.hid ⟨gr_isP Ip.out Iq.out Ht.out, gr_len p q, gr_conj Ip.out Iq.out Ht.out, grL p q, rfl⟩
      have Lst : Hid (∀ y, CX p q [] y → Lex (grL p q) y) := Lib.hid fun y hy => gr_least Ip.out Iq.out Ht.out hy.1 hy.2.1.symm hy.2.2.1
      go_enter Try.func13, Try.ntmps13
      go_wp2_with fail
      refine (specSameCycleType A B c d n n p q w hp hq lp lq hn hm hc hd).mono ?_
      rintro e w1 ⟨he, b1⟩
      rw [hs] at he
      subst he
      have B1 := Lib.hid b1
      have Z1 := b1.size
      clear b1
      go_wp2_with fail
      refine (specExtend A B c d n p q lp lq Ip Iq hn20 hc n w1.heap.size 0 0 w1.heap.size [] (w1.alloc (.cells #[] 2)) (by omega) (((hp.up B1.out).alloc (Nat.le_refl _) _).more (by simp)) (((hq.up B1.out).alloc (Nat.le_refl _) _).more (by simp)) (Slc.lit0 w1 _ (Nat.le_refl _)) (by simp)).mono ?_
      rintro e w2 ⟨A2, n2, c2, ys, rfl, s2, f2, l2, b2⟩
      obtain rfl : ys = grL p q := by
        rcases f2 with ⟨_, h⟩ | ⟨_, h1, h2⟩
        · exact absurd Cx.out (h _)
        · exact Lex.anti h1.2.1 Cx.out.2.1 (h2 _ Cx.out) (Lst.out _ h1)
      have S2 := Lib.hid (s2.mono Z1)
      have B2 : Hid (Below w.heap.size w w2) := Lib.hid ((B1.out.alloc Z1 _).trans (b2.mono (by simp; omega)))
      clear s2 b2 f2
      go_wp2_with fail
      go_ret2
      exact ⟨_, _, _, by rw [Fb.out]; rfl, by rw [Fin.out]; exact S2.out, by omega, B2.out⟩
    · have d7 : decide ((7 : Int) < n) = true := by simp; omega
      have Fb : Hid (findB p q = false) := Lib.hid (by unfold findB; rw [lp.out, decide_eq_false h7, Bool.and_false])
      have Fin : Hid (findL p q = []) := Lib.hid (if_neg (by rw [Fb.out]; decide))
      go_enter Try.func13, Try.ntmps13
      go_wp2_with fail
      refine (specSameCycleType A B c d n n p q w hp hq lp lq hn hm hc hd).mono ?_
      rintro e w1 ⟨he, b1⟩
      rw [hs] at he
      subst he
      have B1 := Lib.hid b1
      clear b1
      go_wp2_with fail
      go_ret2
      exact ⟨_, _, _, by rw [Fb.out]; rfl, by rw [Fin.out]; exact Slc.lit0 w1 _ B1.out.size, Nat.zero_le _, B1.out.alloc B1.out.size _⟩
end Go.Proofs.Ytplgdbkolklgnaa
