/- Conjugate, of the program and of the model. No condition but lengths. -/
import Derived.Test.YtplgdbkolklgnaaGrpM
namespace Go.Proofs.Ytplgdbkolklgnaa
open Go.RowKit

/-- First the inverse of q, then p, then q. -/
def conjP (p q : List Int) : List Int := compL (compL (invL q q.length) p) q
def conjL (p q : List Int) : List Int := if sameD p q = true then conjP p q else []

set_option maxHeartbeats 400000 in
/-- The program's Conjugate. -/
theorem implConjugate (A B : Option Addr) (c d n m : Nat) (p q : List Int) (w : World) (hp : RI w w.heap.size A p) (hq : RI w w.heap.size B q) (lp : Hid (p.length = n)) (lq : Hid (q.length = m)) (hn : n ≤ 2097152) (hm : m ≤ 2097152) :
    Calls Try.prog 16 #[.slice A n c, .slice B m d] w fun e w' => ∃ A' n' c', e = .returned (.tuple #[.slice A' n' c', .bool (sameD p q)]) ∧ Slc w' w.heap.size A' n' c' (conjL p q) ∧ n' ≤ 20 ∧ Below w.heap.size w w' := by
  rcases hs : sameD p q with _ | _
  · have Fin : Hid (conjL p q = []) := Lib.hid (if_neg (by rw [hs]; decide))
    go_enter Try.func16, Try.ntmps16
    go_wp2_with fail
    refine (implEq A B c d n m p q w hp hq lp lq hn hm).mono ?_
    rintro e w1 ⟨rfl, b1⟩
    have B1 := Lib.hid b1
    clear b1
    go_wp2_with fail
    go_ret2
    exact ⟨_, _, _, rfl, by rw [Fin.out]; exact Slc.nil_, Nat.zero_le _, B1.out⟩
  · have Fin : Hid (conjL p q = conjP p q) := Lib.hid (if_pos hs)
    obtain ⟨h1, h2, h3⟩ := sameD_iff.1 hs
    have Ip := Lib.hid h2
    have Iq := Lib.hid h3
    have hn20 : n ≤ 20 := by rw [← lp.out]; exact h2.le
    obtain rfl : n = m := by rw [← lp.out, ← lq.out, h1]
    clear h1 h2 h3
    have li : Hid ((invL q q.length).length = n) := Lib.hid ((invL_length _ _).trans lq.out)
    have ii : Hid (IsP (invL q q.length)) := Lib.hid (isP_inv Iq.out)
    have lc : Hid ((compL (invL q q.length) p).length = n) := Lib.hid ((compL_length _ _).trans li.out)
    have ic : Hid (IsP (compL (invL q q.length) p)) := Lib.hid (isP_comp ii.out Ip.out (li.out.trans lp.out.symm))
    go_enter Try.func16, Try.ntmps16
    go_wp2_with fail
    refine (implEq A B c d n n p q w hp hq lp lq hn hn).mono ?_
    rintro e w1 ⟨rfl, b1⟩
    have B1 := Lib.hid b1
    clear b1
    go_wp2_with fail
    refine (implInv B d n q w1 (hq.up B1.out) lq Iq hn20).mono ?_
    rintro e w2 ⟨A2, c2, rfl, s2, b2⟩
    rw [← lq.out] at s2
    have S2 := Lib.hid (show Slc w2 w1.heap.size A2 n c2 (invL q q.length) by rw [lq.out] at s2 ⊢; exact s2)
    have B2 : Hid (Below w.heap.size w w2) := Lib.hid (btr B1.out b2)
    clear s2 b2
    go_wp2_with fail
    refine (implThen A2 A c2 c n (invL q q.length) p w2 S2.out.ri_ (hp.up B2.out) li lp ii hn20).mono ?_
    rintro e w3 ⟨A3, c3, rfl, s3, b3⟩
    have S3 := Lib.hid s3
    have B3 : Hid (Below w.heap.size w w3) := Lib.hid (btr B2.out b3)
    clear s3 b3
    go_wp2_with fail
    refine (implThen A3 B c3 d n (compL (invL q q.length) p) q w3 S3.out.ri_ (hq.up B3.out) lc lq ic hn20).mono ?_
    rintro e w4 ⟨A4, c4, rfl, s4, b4⟩
    have S4 := Lib.hid (s4.mono B3.out.size)
    have B4 : Hid (Below w.heap.size w w4) := Lib.hid (btr B3.out b4)
    clear s4 b4
    go_wp2_with fail
    go_ret2
    exact ⟨_, _, _, rfl, by rw [Fin.out]; exact S4.out, hn20, B4.out⟩

set_option maxHeartbeats 400000 in
/-- The model's Conjugate. -/
theorem specConjugate (A B : Option Addr) (c d n m : Nat) (p q : List Int) (w : World) (hp : RI w w.heap.size A p) (hq : RI w w.heap.size B q) (lp : Hid (p.length = n)) (lq : Hid (q.length = m)) (hn : n ≤ 2097152) (hm : m ≤ 2097152) (hc : n ≤ c) (hd : m ≤ d) :
    Calls Try.prog 26 #[.slice A n c, .slice B m d] w fun e w' => ∃ A' n' c', e = .returned (.tuple #[.slice A' n' c', .bool (sameD p q)]) ∧ Slc w' w.heap.size A' n' c' (conjL p q) ∧ n' ≤ 20 ∧ Below w.heap.size w w' := by
  rcases hs : sameD p q with _ | _
  · have Fin : Hid (conjL p q = []) := Lib.hid (if_neg (by rw [hs]; decide))
    go_enter Try.func26, Try.ntmps26
    go_wp2_with fail
    refine (specSame A B c d n m p q w hp hq lp lq hn hm hc hd).mono ?_
    rintro e w1 ⟨rfl, b1⟩
    have B1 := Lib.hid b1
    clear b1
    go_wp2_with fail
    go_ret2
    exact ⟨_, _, _, rfl, by rw [Fin.out]; exact Slc.lit0 w1 _ B1.out.size, Nat.zero_le _, B1.out.alloc B1.out.size _⟩
  · have Fin : Hid (conjL p q = conjP p q) := Lib.hid (if_pos hs)
    obtain ⟨h1, h2, h3⟩ := sameD_iff.1 hs
    have Ip := Lib.hid h2
    have Iq := Lib.hid h3
    have hn20 : n ≤ 20 := by rw [← lp.out]; exact h2.le
    obtain rfl : n = m := by rw [← lp.out, ← lq.out, h1]
    clear h1 h2 h3
    have li : Hid ((invL q q.length).length = n) := Lib.hid ((invL_length _ _).trans lq.out)
    have ii : Hid (IsP (invL q q.length)) := Lib.hid (isP_inv Iq.out)
    have lc : Hid ((compL (invL q q.length) p).length = n) := Lib.hid ((compL_length _ _).trans li.out)
    have ic : Hid (IsP (compL (invL q q.length) p)) := Lib.hid (isP_comp ii.out Ip.out (li.out.trans lp.out.symm))
    go_enter Try.func26, Try.ntmps26
    go_wp2_with fail
    refine (specSame A B c d n n p q w hp hq lp lq hn hn hc hd).mono ?_
    rintro e w1 ⟨rfl, b1⟩
    have B1 := Lib.hid b1
    clear b1
    go_wp2_with fail
    refine (specInv B d n q w1 (hq.up B1.out) lq Iq hn20).mono ?_
    rintro e w2 ⟨A2, c2, rfl, s2, b2⟩
    rw [← lq.out] at s2
    have S2 := Lib.hid (show Slc w2 w1.heap.size A2 n c2 (invL q q.length) by rw [lq.out] at s2 ⊢; exact s2)
    have B2 : Hid (Below w.heap.size w w2) := Lib.hid (btr B1.out b2)
    clear s2 b2
    go_wp2_with fail
    refine (specComp A2 A c2 c n (invL q q.length) p w2 S2.out.ri_ (hp.up B2.out) li lp ii hn20).mono ?_
    rintro e w3 ⟨A3, c3, rfl, s3, b3⟩
    have S3 := Lib.hid s3
    have B3 : Hid (Below w.heap.size w w3) := Lib.hid (btr B2.out b3)
    clear s3 b3
    go_wp2_with fail
    refine (specComp A3 B c3 d n (compL (invL q q.length) p) q w3 S3.out.ri_ (hq.up B3.out) lc lq ic hn20).mono ?_
    rintro e w4 ⟨A4, c4, rfl, s4, b4⟩
    have S4 := Lib.hid (s4.mono B3.out.size)
    have B4 : Hid (Below w.heap.size w w4) := Lib.hid (btr B3.out b4)
    clear s4 b4
    go_wp2_with fail
    go_ret2
    exact ⟨_, _, _, rfl, by rw [Fin.out]; exact S4.out, hn20, B4.out⟩
end Go.Proofs.Ytplgdbkolklgnaa
