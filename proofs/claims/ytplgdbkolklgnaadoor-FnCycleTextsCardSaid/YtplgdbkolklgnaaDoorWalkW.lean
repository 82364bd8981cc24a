/- The walk of the law FnCycleTexts: it returns true at every input, and writes nothing that was there. The contract of corrupt is handed in. -/
import Derived.Test.YtplgdbkolklgnaaDoorDrawP
namespace Go.Proofs.YtplgdbkolklgnaaDoor
open Go.RowKit

theorem fmtCyc_no {p : List Int} (hp : IsP p) (e : fmtCyc p = []) : False := by
  unfold fmtCyc at e
  rw [if_pos (isP_iff.2 hp)] at e
  split at e
  · cases e
  · rename_i h
    cases hc : cycl p with
    | nil => rw [hc] at h; exact h rfl
    | cons c cs => rw [hc, fmtCs_cons] at e; cases e
theorem SB.more {w : World} {B B' len : Nat} {A : Option Addr} (h : SB w B A len) (hB : B ≤ B') : SB w B' A len := fun hn => by
  obtain ⟨b, off, e, hb, hc⟩ := h hn
  exact ⟨b, off, e, by omega, hc⟩

set_option maxHeartbeats 4000000 in
set_option maxRecDepth 100000 in
theorem lawCycleTexts (hC : Corr) (A : Option Addr) (cap len : Nat) (w : World) (hb : SB w w.heap.size A len) :
    Calls Tryd.prog 3 #[.slice A len cap] w fun e w' => e = .returned (.bool true) ∧ Below w.heap.size w w' := by
  have HC := Lib.hid hC
  have HB := Lib.hid hb
  clear hC hb
  by_cases hl : len ≤ 4096
  · go_enter Tryd.func3, Tryd.ntmps3
    go_wp2_with fail
    refine (bigT2 A len cap w hl).mono ?_
    rintro e w0 ⟨rfl, rfl⟩
    go_wp2_with fail
    refine (drawFmt len cap A w HB.out hl).mono ?_
    rintro e w1 ⟨P, np, cp, p, rfl, p1, hnp, b1⟩
    have P1 := Lib.hid p1
    have B1 := Lib.hid b1
    clear p1 b1
    go_wp2_with fail
    refine (implFormatCycles P cp np p w1 P1.out.ri P1.out.hid (by omega)).mono ?_
    rintro e w2 ⟨t1, rfl, ht1, b2⟩
    have P2 := Lib.hid (P1.out.up b2)
    have B2 : Hid (Below w.heap.size w w2) := Lib.hid (btr B1.out b2)
    have T1 := Lib.hid ht1
    clear b2 ht1
    go_wp2_with fail
    refine (implFormatImages P cp np p w2 P2.out.ri P2.out.hid (by omega)).mono ?_
    rintro e w3 ⟨t2, rfl, ht2, b3⟩
    have P3 := Lib.hid (P2.out.up b3)
    have B3 : Hid (Below w.heap.size w w3) := Lib.hid (btr B2.out b3)
    have T2 := Lib.hid ht2
    clear b3 ht2
    go_wp2_with fail
    refine (specFormatCycles P cp np p w3 P3.out.ri P3.out.hid (by omega) P3.out.2.1).mono ?_
    rintro e w4 ⟨t3, rfl, ht3, b4⟩
    have P4 := Lib.hid (P3.out.up b4)
    have B4 : Hid (Below w.heap.size w w4) := Lib.hid (btr B3.out b4)
    have te1 : (t1.toList == t3.toList) = true := by rw [T1.out, ht3]; simp
    clear b4 ht3
    go_wp2_with fail
    refine (specFormatImages P cp np p w4 P4.out.ri P4.out.hid (by omega) P4.out.2.1).mono ?_
    rintro e w5 ⟨t4, rfl, ht4, b5⟩
    have P5 := Lib.hid (P4.out.up b5)
    have B5 : Hid (Below w.heap.size w w5) := Lib.hid (btr B4.out b5)
    have te2 : (t2.toList == t4.toList) = true := by rw [T2.out, ht4]; simp
    clear b5 ht4
    by_cases hp : IsP p
    · have hlp : p.length = np := P5.out.1
      have hfl : (fmtCyc p).length ≤ 82 := fmtCyc_len p
      have hne : fmtCyc p ≠ [] := fun e => fmtCyc_no hp e
      have e1 : (t1.toList == ([] : List UInt8)) = false := by rw [T1.out]; simpa using hne
      have e2 : t1.toList.isEmpty = false := by rw [T1.out]; simpa using hne
      have s1 : t1.size ≤ 82 := by have := len_toList t1; rw [T1.out] at this; omega
      have s2 : t2.size ≤ 200 := by
        have h1 := len_toList t2
        rw [T2.out, show fmtImg p = fmtI p from if_pos (isP_iff.2 hp)] at h1
        have h2 := fmtI_len (isP_pts hp)
        have := hp.le
        omega
      have O1 : Hid (cycO (np : Int) t1 = some p) := Lib.hid (by rw [← hlp]; exact cycO_back hp T1.out)
      have O2 : Hid (imgO t2 = some p) := Lib.hid (imgO_back hp T2.out)
      clear hp hne hfl hlp
      go_wp2_with fail
      refine (implParseCycles0 (np : Int) t1 w5 (by omega)).mono ?_
      rintro e w6 ⟨A6, n6, c6, rfl, s6, l6, b6⟩
      have P6 := Lib.hid (P5.out.up b6)
      have B6 : Hid (Below w.heap.size w w6) := Lib.hid (btr B5.out b6)
      rw [O1.out] at s6 ⊢
      have X6 : Hid (Pm w6 w5.heap.size A6 n6 c6 p) := Lib.hid (Pm.of_slc s6)
      clear b6 s6
      go_wp2_with fail
      refine (implParseImages t2 w6 (by omega)).mono ?_
      rintro e w7 ⟨A7, n7, c7, rfl, s7, l7, b7⟩
      have P7 := Lib.hid (P6.out.up b7)
      have X7 := Lib.hid (X6.out.up b7)
      have B7 : Hid (Below w.heap.size w w7) := Lib.hid (btr B6.out b7)
      rw [O2.out] at s7 ⊢
      have Y7 : Hid (Pm w7 w6.heap.size A7 n7 c7 p) := Lib.hid (Pm.of_slc s7)
      clear b7 s7
      go_wp2_with fail
      refine (quiet_below (likeI_any A6 P c6 cp n6 np p p w7 X7.out.ri P7.out.ri X7.out.hid P7.out.hid (by omega) (by omega))).mono ?_
      rintro e w8 ⟨he8, b8⟩
      have P8 := Lib.hid (P7.out.up b8)
      have Y8 := Lib.hid (Y7.out.up b8)
      have B8 : Hid (Below w.heap.size w w8) := Lib.hid (btr B7.out b8)
      rw [decide_eq_true rfl] at he8
      subst he8
      clear b8
      go_wp2_with fail
      refine (quiet_below (likeI_any A7 P c7 cp n7 np p p w8 Y8.out.ri P8.out.ri Y8.out.hid P8.out.hid (by omega) (by omega))).mono ?_
      rintro e w9 ⟨he9, b9⟩
      have B9 : Hid (Below w.heap.size w w9) := Lib.hid (btr B8.out b9)
      rw [decide_eq_true rfl] at he9
      subst he9
      clear b9
      go_wp2_with fail
      refine (drawPC HC.out len cap A w9 ((HB.out.below B9.out (Nat.le_refl _)).more B9.out.size) hl).mono ?_
      rintro e wa ⟨n, s, rfl, hs, ba⟩
      have Ba : Hid (Below w.heap.size w wa) := Lib.hid (btr B9.out ba)
      clear ba
      rcases ho : cycO n s with _ | r
      · have Ho := Lib.hid ho
        clear ho
        go_wp2_with fail
        refine (implParseCycles0 n s wa (by omega)).mono ?_
        rintro e wb ⟨Ab, nb, cb, rfl, sb, lb, bb⟩
        have Bb : Hid (Below w.heap.size w wb) := Lib.hid (btr Ba.out bb)
        rw [Ho.out]
        clear sb bb
        go_wp2_with fail
        refine (specParseCycles0 n s wb (by omega)).mono ?_
        rintro e wc ⟨Ac, nc, cc, rfl, sc, lc, bc⟩
        have Bc : Hid (Below w.heap.size w wc) := Lib.hid (btr Bb.out bc)
        rw [Ho.out]
        clear sc bc
        go_wp2_with fail
        go_ret
        exact ⟨rfl, Bc.out⟩
      · have Ho := Lib.hid ho
        clear ho
        go_wp2_with fail
        refine (implParseCycles0 n s wa (by omega)).mono ?_
        rintro e wb ⟨Ab, nb, cb, rfl, sb, lb, bb⟩
        have Bb : Hid (Below w.heap.size w wb) := Lib.hid (btr Ba.out bb)
        rw [Ho.out] at sb ⊢
        have Rb := Lib.hid (Pm.of_slc sb)
        clear sb bb
        go_wp2_with fail
        refine (specParseCycles0 n s wb (by omega)).mono ?_
        rintro e wc ⟨Ac, nc, cc, rfl, sc, lc, bc⟩
        have Bc : Hid (Below w.heap.size w wc) := Lib.hid (btr Bb.out bc)
        have Rc := Lib.hid (Rb.out.up bc)
        rw [Ho.out]
        clear sc bc
        go_wp2_with fail
        refine (implFormatCycles Ab cb nb _ wc Rc.out.ri Rc.out.hid (by omega)).mono ?_
        rintro e wd ⟨td, rfl, htd, bd⟩
        have Bd : Hid (Below w.heap.size w wd) := Lib.hid (btr Bc.out bd)
        have ted : (td.toList == s.toList) = true := by rw [htd]; simp [cycO_text Ho.out]
        clear bd htd
        go_wp2_with fail
        go_ret
        exact ⟨rfl, Bd.out⟩
    · have hne : fmtCyc p = [] := Decidable.byContradiction fun e => hp (fmtCyc_ne e)
      have e1 : (t1.toList == ([] : List UInt8)) = true := by rw [T1.out, hne]; rfl
      have e2 : t1.toList.isEmpty = true := by rw [T1.out, hne]; rfl
      clear hp hne
      go_wp2_with fail
      refine (drawPC HC.out len cap A w5 ((HB.out.below B5.out (Nat.le_refl _)).more B5.out.size) hl).mono ?_
      rintro e wa ⟨n, s, rfl, hs, ba⟩
      have Ba : Hid (Below w.heap.size w wa) := Lib.hid (btr B5.out ba)
      clear ba
      rcases ho : cycO n s with _ | r
      · have Ho := Lib.hid ho
        clear ho
        go_wp2_with fail
        refine (implParseCycles0 n s wa (by omega)).mono ?_
        rintro e wb ⟨Ab, nb, cb, rfl, sb, lb, bb⟩
        have Bb : Hid (Below w.heap.size w wb) := Lib.hid (btr Ba.out bb)
        rw [Ho.out]
        clear sb bb
        go_wp2_with fail
        refine (specParseCycles0 n s wb (by omega)).mono ?_
        rintro e wc ⟨Ac, nc, cc, rfl, sc, lc, bc⟩
        have Bc : Hid (Below w.heap.size w wc) := Lib.hid (btr Bb.out bc)
        rw [Ho.out]
        clear sc bc
        go_wp2_with fail
        go_ret
        exact ⟨rfl, Bc.out⟩
      · have Ho := Lib.hid ho
        clear ho
        go_wp2_with fail
        refine (implParseCycles0 n s wa (by omega)).mono ?_
        rintro e wb ⟨Ab, nb, cb, rfl, sb, lb, bb⟩
        have Bb : Hid (Below w.heap.size w wb) := Lib.hid (btr Ba.out bb)
        rw [Ho.out] at sb ⊢
        have Rb := Lib.hid (Pm.of_slc sb)
        clear sb bb
        go_wp2_with fail
        refine (specParseCycles0 n s wb (by omega)).mono ?_
        rintro e wc ⟨Ac, nc, cc, rfl, sc, lc, bc⟩
        have Bc : Hid (Below w.heap.size w wc) := Lib.hid (btr Bb.out bc)
        have Rc := Lib.hid (Rb.out.up bc)
        rw [Ho.out]
        clear sc bc
        go_wp2_with fail
        refine (implFormatCycles Ab cb nb _ wc Rc.out.ri Rc.out.hid (by omega)).mono ?_
        rintro e wd ⟨td, rfl, htd, bd⟩
        have Bd : Hid (Below w.heap.size w wd) := Lib.hid (btr Bc.out bd)
        have ted : (td.toList == s.toList) = true := by rw [htd]; simp [cycO_text Ho.out]
        clear bd htd
        go_wp2_with fail
        go_ret
        exact ⟨rfl, Bd.out⟩
  · go_enter Tryd.func3, Tryd.ntmps3
    go_wp2_with fail
    refine (bigF2 A len cap w (by omega)).mono ?_
    rintro e w0 ⟨rfl, rfl⟩
    go_wp2_with fail
    go_ret
    exact ⟨rfl, Below.refl _ _⟩
end Go.Proofs.YtplgdbkolklgnaaDoor
