/- Part 8 of the texts: WalkC7, GmA, GmB, Less, GmC, PbD, WalkD7, WalkE7. No condition of its own: each text tells its own. -/
import Derived.Test.YtedfcljikgmpgaaMg7
import Derived.Test.YtedfcljikgmpgaaMg6
import Derived.Test.YtedfcljikgmpgaaMg2
import Derived.Test.YtedfcljikgmpgaaMg5
import Derived.Test.YtedfcljikgmpgaaMg1
import Derived.Maps.RangeWalk
import Derived.Shelf.SlSortCmp.Insertion
import Derived.Shelf.SlSortCmp.Whole1
set_option linter.unusedVariables false
set_option linter.unusedSimpArgs false

/- The walk of the law FnExactMinimalBlockSystem: it returns true at every input, and writes nothing that was there. No condition but the program's own contract. -/
namespace Go.Proofs.Ytedfcljikgmpgaa
open Go.RowKit

set_option maxHeartbeats 4000000 in
set_option maxRecDepth 100000 in
/-- The law FnExactMinimalBlockSystem. -/
theorem lawMinimalBlockSystem (IM : CtImiiM 23 IsMin) (i0 : Int) (g1A : Option Addr) (g1n g1c : Nat) (g1v : List SV) (g1x : List (List Int)) (i2 : Int) (i3 : Int) (w : World) (wfi0 : I64 i0) (hg1 : RR w w.heap.size g1A g1n g1v g1x) (hmg1 : g1n ≤ maxLen) (hkg1 : Hid (∀ i, i < g1n → (g1v.getD i sd0).2.1 ≤ maxLen)) (wfi2 : I64 i2) (wfi3 : I64 i3) :
    Calls Try.prog 5 #[.int .i64 i0, .slice g1A g1n g1c, .int .i64 i2, .int .i64 i3] w fun e w' => e = .returned (.bool true) ∧ Below w.heap.size w w' := by
  have Hg1 := Lib.hid hg1
  have hlxg1 := Lib.hid hg1.lx
  have hllg1 := Lib.hid hg1.lens
  clear hg1
  by_cases hT0 : ((g1n + tot g1v g1n : Nat) : Int) ≤ (1048576 : Int)
  · skip
    have HT0 := Lib.hid hT0
    obtain ⟨LE, eLE⟩ : ∃ L : Int, (1048576 : Int) - ((g1n + tot g1v g1n : Nat) : Int) = L := ⟨_, rfl⟩
    have hLE : ¬ LE < 0 := by omega
    have dLE : decide (LE < 0) = false := by simp; omega
    have ELE := Lib.hid eLE
    clear eLE
    have hng1 : g1n ≤ 1048576 := by omega
    have KTg1 : Hid (tot g1v g1n ≤ 1048576) := Lib.hid (by omega)
    have hlg1 : Hid (∀ i, i < g1n → (g1v.getD i sd0).2.1 ≤ 1048576) := Lib.hid fun i hi => by have := tot_row (vs := g1v) hi; have := KTg1.out; omega
    have hylg1 : Hid (∀ i, i < g1n → (g1x.getD i []).length ≤ 1048576) := Lib.hid fun i hi => by rw [hllg1.out i hi]; exact hlg1.out i hi
    clear hT0 
    go_enter Try.func5, Try.ntmps5
    go_wp2_with fail
    have K0 := szSS2 g1A g1n g1c 1048576 g1v g1x w Hg1.out hmg1 hkg1 (by decide) (by decide)
    refine K0.mono ?_
    rintro e w0 ⟨rfl, rfl⟩
    clear K0
    rw [if_pos HT0.out]
    rw [ELE.out]
    go_wp2_with fail
    refine (toSS g1A g1n g1c g1v g1x w Hg1.out hng1 hlg1).mono ?_
    rintro e w1 ⟨A1, c1, us1, rfl, s1, q1, b1⟩
    have Z1 : Hid (w.heap.size ≤ w1.heap.size) := Lib.hid b1.size
    have B1 : Hid (Below w.heap.size w w1) := Lib.hid b1
    have Ftg1_1 := Lib.hid s1
    have Ltg1 : Hid (Lies A1 g1n c1 w.heap.size w1.heap.size) := Lib.hid s1.lt_
    have Itg1 : Hid (∀ t, t < g1n → ∀ k, (sval (us1.getD t sd0)).ownBlock = some k → w.heap.size ≤ k ∧ k < w1.heap.size) := Lib.hid fun t ht => (s1.row t ht).lt_
    have Qtg1 := Lib.hid q1
    have hltg1 : Hid (∀ i, i < g1n → (us1.getD i sd0).2.1 ≤ 1048576) := Lib.hid fun i hi => by rw [q1 i hi]; exact hlg1.out i hi
    clear s1 b1 q1
    go_wp2_with fail
    have K2 := ctMin i0 A1 g1n c1 us1 g1x i2 i3 w1 ⟨Ftg1_1.out.rr, hng1, hltg1.out⟩ wfi0 wfi2 wfi3
    refine K2.mono ?_
    clear K2
    rintro e w2 ⟨A2, n2, c2, us2, z2, rfl, s2, r2, b2⟩
    have m2 : n2 ≤ 1048576 := by have := (boundMin r2).1; have := s2.lx; omega
    have Z2 : Hid (w1.heap.size ≤ w2.heap.size) := Lib.hid b2.size
    have B2 : Hid (Below w.heap.size w w2) := Lib.hid (btr B1.out b2)
    have Ftg1_2 := Lib.hid (Ftg1_1.out.up b2)
    clear Ftg1_1
    have HR := Lib.hid r2
    clear r2
    have FW_2 := Lib.hid s2
    have LW : Hid (Lies A2 n2 c2 w1.heap.size w2.heap.size) := Lib.hid s2.lt_
    have IW : Hid (∀ t, t < n2 → ∀ k, (sval (us2.getD t sd0)).ownBlock = some k → w1.heap.size ≤ k ∧ k < w2.heap.size) := Lib.hid fun t ht => (s2.row t ht).lt_
    clear s2 b2
    clear Ftg1_2
    go_wp2_with fail
    refine (toSS g1A g1n g1c g1v g1x w2 (Hg1.out.up B2.out) hng1 hlg1).mono ?_
    rintro e w3 ⟨A3, c3, us3, rfl, s3, q3, b3⟩
    have Z3 : Hid (w2.heap.size ≤ w3.heap.size) := Lib.hid b3.size
    have B3 : Hid (Below w.heap.size w w3) := Lib.hid (btr B2.out b3)
    have FW_3 := Lib.hid (FW_2.out.up b3)
    clear FW_2
    have Fxg1_3 := Lib.hid s3
    have Lxg1 : Hid (Lies A3 g1n c3 w2.heap.size w3.heap.size) := Lib.hid s3.lt_
    have Ixg1 : Hid (∀ t, t < g1n → ∀ k, (sval (us3.getD t sd0)).ownBlock = some k → w2.heap.size ≤ k ∧ k < w3.heap.size) := Lib.hid fun t ht => (s3.row t ht).lt_
    have Qxg1 := Lib.hid q3
    have hlxg1 : Hid (∀ i, i < g1n → (us3.getD i sd0).2.1 ≤ 1048576) := Lib.hid fun i hi => by rw [q3 i hi]; exact hlg1.out i hi
    clear s3 b3 q3
    go_wp2_with fail
    have K4 := IM i0 A3 g1n c3 us3 g1x i2 i3 w3 ⟨Fxg1_3.out.rr, hng1, hlxg1.out⟩ wfi0 wfi2 wfi3
    refine K4.mono ?_
    clear K4
    rintro e w4 ⟨A4, n4, c4, us4, z4, rfl, s4, r4, b4⟩
    have m4 : n4 ≤ 1048576 := by have := (boundMin r4).1; have := s4.lx; omega
    have Z4 : Hid (w3.heap.size ≤ w4.heap.size) := Lib.hid b4.size
    have B4 : Hid (Below w.heap.size w w4) := Lib.hid (btr B3.out b4)
    have FW_4 := Lib.hid (FW_3.out.up b4)
    clear FW_3
    have Fxg1_4 := Lib.hid (Fxg1_3.out.up b4)
    clear Fxg1_3
    have e4 := HR.out.uniq r4
    subst e4
    clear r4
    have FG_4 := Lib.hid s4
    have LG : Hid (Lies A4 n4 c4 w3.heap.size w4.heap.size) := Lib.hid s4.lt_
    have IG : Hid (∀ t, t < n4 → ∀ k, (sval (us4.getD t sd0)).ownBlock = some k → w3.heap.size ≤ k ∧ k < w4.heap.size) := Lib.hid fun t ht => (s4.row t ht).lt_
    clear s4 b4
    go_wp2_with fail
    refine (eqRR_same A4 A2 n4 c4 n2 c2 us4 us2 _ w4 FG_4.out.rr FW_4.out.rr (by omega) (Lib.hid fun i hi => (boundMin HR.out).2.1 i (by rw [FG_4.out.lx]; exact hi))).mono ?_
    rintro e w5 ⟨rfl, b5⟩
    have Z5 : Hid (w4.heap.size ≤ w5.heap.size) := Lib.hid b5.size
    have B5 : Hid (Below w.heap.size w w5) := Lib.hid (btr B4.out b5)
    have FW_5 := Lib.hid (FW_4.out.up b5)
    clear FW_4
    have Fxg1_5 := Lib.hid (Fxg1_4.out.up b5)
    clear Fxg1_4
    have FG_5 := Lib.hid (FG_4.out.up b5)
    clear FG_4
    clear b5
    go_wp2_with fail
    refine (toSS g1A g1n g1c g1v g1x w5 (Hg1.out.up B5.out) hng1 hlg1).mono ?_
    rintro e w6 ⟨A6, c6, us6, rfl, s6, q6, b6⟩
    have Z6 : Hid (w5.heap.size ≤ w6.heap.size) := Lib.hid b6.size
    have B6 : Hid (Below w.heap.size w w6) := Lib.hid (btr B5.out b6)
    have FW_6 := Lib.hid (FW_5.out.up b6)
    clear FW_5
    have Fxg1_6 := Lib.hid (Fxg1_5.out.up b6)
    clear Fxg1_5
    have FG_6 := Lib.hid (FG_5.out.up b6)
    clear FG_5
    have Fyg1_6 := Lib.hid s6
    have Lyg1 : Hid (Lies A6 g1n c6 w5.heap.size w6.heap.size) := Lib.hid s6.lt_
    have Iyg1 : Hid (∀ t, t < g1n → ∀ k, (sval (us6.getD t sd0)).ownBlock = some k → w5.heap.size ≤ k ∧ k < w6.heap.size) := Lib.hid fun t ht => (s6.row t ht).lt_
    have Qyg1 := Lib.hid q6
    have hlyg1 : Hid (∀ i, i < g1n → (us6.getD i sd0).2.1 ≤ 1048576) := Lib.hid fun i hi => by rw [q6 i hi]; exact hlg1.out i hi
    clear s6 b6 q6
    go_wp2_with fail
    refine (eqRR_same A3 A6 g1n c3 g1n c6 us3 us6 _ w6 Fxg1_6.out.rr Fyg1_6.out.rr (by omega) hylg1).mono ?_
    rintro e w7 ⟨rfl, b7⟩
    have Z7 : Hid (w6.heap.size ≤ w7.heap.size) := Lib.hid b7.size
    have B7 : Hid (Below w.heap.size w w7) := Lib.hid (btr B6.out b7)
    have FW_7 := Lib.hid (FW_6.out.up b7)
    clear FW_6
    have Fxg1_7 := Lib.hid (Fxg1_6.out.up b7)
    clear Fxg1_6
    have FG_7 := Lib.hid (FG_6.out.up b7)
    clear FG_6
    have Fyg1_7 := Lib.hid (Fyg1_6.out.up b7)
    clear Fyg1_6
    clear b7
    clear Fyg1_7
    have KTx : Hid (tot us3 g1n ≤ 1048576) := Lib.hid (by rw [tot_eq g1n Qxg1.out]; exact KTg1.out)
    go_wp2_with fail
    refine (markSS A3 g1n c3 _ _ us3 _ w7 Fxg1_7.out (by omega) KTx).mono ?_
    rintro e w8 ⟨rfl, s8, o8⟩
    have Z8 : Hid (w7.heap.size ≤ w8.heap.size) := Lib.hid o8.size
    have B8 : Hid (Below w.heap.size w w8) := Lib.hid (B7.out.trans (o8.below B7.out.size (fun t ht k e => by have h2 := Ixg1.out t ht k e; have := Z1.out; have := Z2.out; have := Z3.out; have := Z4.out; have := Z5.out; have := Z6.out; have := Z7.out; have := Z8.out; omega)))
    have FW_8 := Lib.hid (FW_7.out.only2 o8 (fun k hk t ht e => by have h1 := LW.out k hk; have h2 := Ixg1.out t ht k e; have := Z1.out; have := Z2.out; have := Z3.out; have := Z4.out; have := Z5.out; have := Z6.out; have := Z7.out; have := Z8.out; omega) (fun s hs k hk t ht e => by have h1 := IW.out s hs k hk; have h2 := Ixg1.out t ht k e; have := Z1.out; have := Z2.out; have := Z3.out; have := Z4.out; have := Z5.out; have := Z6.out; have := Z7.out; have := Z8.out; omega))
    clear FW_7
    have Fxg1_8 := Lib.hid s8
    clear Fxg1_7
    have FG_8 := Lib.hid (FG_7.out.only2 o8 (fun k hk t ht e => by have h1 := LG.out k hk; have h2 := Ixg1.out t ht k e; have := Z1.out; have := Z2.out; have := Z3.out; have := Z4.out; have := Z5.out; have := Z6.out; have := Z7.out; have := Z8.out; omega) (fun s hs k hk t ht e => by have h1 := IG.out s hs k hk; have h2 := Ixg1.out t ht k e; have := Z1.out; have := Z2.out; have := Z3.out; have := Z4.out; have := Z5.out; have := Z6.out; have := Z7.out; have := Z8.out; omega))
    clear FG_7
    clear s8 o8
    obtain ⟨T, eT⟩ : ∃ T, tot us3 g1n = T := ⟨_, rfl⟩
    have hT9 : T ≤ 1048576 := by rw [← eT]; exact KTx.out
    rw [eT]
    clear eT
    go_wp2_with fail
    refine (eqRR_same A4 A2 n4 c4 n2 c2 us4 us2 _ w8 FG_8.out.rr FW_8.out.rr (by omega) (Lib.hid fun i hi => (boundMin HR.out).2.1 i (by rw [FG_8.out.lx]; exact hi))).mono ?_
    rintro e w9 ⟨rfl, b9⟩
    have Z9 : Hid (w8.heap.size ≤ w9.heap.size) := Lib.hid b9.size
    have B9 : Hid (Below w.heap.size w w9) := Lib.hid (btr B8.out b9)
    have FW_9 := Lib.hid (FW_8.out.up b9)
    clear FW_8
    have Fxg1_9 := Lib.hid (Fxg1_8.out.up b9)
    clear Fxg1_8
    have FG_9 := Lib.hid (FG_8.out.up b9)
    clear FG_8
    clear b9
    clear Fxg1_9
    have KG : Hid (tot us4 n4 ≤ 1048576) := Lib.hid (by
      have h9 := (boundMin HR.out).2.2
      rw [FG_9.out.tot_sum]; exact h9)
    go_wp2_with fail
    refine (markSS A4 n4 c4 _ _ us4 _ w9 FG_9.out (by omega) KG).mono ?_
    rintro e w10 ⟨rfl, s10, o10⟩
    have Z10 : Hid (w9.heap.size ≤ w10.heap.size) := Lib.hid o10.size
    have B10 : Hid (Below w.heap.size w w10) := Lib.hid (B9.out.trans (o10.below B9.out.size (fun t ht k e => by have h2 := IG.out t ht k e; have := Z1.out; have := Z2.out; have := Z3.out; have := Z4.out; have := Z5.out; have := Z6.out; have := Z7.out; have := Z8.out; have := Z9.out; have := Z10.out; omega)))
    have FW_10 := Lib.hid (FW_9.out.only2 o10 (fun k hk t ht e => by have h1 := LW.out k hk; have h2 := IG.out t ht k e; have := Z1.out; have := Z2.out; have := Z3.out; have := Z4.out; have := Z5.out; have := Z6.out; have := Z7.out; have := Z8.out; have := Z9.out; have := Z10.out; omega) (fun s hs k hk t ht e => by have h1 := IW.out s hs k hk; have h2 := IG.out t ht k e; have := Z1.out; have := Z2.out; have := Z3.out; have := Z4.out; have := Z5.out; have := Z6.out; have := Z7.out; have := Z8.out; have := Z9.out; have := Z10.out; omega))
    clear FW_9
    have FG_10 := Lib.hid s10
    clear FG_9
    clear s10 o10
    obtain ⟨U, eU⟩ : ∃ U, tot us4 n4 = U := ⟨_, rfl⟩
    have EU := Lib.hid eU
    have hU9 : U ≤ 1048576 := by rw [← eU]; exact KG.out
    rw [eU]
    clear eU
    go_wp2_with fail
    refine (heldSS A4 n4 c4 _ _ us4 w10 FG_10.out (by omega) KG).mono ?_
    rintro e w' ⟨rfl, rfl⟩
    rw [EU.out]
    go_wp2_with fail
    refine (toSS g1A g1n g1c g1v g1x w10 (Hg1.out.up B10.out) hng1 hlg1).mono ?_
    rintro e w11 ⟨A11, c11, us11, rfl, s11, q11, b11⟩
    have Z11 : Hid (w10.heap.size ≤ w11.heap.size) := Lib.hid b11.size
    have B11 : Hid (Below w.heap.size w w11) := Lib.hid (btr B10.out b11)
    have FW_11 := Lib.hid (FW_10.out.up b11)
    clear FW_10
    have FG_11 := Lib.hid (FG_10.out.up b11)
    clear FG_10
    have Fzg1_11 := Lib.hid s11
    have Lzg1 : Hid (Lies A11 g1n c11 w10.heap.size w11.heap.size) := Lib.hid s11.lt_
    have Izg1 : Hid (∀ t, t < g1n → ∀ k, (sval (us11.getD t sd0)).ownBlock = some k → w10.heap.size ≤ k ∧ k < w11.heap.size) := Lib.hid fun t ht => (s11.row t ht).lt_
    have Qzg1 := Lib.hid q11
    have hlzg1 : Hid (∀ i, i < g1n → (us11.getD i sd0).2.1 ≤ 1048576) := Lib.hid fun i hi => by rw [q11 i hi]; exact hlg1.out i hi
    clear s11 b11 q11
    go_wp2_with fail
    have K12 := IM i0 A11 g1n c11 us11 g1x i2 i3 w11 ⟨Fzg1_11.out.rr, hng1, hlzg1.out⟩ wfi0 wfi2 wfi3
    refine K12.mono ?_
    clear K12
    rintro e w12 ⟨A12, n12, c12, us12, z12, rfl, s12, r12, b12⟩
    have m12 : n12 ≤ 1048576 := by have := (boundMin r12).1; have := s12.lx; omega
    have Z12 : Hid (w11.heap.size ≤ w12.heap.size) := Lib.hid b12.size
    have B12 : Hid (Below w.heap.size w w12) := Lib.hid (btr B11.out b12)
    have FW_12 := Lib.hid (FW_11.out.up b12)
    clear FW_11
    have FG_12 := Lib.hid (FG_11.out.up b12)
    clear FG_11
    have Fzg1_12 := Lib.hid (Fzg1_11.out.up b12)
    clear Fzg1_11
    have e12 := HR.out.uniq r12
    subst e12
    clear r12
    have FH_12 := Lib.hid s12
    have LH : Hid (Lies A12 n12 c12 w11.heap.size w12.heap.size) := Lib.hid s12.lt_
    have IH : Hid (∀ t, t < n12 → ∀ k, (sval (us12.getD t sd0)).ownBlock = some k → w11.heap.size ≤ k ∧ k < w12.heap.size) := Lib.hid fun t ht => (s12.row t ht).lt_
    clear s12 b12
    clear Fzg1_12
    go_wp2_with fail
    refine (eqRR_same A12 A2 n12 c12 n2 c2 us12 us2 _ w12 FH_12.out.rr FW_12.out.rr (by omega) (Lib.hid fun i hi => (boundMin HR.out).2.1 i (by rw [FH_12.out.lx]; exact hi))).mono ?_
    rintro e w13 ⟨rfl, b13⟩
    have Z13 : Hid (w12.heap.size ≤ w13.heap.size) := Lib.hid b13.size
    have B13 : Hid (Below w.heap.size w w13) := Lib.hid (btr B12.out b13)
    have FW_13 := Lib.hid (FW_12.out.up b13)
    clear FW_12
    have FG_13 := Lib.hid (FG_12.out.up b13)
    clear FG_12
    have FH_13 := Lib.hid (FH_12.out.up b13)
    clear FH_12
    clear b13
    go_wp2_with fail
    refine (heldSS A4 n4 c4 _ _ us4 w13 FG_13.out (by omega) KG).mono ?_
    rintro e w' ⟨rfl, rfl⟩
    rw [EU.out]
    go_wp2_with fail
    go_ret
    exact ⟨rfl, B13.out⟩
  · skip
    have HT0 := Lib.hid hT0
    clear hT0
    go_enter Try.func5, Try.ntmps5
    go_wp2_with fail
    have K0 := szSS2 g1A g1n g1c 1048576 g1v g1x w Hg1.out hmg1 hkg1 (by decide) (by decide)
    refine K0.mono ?_
    rintro e w0 ⟨rfl, rfl⟩
    clear K0
    rw [if_neg (Int.not_le.2 HT0.out)]
    go_wp2
    go_ret
    exact ⟨rfl, Below.refl _ _⟩
end Go.Proofs.Ytedfcljikgmpgaa

/- A map of rows, each under its first number; sets gathers such a map. Conditions: at most 20 points. -/
namespace Go.Proofs.Ytedfcljikgmpgaa
open Go.RowKit

/-- An element of the map reads as itself. -/
def Rx (v : Value) : Option (DataW Value × List MemPlace) := some (.held v, [])
/-- The first number. -/
def hdN (p : List Int) : Nat := (p.getD 0 0).toNat
/-- Rows that are not empty, with first numbers below N, no two alike. -/
structure Rws (N : Nat) (S : List Int → Prop) : Prop where
  ne : ∀ p, S p → p ≠ []
  lo : ∀ p, S p → 0 ≤ p.getD 0 0
  hi : ∀ p, S p → p.getD 0 0 < N
  len : ∀ p, S p → p.length ≤ N
  inj : ∀ p q, S p → S q → p.getD 0 0 = q.getD 0 0 → p = q
/-- Block b is a map of the rows that S tells of, each under its first number. -/
structure GM (w : World) (bs b N : Nat) (S : List Int → Prop) (D : DataW Value) : Prop where
  own : w.ownsMap Try.prog 2 Rx b (Maps.size D) D
  rs : Rws N S
  has : ∀ p, S p → Maps.has D (kI (hdN p)) = true
  key : ∀ kl, Maps.has D kl = true → ∃ p, S p ∧ kl = kI (hdN p)
  row : ∀ p, S p → ∃ (A : Option Addr) (cp : Nat), (∀ zd, D.atKey (kI (hdN p)) zd = .held (.slice A p.length cp)) ∧ Slc w bs A p.length cp p
theorem Rws.hdN {N : Nat} {S : List Int → Prop} (h : Rws N S) {p : List Int} (hp : S p) : hdN p < N ∧ (hdN p : Int) = p.getD 0 0 := by
  have h1 := h.lo p hp
  have h2 := h.hi p hp
  unfold Proofs.Ytedfcljikgmpgaa.hdN
  omega
theorem Rws.hinj {N : Nat} {S : List Int → Prop} (h : Rws N S) {p q : List Int} (hp : S p) (hq : S q) (e : Proofs.Ytedfcljikgmpgaa.hdN p = Proofs.Ytedfcljikgmpgaa.hdN q) : p = q :=
  h.inj p q hp hq (by rw [← (h.hdN hp).2, ← (h.hdN hq).2, e])
theorem Rws.pos {N : Nat} {S : List Int → Prop} (h : Rws N S) {p : List Int} (hp : S p) : 1 ≤ p.length := List.length_pos_iff.2 (h.ne p hp)
/-- Two rows in one block begin alike. -/
theorem slc_hd {w : World} {bs n n' c c' : Nat} {A A' : Option Addr} {p q : List Int} (hp : Slc w bs A n c p) (hq : Slc w bs A' n' c' q) (np : 1 ≤ p.length) (nq : 1 ≤ q.length) (e : (Value.slice A n c).ownBlock = (Value.slice A' n' c').ownBlock) : p.getD 0 0 = q.getD 0 0 := by
  rcases hp.at_ with ⟨_, e0, _⟩ | ⟨g, rfl, _⟩
  · rw [e0] at np; simp at np
  · rcases hq.at_ with ⟨_, e0, _⟩ | ⟨g', rfl, _⟩
    · rw [e0] at nq; simp at nq
    · have e1 : g = g' := by
        have e2 : (some g : Option Nat) = some g' := e
        injection e2
      subst e1
      obtain ⟨b, off, e2, _, h1⟩ := hp.ri_ np
      obtain ⟨b', off', e3, _, h2⟩ := hq.ri_ nq
      injection e2 with e2; injection e2 with e4 e5
      injection e3 with e3; injection e3 with e6 e7
      subst e4 e5 e6 e7
      have := (h1 0 np).symm.trans (h2 0 nq)
      injection this with this
      injection this
theorem slc_blk {w : World} {bs k n cp : Nat} {A : Option Addr} {p : List Int} (hs : Slc w bs A n cp p) (hb : ∀ cs t fr, w.heap[k]? ≠ some (.cells cs t fr)) : (Value.slice A n cp).ownBlock ≠ some k := by
  rcases hs.2.2 with ⟨e, _⟩ | ⟨g, cap, cur, e, _, hg, _⟩
  · rw [e]; exact fun h => by cases h
  · rw [e]
    intro h
    have h2 : g = k := by injection h
    rw [h2] at hg
    exact hb _ _ _ hg

section
variable {w w' w1 w2 : World} {bs b N : Nat} {S : List Int → Prop} {D : DataW Value}
theorem GM.lt (h : GM w bs b N S D) : b < w.heap.size := h.own.lt
theorem GM.size (h : GM w bs b N S D) : Maps.size D ≤ N := by
  have := sizeI_le h.own ((List.range N).map kI) fun kl hk => by
    obtain ⟨p, hp, rfl⟩ := h.key kl hk
    exact List.mem_map.2 ⟨hdN p, List.mem_range.2 (h.rs.hdN hp).1, rfl⟩
  simpa using this
theorem GM.noCells (h : GM w bs b N S D) : ∀ cs t fr, w.heap[b]? ≠ some (.cells cs t fr) := by
  obtain ⟨es, clock, hb, _⟩ := h.own
  intro cs t fr e
  rw [hb] at e
  cases e
theorem GM.kept (h : GM w bs b N S D) {row : Option Nat} (hg : w.grownBy w' row) (hne : some b ≠ row) (hr : ∀ A n cp p, Slc w bs A n cp p → (Value.slice A n cp).ownBlock = none ∨ (Value.slice A n cp).ownBlock ≠ row) : GM w' bs b N S D :=
  ⟨h.own.kept hg hne, h.rs, h.has, h.key, fun p hp => by
    obtain ⟨A, cp, h1, h2⟩ := h.row p hp
    exact ⟨A, cp, h1, h2.kept hg (hr A _ cp p h2)⟩⟩
theorem GM.gro0 (h : GM w bs b N S D) (hg : w.grownBy w' none) : GM w' bs b N S D :=
  h.kept hg (by simp) fun A n cp p hs => by
    cases hq : (Value.slice A n cp).ownBlock with
    | none => exact .inl rfl
    | some k => exact .inr (by simp)
theorem GM.up (h : GM w bs b N S D) (hb : Below w.heap.size w w') : GM w' bs b N S D := h.gro0 (grown_ofBelow hb)
theorem GM.mono (h : GM w bs b N S D) {bs' : Nat} (hb : bs' ≤ bs) : GM w bs' b N S D :=
  ⟨h.own, h.rs, h.has, h.key, fun p hp => by
    obtain ⟨A, cp, h1, h2⟩ := h.row p hp
    exact ⟨A, cp, h1, h2.mono hb⟩⟩
theorem GM.ext {S' : List Int → Prop} (h : GM w bs b N S D) (hS : ∀ p, S p ↔ S' p) : GM w bs b N S' D := by
  obtain rfl : S = S' := funext fun p => propext (hS p)
  exact h
theorem GM.made (w : World) (bs N : Nat) : GM (w.alloc (.map #[] 0)) bs w.heap.size N (fun _ => False) (.map []) :=
  ⟨World.ownsMap_made _ _ _ _, ⟨fun _ h => h.elim, fun _ h => h.elim, fun _ h => h.elim, fun _ h => h.elim, fun _ _ h => h.elim⟩, fun _ (h : False) => h.elim, fun _ h => (by cases h), fun _ (h : False) => h.elim⟩
/-- One more number behind row p. -/
theorem GM.more (h : GM w bs b N S D) (hN : N ≤ 20) {p : List Int} {x : Int} {A A' : Option Addr} {cp c' n : Nat} (hp : S p) (hl : p.length < N) (hA : ∀ zd, D.atKey (kI (hdN p)) zd = .held (.slice A p.length cp)) (hsp : Slc w bs A p.length cp p) (hs : Slc w1 bs A' (p.length + 1) c' (p ++ [x]))
    (hg1 : w.grownBy w1 (Value.slice A p.length cp).ownBlock) (hg2 : w1.grownBy w2 (some b)) (ho : w2.ownsMap Try.prog 2 Rx b n (D.put (kI (hdN p)) (.held (.slice A' (p.length + 1) c')))) :
    GM w2 bs b N (fun q => (S q ∧ q ≠ p) ∨ q = p ++ [x]) (D.put (kI (hdN p)) (.held (.slice A' (p.length + 1) c'))) := by
  have hM := h.own.isMap
  have hk := kI_key (x := hdN p) (by have := (h.rs.hdN hp).1; omega)
  have hp1 := h.rs.pos hp
  have e0 : (p ++ [x]).getD 0 0 = p.getD 0 0 := getD_app _ _ _ _ hp1
  have eh : hdN (p ++ [x]) = hdN p := by unfold hdN; rw [e0]
  have hb1 : ∀ cs t fr, w1.heap[b]? ≠ some (.cells cs t fr) := fun cs t fr e => by
    have hne : some b ≠ (Value.slice A p.length cp).ownBlock := fun e2 => slc_blk hsp h.noCells e2.symm
    rw [hg1.block b h.lt hne] at e
    exact h.noCells _ _ _ e
  have hlen : (p ++ [x]).length = p.length + 1 := by simp
  refine ⟨ownsMap_tightI ho, ⟨fun q hq => ?_, fun q hq => ?_, fun q hq => ?_, fun q hq => ?_, fun q q' hq hq' e => ?_⟩, fun q hq => ?_, fun kl hkl => ?_, fun q hq => ?_⟩
  · rcases hq with hq | rfl
    · exact h.rs.ne q hq.1
    · simp
  · rcases hq with hq | rfl
    · exact h.rs.lo q hq.1
    · rw [e0]; exact h.rs.lo p hp
  · rcases hq with hq | rfl
    · exact h.rs.hi q hq.1
    · rw [e0]; exact h.rs.hi p hp
  · rcases hq with hq | rfl
    · exact h.rs.len q hq.1
    · rw [hlen]; omega
  · rcases hq with hq | rfl <;> rcases hq' with hq' | rfl
    · exact h.rs.inj q q' hq.1 hq'.1 e
    · rw [e0] at e; exact absurd (h.rs.inj q p hq.1 hp e) hq.2
    · rw [e0] at e; exact absurd (h.rs.inj p q' hp hq'.1 e).symm hq'.2
    · rfl
  · rcases hq with hq | rfl
    · rw [Maps.has_put_other (fun he => hq.2 (h.rs.hinj hq.1 hp (kI_inj he)))]; exact h.has q hq.1
    · rw [eh]; exact Maps.has_put_same hM hk _
  · by_cases e : kl = kI (hdN p)
    · exact ⟨p ++ [x], .inr rfl, by rw [eh]; exact e⟩
    · rw [Maps.has_put_other e] at hkl
      obtain ⟨q, hq, rfl⟩ := h.key kl hkl
      exact ⟨q, .inl ⟨hq, fun e2 => e (by rw [e2])⟩, rfl⟩
  · rcases hq with hq | rfl
    · obtain ⟨Aq, cq, h1, h2⟩ := h.row q hq.1
      have hne : (Value.slice Aq q.length cq).ownBlock ≠ (Value.slice A p.length cp).ownBlock := fun e => hq.2 (h.rs.inj q p hq.1 hp (slc_hd h2 hsp (h.rs.pos hq.1) hp1 e))
      have h3 := h2.kept hg1 (.inr hne)
      refine ⟨Aq, cq, fun zd => ?_, h3.kept hg2 (.inr (slc_blk h3 hb1))⟩
      rw [Maps.atKey_put_other (fun he => hq.2 (h.rs.hinj hq.1 hp (kI_inj he)))]; exact h1 zd
    · refine ⟨A', c', fun zd => ?_, ?_⟩
      · rw [eh, hlen]; exact Maps.atKey_put_same hM hk _ zd
      · rw [hlen]; exact hs.kept hg2 (.inr (slc_blk hs hb1))
/-- A new row. -/
theorem GM.fresh (h : GM w bs b N S D) (hN : N ≤ 20) {x : Nat} {A' : Option Addr} {c' n : Nat} (hx : x < N) (hn : ∀ q, S q → hdN q ≠ x) (hs : Slc w1 bs A' 1 c' [(x : Int)])
    (hg1 : w.grownBy w1 none) (hg2 : w1.grownBy w2 (some b)) (ho : w2.ownsMap Try.prog 2 Rx b n (D.put (kI x) (.held (.slice A' 1 c')))) :
    GM w2 bs b N (fun q => S q ∨ q = [(x : Int)]) (D.put (kI x) (.held (.slice A' 1 c'))) := by
  have hM := h.own.isMap
  have hk := kI_key (x := x) (by omega)
  have eh : hdN [(x : Int)] = x := by unfold hdN; simp
  have hb1 : ∀ cs t fr, w1.heap[b]? ≠ some (.cells cs t fr) := fun cs t fr e => by
    rw [hg1.block b h.lt (by simp)] at e
    exact h.noCells _ _ _ e
  refine ⟨ownsMap_tightI ho, ⟨fun q hq => ?_, fun q hq => ?_, fun q hq => ?_, fun q hq => ?_, fun q q' hq hq' e => ?_⟩, fun q hq => ?_, fun kl hkl => ?_, fun q hq => ?_⟩
  · rcases hq with hq | rfl
    · exact h.rs.ne q hq
    · simp
  · rcases hq with hq | rfl
    · exact h.rs.lo q hq
    · simp
  · rcases hq with hq | rfl
    · exact h.rs.hi q hq
    · simp; omega
  · rcases hq with hq | rfl
    · exact h.rs.len q hq
    · simp; omega
  · rcases hq with hq | rfl <;> rcases hq' with hq' | rfl
    · exact h.rs.inj q q' hq hq' e
    · exact absurd (by unfold hdN; rw [e]; simp) (hn q hq)
    · exact absurd (by unfold hdN; rw [← e]; simp) (hn q' hq')
    · rfl
  · rcases hq with hq | rfl
    · rw [Maps.has_put_other (fun he => hn q hq (kI_inj he))]; exact h.has q hq
    · rw [eh]; exact Maps.has_put_same hM hk _
  · by_cases e : kl = kI x
    · exact ⟨[(x : Int)], .inr rfl, by rw [eh]; exact e⟩
    · rw [Maps.has_put_other e] at hkl
      obtain ⟨q, hq, rfl⟩ := h.key kl hkl
      exact ⟨q, .inl hq, rfl⟩
  · rcases hq with hq | rfl
    · obtain ⟨Aq, cq, h1, h2⟩ := h.row q hq
      have h3 := h2.kept hg1 (by
        cases hq' : (Value.slice Aq q.length cq).ownBlock with
        | none => exact .inl rfl
        | some k => exact .inr (by simp))
      refine ⟨Aq, cq, fun zd => ?_, h3.kept hg2 (.inr (slc_blk h3 hb1))⟩
      rw [Maps.atKey_put_other (fun he => hn q hq (kI_inj he))]; exact h1 zd
    · refine ⟨A', c', fun zd => ?_, hs.kept hg2 (.inr (slc_blk hs hb1))⟩
      rw [eh]; exact Maps.atKey_put_same hM hk _ zd

/-- The look-up of a row. -/
theorem wpList_gmLook {ops : Array Oper} {rest : List Oper} {o : Oper} {a : Act} {Q : Exit → Act → World → Prop} (hgd : o.guard = none) (m x : Operand) (ho : o.op = .lookup 81 m x false) (h : GM w bs b N S D)
    (hm : a.eval m = .map (some b)) (X : Nat) (hx : a.eval x = .int .i64 (X : Int)) (hX : X < N) (hN : N ≤ 20) (v : Value) (hv : D.atKey (kI X) (.held (.slice none 0 0)) = .held v) (hK : wpList Try.prog ops Q rest (a.put o.dst v) w) : wpList Try.prog ops Q (o :: rest) a w := by
  refine wpList_plain hgd fun K' hK' => ?_
  obtain ⟨v', ps, hrun, hv'⟩ := h.own.lookup lawI Try.underlying81 (Try.zeroValue48 w) (zd := .held (.slice none 0 0)) (zp := []) rfl (keyOf_I (x := X) (by omega))
  rw [hv] at hv'
  have e : v' = v := DataW.held.inj (congrArg Prod.fst (Option.some.inj hv'))
  rw [e] at hrun
  clear hv' e
  unfold Oper.wp
  simp only [execOp, ho, hm, hx, hrun, Sem.run_bind, Sem.run_pure, Result.andThen]
  exact hK' _ _ hK
end

/-! ### the sets, gathered -/
/-- The rows behind the points below t. -/
def Gth (N : Nat) (f : Nat → Option Nat) (t : Nat) (p : List Int) : Prop := ∃ l, l < N ∧ f l = none ∧ p = ptsL (fun y => decide (rt f y = l)) t ∧ p ≠ []
section
variable {N t : Nat} {f : Nat → Option Nat}
theorem gth_zero (p : List Int) : ¬ Gth N f 0 p := fun ⟨l, _, _, e, hn⟩ => hn (by rw [e]; rfl)
theorem gth_mem {l : Nat} {x : Int} : x ∈ ptsL (fun y => decide (rt f y = l)) t ↔ ∃ y : Nat, y < t ∧ x = (y : Int) ∧ rt f y = l := by
  rw [mem_ptsL]; simp
theorem gth_hd (h : Lnk N f) {l : Nat} (fl : f l = none) (hn : ptsL (fun y => decide (rt f y = l)) t ≠ []) : l < t ∧ (ptsL (fun y => decide (rt f y = l)) t).getD 0 0 = (l : Int) := by
  obtain ⟨x, hx⟩ := List.exists_mem_of_ne_nil _ hn
  obtain ⟨y, hy, rfl, e⟩ := gth_mem.1 hx
  have h1 := rt_le h y
  have hlt : l < t := by omega
  refine ⟨hlt, hd_sorted (ptsL_sorted _ _) (gth_mem.2 ⟨l, hlt, rfl, rt_none fl⟩) fun z hz => ?_⟩
  obtain ⟨y', _, rfl, e'⟩ := gth_mem.1 hz
  have := rt_le h y'
  omega
theorem gth_yes {l : Nat} (e : rt f t = l) : ptsL (fun y => decide (rt f y = l)) (t + 1) = ptsL (fun y => decide (rt f y = l)) t ++ [(t : Int)] := ptsL_yes (by simpa using e)
theorem gth_no {l : Nat} (e : rt f t ≠ l) : ptsL (fun y => decide (rt f y = l)) (t + 1) = ptsL (fun y => decide (rt f y = l)) t := ptsL_no (by simpa using e)
theorem gth_more (h : Lnk N f) (ht : t < N) (hn : ptsL (fun y => decide (rt f y = rt f t)) t ≠ []) (p : List Int) :
    ((Gth N f t p ∧ p ≠ ptsL (fun y => decide (rt f y = rt f t)) t) ∨ p = ptsL (fun y => decide (rt f y = rt f t)) t ++ [(t : Int)]) ↔ Gth N f (t + 1) p := by
  have hr := rt_root h t
  have hl := rt_le h t
  constructor
  · rintro (⟨⟨l, h1, h2, rfl, h4⟩, hne⟩ | rfl)
    · have hl' : rt f t ≠ l := fun e => hne (by rw [e])
      exact ⟨l, h1, h2, (gth_no hl').symm, h4⟩
    · exact ⟨rt f t, by omega, hr, (gth_yes rfl).symm, by simp⟩
  · rintro ⟨l, h1, h2, rfl, h4⟩
    by_cases e : rt f t = l
    · subst e
      exact .inr (gth_yes rfl)
    · rw [gth_no e] at h4 ⊢
      refine .inl ⟨⟨l, h1, h2, rfl, h4⟩, fun e2 => e ?_⟩
      have a1 := (gth_hd h h2 h4).2
      have a2 := (gth_hd h hr hn).2
      rw [e2] at a1
      omega
theorem gth_new (h : Lnk N f) (ht : t < N) (hn : ptsL (fun y => decide (rt f y = rt f t)) t = []) : rt f t = t ∧ ∀ p, (Gth N f t p ∨ p = [(t : Int)]) ↔ Gth N f (t + 1) p := by
  have hr := rt_root h t
  have hl := rt_le h t
  have e0 : rt f t = t := by
    refine Classical.byContradiction fun hne => ?_
    have : (rt f t : Int) ∈ ptsL (fun y => decide (rt f y = rt f t)) t := gth_mem.2 ⟨rt f t, by omega, rfl, rt_rt h t⟩
    rw [hn] at this; cases this
  refine ⟨e0, fun p => ?_⟩
  constructor
  · rintro (⟨l, h1, h2, rfl, h4⟩ | rfl)
    · have hl' : rt f t ≠ l := fun e => by
        rw [← e, hn] at h4; exact h4 rfl
      exact ⟨l, h1, h2, (gth_no hl').symm, h4⟩
    · exact ⟨rt f t, by omega, hr, by rw [gth_yes rfl, hn]; rfl, by simp⟩
  · rintro ⟨l, h1, h2, rfl, h4⟩
    by_cases e : rt f t = l
    · subst e
      exact .inr (by rw [gth_yes rfl, hn]; rfl)
    · rw [gth_no e] at h4 ⊢
      exact .inl ⟨l, h1, h2, rfl, h4⟩
theorem gth_all (h : Lnk N f) (p : List Int) : Gth N f N p ↔ p ∈ canon N (rt f) := by
  rw [mem_canon]
  constructor
  · rintro ⟨l, h1, h2, rfl, h4⟩
    exact ⟨l, h1, (rt_fst h).2 h2, by unfold blkL; rw [rt_none h2]⟩
  · rintro ⟨l, h1, h2, rfl⟩
    have h3 := (rt_fst h).1 h2
    refine ⟨l, h1, h3, by unfold blkL; rw [rt_none h3], fun e => ?_⟩
    have : (l : Int) ∈ blkL (rt f) N l := mem_blkL.2 ⟨l, h1, rfl, rfl⟩
    rw [e] at this; cases this
end
end Go.Proofs.Ytedfcljikgmpgaa

/- The values of a map of rows, collected: a range over the iterator that maps.Values makes. Conditions: at most 20 points. -/
namespace Go.Proofs.Ytedfcljikgmpgaa
open Go.RowKit
open Go.WideElems (rg_of rd_key)
attribute [local go_sem] Oper.semAt_some

theorem nodup_snocI {α : Type} {xs : List α} {x : α} (h : xs.Nodup) (hx : x ∉ xs) : (xs ++ [x]).Nodup := by
  rw [List.nodup_append]
  exact ⟨h, (by simp), fun a ha b hb => by rw [List.mem_singleton.1 hb]; rintro rfl; exact hx ha⟩
theorem Rws.few {N : Nat} {S : List Int → Prop} (h : Rws N S) {xs : List (List Int)} (hd : xs.Nodup) (hm : ∀ p, p ∈ xs → S p) : xs.length ≤ N := by
  have hn : (xs.map Proofs.Ytedfcljikgmpgaa.hdN).Nodup := by
    rw [List.Nodup, List.pairwise_map]
    exact List.Pairwise.imp_of_mem (fun {a b} ha hb hab e => hab (h.hinj (hm a ha) (hm b hb) e)) hd
  have := ndlen N _ hn fun y hy => by
    obtain ⟨p, hp, rfl⟩ := List.mem_map.1 hy
    exact (h.hdN (hm p hp)).1
  rw [List.length_map] at this
  exact this
theorem left_ofI {w : World} {b r n : Nat} {D : DataW Value} {left : Lit → Bool} {cnt : Nat} {kl : Lit} (h : w.ranges Try.prog 2 Rx b r n D left cnt) (hl : left kl = true) : Maps.has D kl = true := by
  obtain ⟨es, clock, since, seen, c0, _, F, _, rfl, _, _, _, _, hk, _⟩ := h
  obtain ⟨x, hx, rfl⟩ := hk kl hl
  obtain ⟨y, hy⟩ := F.reads x hx
  refine hasI_mem (mem_sorted.2 (List.mem_map.2 ⟨x, hx, rfl⟩)) ?_
  rw [rg_of hy]
  exact lawI.key (rd_key hy)
/-- What a round over a map of rows brings: a row. -/
theorem GM.entry {w : World} {bs b N : Nat} {S : List Int → Prop} {D y : DataW Value} {key v : Value} {kl : Lit} {ps : List MemPlace} (h : GM w bs b N S D) (hN : N ≤ 20) (hd : Maps.has D kl = true) (hkey : keyOf Try.prog 2 key = some kl)
    (hv : Rx v = some (y, ps)) (hat : ∀ zd, D.atKey kl zd = y) : ∃ (p : List Int) (A : Option Addr) (cp : Nat), S p ∧ kl = kI (hdN p) ∧ key = .int .i64 (hdN p : Nat) ∧ v = .slice A p.length cp ∧ Slc w bs A p.length cp p := by
  obtain ⟨p, hp, rfl⟩ := h.key kl hd
  obtain ⟨A, cp, hat2, hs⟩ := h.row p hp
  have e2 := (hat .nil).symm.trans (hat2 .nil)
  have e3 : (DataW.held v : DataW Value) = .held (.slice A p.length cp) := by rw [← e2]; exact congrArg Prod.fst (Option.some.inj hv)
  exact ⟨p, A, cp, hp, rfl, lawI.inj hkey (keyOf_I (by have := (h.rs.hdN hp).1; omega)), DataW.held.inj e3, hs⟩

/-- WHAT THE ITERATOR PROMISES: called at the yield of whatever loop, in a world W that begins as w0, it makes block W.heap.size its own and hands the rounds the rows of S, each once, in whatever order; between the rounds it turns that block alone; a round keeps the blocks of w0 and that block. -/
def ItsV (gf : Nat) (lb : Array Value) (w0 : World) (bi : Nat) (S : List Int → Prop) : Prop :=
  ∀ (l : Nat) (J : List (List Int) → World → Prop) (W : World), (∀ k, k < w0.heap.size → W.heap[k]? = w0.heap[k]?) → w0.heap.size ≤ W.heap.size →
    (∀ xs A C, J xs A → A.grownBy C (some W.heap.size) → J xs C) →
    (∀ xs Ap c p W1 W2, J xs W1 → S p → p ∉ xs → W.heap.size < W1.heap.size → W1.grownBy W2 (some W.heap.size) → Slc w0 bi Ap p.length c p →
      YieldAt Fence.wide 4 Try.prog l #[.slice Ap p.length c] W2 fun e W' => e = .returned (.bool true) ∧ J (xs ++ [p]) W' ∧ (∀ k, (k < w0.heap.size ∨ k = W.heap.size) → W'.heap[k]? = W2.heap[k]?) ∧ W2.heap.size ≤ W'.heap.size) →
    J [] W →
    CallsIn Fence.wide 5 Try.prog gf (#[.func (.yield l) #[] #[]] ++ lb) W fun e W' => (∃ v, e = .returned v) ∧ ∃ xs : List (List Int), xs.Nodup ∧ (∀ p, p ∈ xs ↔ S p) ∧ J xs W'

set_option maxHeartbeats 1000000 in
/-- A RANGE OVER IT, whose body always goes on. -/
theorem rangeV {g : Operand} {p : Tmp} {assign body : Code} {Q : Exit → Act → World → Prop} {a : Act} {w w0 : World} {gf : Nat} {lb : Array Value} {bi : Nat} {S : List Int → Prop}
    (hg : a.eval g = .func (.func gf) #[] lb) (eg : ∀ args w, (callFunc gf args).run Try.prog w = .ok (.enter gf args) w)
    (hs : ItsV gf lb w0 bi S) (hk0 : ∀ k, k < w0.heap.size → k < w.heap.size ∧ w.heap[k]? = w0.heap[k]?) (hsz : w0.heap.size ≤ w.heap.size)
    (I : List (List Int) → World → Prop) (hI : ∀ i A C, I i A → Xk w.heap.size A C → I i C) (h0 : I [] w) (ax : Value → Act)
    (hassign : ∀ (l : Nat) (v : Value) (W : World) (K : Act → World → Prop), K (ax v) W → assign.wpIn (Fence.wide.inRound l) 4 Try.prog (Exit.then K (fun _ _ _ => False)) { tmps := a.tmps.setIfInBounds p v, defers := [] } W)
    (hbody : ∀ (l : Nat) (i : List (List Int)) (Ap : Option Addr) (c : Nat) (q : List Int) (W1 W2 : World), I i W1 → S q → q ∉ i → w.heap.size + 2 < W1.heap.size → Xk w.heap.size W1 W2 → Slc w0 bi Ap q.length c q →
      body.wpIn (Fence.wide.inRound l) 4 Try.prog (Exit.then (fun _ W' => I (i ++ [q]) W' ∧ (∀ k, (k < w0.heap.size ∨ (w.heap.size ≤ k ∧ k ≤ w.heap.size + 2)) → W'.heap[k]? = W2.heap[k]?) ∧ W2.heap.size ≤ W'.heap.size) (fun _ _ _ => False)) (ax (.slice Ap q.length c)) W2)
    (hdone : ∀ W xs, xs.Nodup → (∀ p, p ∈ xs ↔ S p) → I xs W → W.heap[w.heap.size]? = some (.deferred (some [])) → Q .normal { a with defers := { target := .collected w.heap.size, args := #[] } :: a.defers } W) :
    (Code.rangeFunc g #[p] assign body).wpIn Fence.wide 6 Try.prog Q a w := by
  refine wpIn_rangeFunc ?_
  intro fn hfn
  obtain ⟨rc, hrc⟩ : ∃ rc : LoopState → Option Code → Loop, rc = fun st pe => { state := st, pending := pe, fn, tmps := a.tmps, params := #[p], assign, body, defers := w.heap.size } := ⟨_, rfl⟩
  obtain ⟨V, hV⟩ : ∃ V, (w.alloc (.deferred (some []))).alloc (.loop (rc .ready none)) = V := ⟨_, rfl⟩
  have hVs : V.heap.size = w.heap.size + 2 := by rw [← hV]; simp
  have hVl : V.heap[w.heap.size + 1]? = some (.loop (rc .ready none)) := by
    rw [← hV]; have := World.alloc_heap_new (w.alloc (.deferred (some []))) (.loop (rc .ready none)); rwa [World.size_alloc] at this
  have hVd : V.heap[w.heap.size]? = some (.deferred (some [])) := by
    rw [← hV]; exact (Below.heap_alloc _ _ _ (by simp)).trans (World.alloc_heap_new w _)
  have hVk : ∀ k, k < w.heap.size → V.heap[k]? = w.heap[k]? := fun k hk => by
    rw [← hV]; exact (Below.heap_alloc _ _ _ (by simp; omega)).trans (Below.heap_alloc _ _ _ hk)
  have hVx : Xk w.heap.size w V := by
    rw [← hV]; exact ⟨rfl, rfl, rfl, by simp; omega, fun k hk _ => (Below.heap_alloc _ _ _ (by simp; omega)).trans (Below.heap_alloc _ _ _ hk)⟩
  refine ⟨w.heap.size + 1, [{ target := .collected w.heap.size, args := #[] }], V, { target := .fn (.func gf) lb, args := #[.func (.yield (w.heap.size + 1)) #[] #[]] }, V, gf,
    #[.func (.yield (w.heap.size + 1)) #[] #[]] ++ lb, V, ?_, ?_, ?_, ?_, fun _ => by omega, ?_⟩
  · rw [← hV, hrc]; exact run_enterLoop_outer _ _ _ _ _
  · simp only [resolve, hg]
    simp [go_sem]
  · intro f' hf'; trivial
  · simp [invoke, go_sem, eg]
  · refine (hs (w.heap.size + 1) (fun i W => I i W ∧ W.heap[w.heap.size + 1]? = some (.loop (rc .ready none)) ∧ W.heap[w.heap.size]? = some (.deferred (some []))) V
      (fun k hk => (hVk k (hk0 k hk).1).trans (hk0 k hk).2) (by omega) ?_ ?_ ⟨hI [] w V h0 hVx, hVl, hVd⟩).mono ?_
    · rintro i A C ⟨hi, hl, hd⟩ hgr
      rw [hVs] at hgr
      refine ⟨hI i A C hi (Xk.of_grown hgr (by omega)), ?_, ?_⟩
      · exact (hgr.block _ (Array.getElem?_eq_some_iff.1 hl).1 (fun e => by injection e with e; omega)).trans hl
      · exact (hgr.block _ (Array.getElem?_eq_some_iff.1 hd).1 (fun e => by injection e with e; omega)).trans hd
    · rintro i Ap c q W1 W2 ⟨hi, hl, hd⟩ hlt hnx hsz1 hgr hsl
      rw [hVs] at hsz1 hgr
      have hl2 : W2.heap[w.heap.size + 1]? = some (.loop (rc .ready none)) := (hgr.block _ (Array.getElem?_eq_some_iff.1 hl).1 (fun e => by injection e with e; omega)).trans hl
      have hd2 : W2.heap[w.heap.size]? = some (.deferred (some [])) := (hgr.block _ (Array.getElem?_eq_some_iff.1 hd).1 (fun e => by injection e with e; omega)).trans hd
      have hlt2 : w.heap.size + 1 < W2.heap.size := (Array.getElem?_eq_some_iff.1 hl2).1
      have hy := run_yield (P := Try.prog) (args := #[.slice Ap q.length c]) hl2 (by rw [hrc]; rfl)
      rw [hrc] at hy
      have hy2 : (Instr.yield (w.heap.size + 1) #[.slice Ap q.length c]).run Try.prog W2 = .ok (.round (w.heap.size + 1) fn (a.tmps.setIfInBounds p (.slice Ap q.length c)) assign body) W2 := by simpa using hy
      refine ⟨fn, _, assign, body, hy2, roundIn_of_wpIn hfn (hassign _ (.slice Ap q.length c) W2 _ ?_)⟩
      refine ⟨_, run_beginRound hl2 (by rw [hrc]), ?_⟩
      have hX : Xk w.heap.size W1 (W2.putObj (w.heap.size + 1) (.loop { rc .ready none with state := .busy })) := (Xk.of_grown hgr (by omega)).trans (Xk.put _ _ (by omega))
      have hl3 : (W2.putObj (w.heap.size + 1) (.loop { rc .ready none with state := .busy })).heap[w.heap.size + 1]? = some (.loop { rc .ready none with state := .busy }) := World.putObj_heap_same hlt2
      have hd3 : (W2.putObj (w.heap.size + 1) (.loop { rc .ready none with state := .busy })).heap[w.heap.size]? = some (.deferred (some [])) := (World.putObj_heap_other (by omega)).trans hd2
      refine wpIn_mono (hbody _ i Ap c q W1 _ hi hlt hnx (by omega) hX hsl) ?_
      rintro e a3 W3 hp
      cases e with
      | normal =>
        obtain ⟨hi3, hk3, hs3⟩ := hp
        have hl4 := (hk3 (w.heap.size + 1) (.inr (by omega))).trans hl3
        have hd4 := (hk3 w.heap.size (.inr (by omega))).trans hd3
        have hr := run_endRound (P := Try.prog) none hl4
        refine ⟨_, _, hr, ?_⟩
        rw [World.putObj_size] at hs3
        have h5 : (W3.putObj (w.heap.size + 1) (.loop (rc .ready none))).heap[w.heap.size + 1]? = some (.loop (rc .ready none)) := World.putObj_heap_same (Array.getElem?_eq_some_iff.1 hl4).1
        have e1 : (Loop.mk (if (none : Option Code).isNone then LoopState.ready else .done) none (rc .ready none).fn (rc .ready none).tmps (rc .ready none).params (rc .ready none).assign (rc .ready none).body (rc .ready none).defers) = rc .ready none := by rw [hrc]; rfl
        have e2 : ({ rc .ready none with state := LoopState.busy } : Loop).fn = (rc .ready none).fn := rfl
        refine ⟨rfl, ⟨hI _ _ _ hi3 (Xk.put _ _ (by omega)), ?_, (World.putObj_heap_other (by omega)).trans hd4⟩, ?_, by rw [World.putObj_size]; exact hs3⟩
        · rw [hrc]; rw [World.putObj_heap_same (Array.getElem?_eq_some_iff.1 hl4).1]; rfl
        · intro k hk
          have hne : k ≠ w.heap.size + 1 := by
            rcases hk with hk | hk
            · have := (hk0 k hk).1; omega
            · omega
          refine (World.putObj_heap_other hne).trans ((hk3 k ?_).trans (World.putObj_heap_other hne))
          rcases hk with hk | hk
          · exact .inl hk
          · exact .inr (by omega)
      | ret => exact hp.elim
      | exit id => exact hp.elim
      | goto t => exact hp.elim
      | panic ch => exact hp.elim
      | outgrown => exact hp.elim
    · rintro e W2 ⟨⟨v, rfl⟩, xs, hnd, hxs, hi, hl, hd⟩
      refine ⟨none, _, by have := run_endLoop (P := Try.prog) hl (by rw [hrc]; simp); rw [hrc] at this; exact this, hdone _ xs hnd hxs (hI _ _ _ hi (Xk.put _ _ (by omega))) ((World.putObj_heap_other (by omega)).trans hd)⟩

theorem mapsValuesI (b : Nat) (w : World) :
    Calls Try.prog 94 #[.map (some b)] w fun e w' => e = .returned (.func (.func 113) #[] #[.pointer (some ⟨w.heap.size, 0, none⟩)]) ∧ w' = w.alloc (.cells #[.map (some b)] 81) := by
  have hmf : ∀ (fn : Fn) (first cap : Array Value) (w : World), (Instr.makeFunc fn first cap).run Try.prog w = .ok (.func fn first cap) w := fun _ _ _ _ => rfl
  go_enter Try.func94, Try.ntmps94
  go_wp2
  go_ret
  exact ⟨rfl, rfl⟩

set_option maxHeartbeats 4000000 in
set_option maxRecDepth 100000 in
/-- THE ITERATOR's CONTRACT. -/
theorem itsValsI (N bi b c1 : Nat) (hN : N ≤ 20) (S : List Int → Prop) (D : DataW Value) (w0 : World) (h : GM w0 bi b N S D) (h1 : Blk w0 c1 81 #[.map (some b)]) :
    ItsV 113 #[.pointer (some ⟨c1, 0, none⟩)] w0 bi S := by
  intro l J W hW hsz hJ hY h0
  have HC := Lib.hid h
  have HY := Lib.hid hY
  have HJ := Lib.hid hJ
  have HW := Lib.hid hW
  have c1lt := h1.lt
  have blt := h.lt
  have k1 : W.cell? ⟨c1, 0, none⟩ = some (.map (some b)) := ((show Blk W c1 81 _ from (hW c1 c1lt).trans h1).cell 0)
  have Ow : Hid (W.ownsMap Try.prog 2 Rx b (Maps.size D) D) := Lib.hid (by
    obtain ⟨es, clock, hb, r⟩ := h.own
    exact ⟨es, clock, (hW b blt).trans hb, r⟩)
  clear hY hJ hW h h1
  refine callsIn_wide.2 ?_
  show Calls Try.prog 113 #[.func (.yield l) #[] #[], .pointer (some ⟨c1, 0, none⟩)] W _
  go_enter Try.func113, Try.ntmps113
  go_wp2_with (first | (at_range; refine wpList_range_own _ rfl _ 81 rfl 2 48 lawI Try.underlying81 Rx b (Maps.size D) D rfl Ow.out ?_; intro V hrg0 hg0 hs0) | go_in)
  have R0 := Lib.hid hrg0
  have J0 : Hid (J [] V) := Lib.hid (HJ.out [] W V h0 (grown_any hg0))
  have K0 : Hid (∀ k, k < w0.heap.size → V.heap[k]? = w0.heap[k]?) := Lib.hid fun k hk => (hg0.block k (by omega) (by simp)).trans (HW.out k hk)
  have hVlt : W.heap.size < V.heap.size := by omega
  clear hrg0 hg0 hs0 h0 k1
  go_frame
  refine (wpIn_wide (n := 5)).1 ?_
  gi_loopw [4] (fun v wr => ∃ (xs : List (List Int)) (left : Lit → Bool) (cnt : Nat), wr.ranges Try.prog 2 Rx b W.heap.size (Maps.size D) D left cnt ∧ J xs wr ∧ xs.Nodup ∧ (∀ p, p ∈ xs ↔ S p ∧ left (kI (hdN p)) = false) ∧ (∀ k, k < w0.heap.size → wr.heap[k]? = w0.heap[k]?) ∧ W.heap.size < wr.heap.size) (fun v wr => wr.rangeLeft b W.heap.size)
  case atStart => exact ⟨[], Maps.has D, Maps.size D, R0.out, J0.out, List.nodup_nil, fun p => ⟨fun h => (by cases h), fun ⟨hp, hl⟩ => (by rw [HC.out.has p hp] at hl; cases hl)⟩, K0.out, hVlt⟩
  case round =>
    clear R0 J0 K0 hVlt
    obtain ⟨xs, left, cnt, hrg, hj, hnd, hmem, hkp, hlt0⟩ := hrel
    have Rg := Lib.hid hrg
    have Hj := Lib.hid hj
    have Nd := Lib.hid hnd
    have Hm := Lib.hid hmem
    have Kp := Lib.hid hkp
    clear hrg hj hnd hmem hkp
    rcases Rg.out.next lawI 0 with ⟨hc0, hl0, hrun⟩ | ⟨key, v, kl, y, w1, cnt1, hkey, hlk, hv, hat, hrun, hrg1, hlt, hg1, hs1, hen⟩
    · have Fin : Hid (∀ p, p ∈ xs ↔ S p) := Lib.hid fun p => by
        rw [Hm.out p]
        exact ⟨fun h => h.1, fun h => ⟨h, hl0 _⟩⟩
      clear hc0 hl0
      gi_wp2
      go_end0
      exact ⟨⟨_, rfl⟩, xs, Nd.out, Fin.out, Hj.out⟩
    · obtain ⟨y, py⟩ := y
      obtain ⟨p, Ap, cpp, hp, rfl, rfl, rfl, hs'⟩ := HC.out.entry hN (left_ofI Rg.out hlk) hkey hv hat
      have Hnot : Hid (p ∉ xs) := Lib.hid fun hx => by
        have := ((Hm.out p).1 hx).2
        rw [hlk] at this; cases this
      have PK : Hid (WideAt.IsKeyLit (kI (hdN p))) := Lib.hid (kI_key (by have := (HC.out.rs.hdN hp).1; omega))
      have Hp := Lib.hid hp
      have Hlt := Lib.hid hlt
      have R1 := Lib.hid hrg1
      have Sl := Lib.hid hs'
      have G1 := Lib.hid hg1
      have Kp1 : Hid (∀ k, k < w0.heap.size → w1.heap[k]? = w0.heap[k]?) := Lib.hid fun k hk => (hg1.block k (by omega) (fun e => by injection e with e; omega)).trans (Kp.out k hk)
      obtain ⟨fn, tmps, assign, body, hy, hR⟩ := HY.out xs Ap cpp p wr w1 Hj.out hp Hnot.out hlt0 hg1 hs'
      have HR := Lib.hid hR
      have hz1 := hg1.size
      clear hat hrg1 hp hlk hg1 hkey hv hlt hs' hR
      gi_wp2
      refine HR.out.mono ?_
      rintro e w3 ⟨rfl, hj3, hk3, hs3⟩
      have Hj3 := Lib.hid hj3
      have Kp3 : Hid (∀ k, k < w0.heap.size → w3.heap[k]? = w0.heap[k]?) := Lib.hid fun k hk => (hk3 k (.inl hk)).trans (Kp1.out k hk)
      have R3 : Hid (w3.ranges Try.prog 2 Rx b W.heap.size (Maps.size D) D (fun z => left z && !z.sameKey (kI (hdN p))) cnt1) := Lib.hid (by
        obtain ⟨es, clock, since, seen, c0, hb, F, hs, hD, hr, rest⟩ := R1.out
        exact ⟨es, clock, since, seen, c0, (hk3 b (.inl blt)).trans hb, F, hs, hD, (hk3 _ (.inr rfl)).trans hr, rest⟩)
      have Nd3 : Hid ((xs ++ [p]).Nodup) := Lib.hid (nodup_snocI Nd.out Hnot.out)
      have Fin : Hid (∀ m, m ∈ xs ++ [p] ↔ S m ∧ (left (kI (hdN m)) && !(kI (hdN m)).sameKey (kI (hdN p))) = false) := Lib.hid fun m => by
        rw [List.mem_append, Hm.out m, List.mem_singleton]
        constructor
        · rintro (⟨h, hl⟩ | rfl)
          · exact ⟨h, (by simp [hl])⟩
          · exact ⟨Hp.out, (by simp [WideAt.sameKey_self PK.out])⟩
        · rintro ⟨h, hl⟩
          rcases hlq : left (kI (hdN m)) with _ | _
          · exact .inl ⟨h, rfl⟩
          · exact .inr (HC.out.rs.hinj h Hp.out (kI_inj (WideAt.sameKey_eq (by simpa [hlq] using hl))))
      have E1 := Rg.out.left_eq
      have E3 := R3.out.left_eq
      clear hj3 hk3
      gi_wp2
      go_roundw
      case rel => exact ⟨xs ++ [p], _, cnt1, R3.out, Hj3.out, Nd3.out, Fin.out, Kp3.out, by omega⟩
      case measure => rw [E1, E3]; exact Hlt.out
theorem wpListIn_app3V {F : Fence} {nn : Nat} {w : World} {base n c : Nat} {A : Option Addr} {us : List SV} {ops : Array Oper} {rest : List Oper} {o : Oper} {a : Act} {Q : Exit → Act → World → Prop} (hgd : o.guard = none) (s x : Operand)
    (ho : o.op = .call { callee := .builtin .append, args := #[s, x], argTypes := #[22, 22] })
    (hs : a.eval s = .slice A n c) (hss : w.ownsRow base 48 1 (.slice A n c) n (us.map sval)) (g : Nat) (dA : Option Addr) (dn dc : Nat) (hx : a.eval x = .slice (some ⟨g, 0, none⟩) 1 1)
    (hcell : w.cell? ⟨g, 0, none⟩ = some (.slice dA dn dc)) (hn : n ≤ 1000000000) (hbase : base ≤ w.heap.size)
    (h : ∀ g' c' w', w'.ownsRow base 48 1 (.slice (some ⟨g', 0, none⟩) (n + 1) c') (n + 1) ((us ++ [(dA, dn, dc)]).map sval) → w.grownBy w' (Value.slice A n c).ownBlock → wpListIn F nn Try.prog ops Q rest (a.put o.dst (.slice (some ⟨g', 0, none⟩) (n + 1) c')) w') : wpListIn F nn Try.prog ops Q (o :: rest) a w := by
  obtain ⟨i0, hi, hz0, hz1, hz2⟩ := info_parts infoS
  refine wpListIn_append_own w hgd s x 22 ho base 48 i0 (.slice none 0 0) 1 24 Try.underlying22 hi hz0 hz1 hz2 rfl (by decide) _ n _ hs hss ⟨g, 0, none⟩ 1 1 [.slice dA dn dc] hx rfl ?_ ?_ ?_ (by omega) hbase ?_
  · intro j v hj
    match j, hj with
    | 0, hj => simp at hj; subst hj; simpa [Addr.add] using hcell
    | j + 1, hj => simp at hj
  · intro v hv; simp at hv; subst hv; rfl
  · unfold maxLen; omega
  · intro v' w' hown' hg _
    have hform : ∃ g' c', v' = .slice (some ⟨g', 0, none⟩) (n + 1) c' := by
      rcases hown'.2 with ⟨rfl, h0⟩ | ⟨g', cap, cur, rfl, _⟩
      · omega
      · exact ⟨_, _, rfl⟩
    obtain ⟨A', c', rfl⟩ := hform
    exact h A' c' w' (by rw [List.map_append]; exact hown') hg
theorem own_xkV {b bo n : Nat} {W C : World} {v : Value} {us : List Value} (h : W.ownsRow bo 48 1 v n us) (hk : Xk b W C) (h1 : b + 2 < bo) : C.ownsRow bo 48 1 v n us := by
  refine ⟨h.1, ?_⟩
  rcases h.2 with hn | ⟨g, cap, cur, e, hb', hg, rest⟩
  · exact .inl hn
  · exact .inr ⟨g, cap, cur, e, hb', by rw [hk.block g (Array.getElem?_eq_some_iff.1 hg).1 (.inr (by omega))]; exact hg, rest⟩
/-- The rows that lie in w0. -/
def Rw1 (w0 : World) (bi : Nat) (us : List SV) (xs : List (List Int)) : Prop := us.length = xs.length ∧ ∀ t, t < xs.length → (us.getD t sd0).2.1 = (xs.getD t []).length ∧ Slc w0 bi (us.getD t sd0).1 (xs.getD t []).length (us.getD t sd0).2.2 (xs.getD t [])
theorem Rw1.snoc {w0 : World} {bi c : Nat} {us : List SV} {xs : List (List Int)} {A : Option Addr} {p : List Int} (h : Rw1 w0 bi us xs) (hs : Slc w0 bi A p.length c p) : Rw1 w0 bi (us ++ [(A, p.length, c)]) (xs ++ [p]) := by
  refine ⟨by simp [h.1], fun t ht => ?_⟩
  by_cases e : t < xs.length
  · rw [getD_app _ _ _ _ (by rw [h.1]; exact e), getD_app _ _ _ _ e]
    exact h.2 t e
  · have e2 : t = xs.length := by simp at ht; omega
    subst e2
    rw [getD_snoc _ _ _ _ h.1.symm, getD_snoc _ _ _ _ rfl]
    exact ⟨rfl, hs⟩
theorem Slc.agreeV {w w' : World} {bi n c : Nat} {A : Option Addr} {xs : List Int} (h : Slc w bi A n c xs) (hk : ∀ k, k < w.heap.size → w'.heap[k]? = w.heap[k]?) : Slc w' bi A n c xs := by
  refine ⟨h.1, h.2.1, ?_⟩
  rcases h.2.2 with hn | ⟨g, cap, cur, e, hb', hg, rest⟩
  · exact .inl hn
  · exact .inr ⟨g, cap, cur, e, hb', by rw [hk g (Array.getElem?_eq_some_iff.1 hg).1]; exact hg, rest⟩
theorem Rw1.ss {w0 w : World} {bi bo c N : Nat} {us : List SV} {xs : List (List Int)} {A : Option Addr} {S : List Int → Prop} (h : Rw1 w0 bi us xs) (hk : ∀ k, k < w0.heap.size → w.heap[k]? = w0.heap[k]?) (ho : w.ownsRow bo 48 1 (.slice A xs.length c) xs.length (us.map sval)) (hd : xs.Nodup) (hR : Rws N S) (hS : ∀ p, p ∈ xs → S p) :
    SS w bo bi A xs.length c us xs := by
  refine ⟨ho, h.1, rfl, fun i hi => ?_, fun i j hij hj => ?_⟩
  · obtain ⟨e, hs⟩ := h.2 i hi
    rw [e]; exact hs.agreeV hk
  · obtain ⟨e1, h1⟩ := h.2 i (by omega)
    obtain ⟨e2, h2⟩ := h.2 j hj
    have s1 := hS _ (getD_memL (show i < xs.length by omega))
    have s2 := hS _ (getD_memL hj)
    refine .inr fun e => ?_
    have e4 : (Value.slice (us.getD i sd0).1 (xs.getD i []).length (us.getD i sd0).2.2).ownBlock = (Value.slice (us.getD j sd0).1 (xs.getD j []).length (us.getD j sd0).2.2).ownBlock := by
      unfold sval at e; rw [e1, e2] at e; exact e
    have e5 := hR.inj _ _ s1 s2 (slc_hd h1 h2 (hR.pos s1) (hR.pos s2) e4)
    rw [getD_L (show i < xs.length by omega), getD_L hj] at e5
    exact (List.pairwise_iff_getElem.1 hd) i j (by omega) hj hij e5

set_option maxHeartbeats 4000000 in
set_option maxRecDepth 100000 in
/-- slices.AppendSeq onto nil. -/
theorem appSeqV (N bi : Nat) (gf : Nat) (ef : ∀ args w, (callFunc gf args).run Try.prog w = .ok (.enter gf args) w) (lb : Array Value) (S : List Int → Prop) (w w0 : World) (hs : ItsV gf lb w0 bi S) (hk : ∀ k, k < w0.heap.size → w.heap[k]? = w0.heap[k]?) (hsz : w0.heap.size ≤ w.heap.size) (hN : N ≤ 20) (hR : Hid (Rws N S)) :
    Calls Try.prog 128 #[.slice none 0 0, .func (.func gf) #[] lb] w fun e w' => ∃ A' c' us xs, e = .returned (.slice A' xs.length c') ∧ xs.Nodup ∧ (∀ p, p ∈ xs ↔ S p) ∧ SS w' w.heap.size bi A' xs.length c' us xs ∧ Below w.heap.size w w' := by
  have HS := Lib.hid hs
  have HK := Lib.hid hk
  clear hs hk
  refine (callsIn_wide (n := 6)).1 ?_
  refine callsIn_of_wp_marks Try.func128 rfl trivial ?_ rfl
  simp only [Try.ntmps128, List.size_toArray, List.length_cons, List.length_nil, Nat.reduceAdd, Nat.reduceSub, Array.replicate_succ, Array.replicate_zero, List.push_toArray, List.append_toArray, List.nil_append, List.cons_append]
  gi_wp2
  obtain ⟨V, hV⟩ : ∃ V, w.alloc (.cells #[.slice none 0 0] 22) = V := ⟨_, rfl⟩
  rw [hV]
  have hz : V.heap.size = w.heap.size + 1 := by rw [← hV]; simp
  have b0 : Blk V w.heap.size 22 #[.slice none 0 0] := by rw [← hV]; exact Blk.new w _ _
  have bel : Below w.heap.size w V := by rw [← hV]; exact (Below.refl _ w).alloc (Nat.le_refl _) _
  have hkV : ∀ k, k < w0.heap.size → k < V.heap.size ∧ V.heap[k]? = w0.heap[k]? := fun k h => ⟨by omega, (bel.block k (by omega)).trans (HK.out k h)⟩
  clear hV
  refine rangeV (gf := gf) (lb := lb) rfl ef HS.out hkV (by omega)
    (fun xs W => ∃ S' c us, Blk W w.heap.size 22 #[.slice S' xs.length c] ∧ W.ownsRow (V.heap.size + 3) 48 1 (.slice S' xs.length c) xs.length (us.map sval) ∧ Rw1 w0 bi us xs ∧ xs.Nodup ∧ (∀ p, p ∈ xs → S p) ∧ Below w.heap.size w W)
    (fun i A C h hx => by
      obtain ⟨S', c, us, h1, h2, h4, h5, h6, h3⟩ := h
      exact ⟨S', c, us, (hx.block _ h1.lt (.inl (by omega))).trans h1, own_xkV h2 hx (by omega), h4, h5, h6, h3.trans (hx.below (by omega) h3.size)⟩) ⟨none, 0, [], b0, World.ownsRow_nil _ _ _ _, ⟨rfl, fun t ht => absurd ht (by simp)⟩, List.nodup_nil, fun p hp => (by cases hp), bel⟩
    (fun v => { tmps := #[.slice none 0 0, .func (.func gf) #[] lb, .pointer (some ⟨w.heap.size, 0, none⟩), undef, .slice none 0 0, v, .func (.func gf) #[] lb, v, undef, undef, undef, undef, undef], defers := [] }) ?assign ?body ?done
  case assign =>
    intro l v W K hK
    gi_wp2
    exact hK
  case body =>
    rintro l xs S' d p W1 W2 ⟨R, e, us, hb, hss, hrw, hnd, hmem, hbl⟩ hSp hnot hsz1 hx hsl
    have hb2 : Blk W2 w.heap.size 22 #[.slice R xs.length e] := (hx.block _ hb.lt (.inl (by omega))).trans hb
    have cc : W2.cell? ⟨w.heap.size, 0, none⟩ = some (.slice R xs.length e) := hb2.cell 0
    have ff := hb2.frozen 0
    have Ss2 := Lib.hid (own_xkV hss hx (by omega))
    obtain ⟨L, hL⟩ : ∃ L, p.length = L := ⟨_, rfl⟩
    have Rs : Hid (Rw1 w0 bi (us ++ [(S', L, d)]) (xs ++ [p])) := Lib.hid (by have := hrw.snoc hsl; rw [hL] at this; exact this)
    rw [hL]
    have Nd := Lib.hid (nodup_snocI hnd hnot)
    have Mm : Hid (∀ q, q ∈ xs ++ [p] → S q) := Lib.hid fun q hq => by
      rcases List.mem_append.1 hq with h | h
      · exact hmem q h
      · rw [List.mem_singleton.1 h]; exact hSp
    have Ln : Hid (xs.length ≤ 200) := Lib.hid (by have := hR.out.few hnd hmem; omega)
    have Bl2 := Lib.hid (hbl.trans (hx.below (by omega) hbl.size))
    have Hb2 := Lib.hid hb2
    have hz2 := hx.size
    have hzz : V.heap.size + 3 ≤ W2.heap.size := by omega
    have hcell : (W2.alloc (.cells #[.slice S' L d] 48)).cell? ⟨W2.heap.size, 0, none⟩ = some (.slice S' L d) := by rw [World.cell?_alloc_at _ _ _ _ rfl]; rfl
    have Hcell := Lib.hid hcell
    clear hcell hb hss hbl hx hsl hb2 hrw hnd hmem hSp hnot
    obtain ⟨m, hm⟩ : ∃ m, xs.length = m := ⟨_, rfl⟩
    rw [hm] at cc Ss2 Hb2 Ln
    have Hm := Lib.hid hm
    clear hm
    gi_wp2_with (first
      | (gi_at_builtin; refine wpListIn_app3V rfl _ _ rfl rfl (World.ownsRow.alloc Ss2.out _) W2.heap.size S' L d rfl Hcell.out (by have := Ln.out; omega) (by simp; omega) ?_; intro A5 c5 w5 ss5 hg5
         have Ss5 := Lib.hid ss5
         have Hb5 : Hid (Blk w5 w.heap.size 22 #[.slice R m e]) := Lib.hid ((Hb2.out.alloc (.cells #[.slice S' L d] 48)).grown hg5 ((Hb2.out.alloc (.cells #[.slice S' L d] 48)).not_outer (World.ownsRow.alloc Ss2.out _)))
         have cc5 : w5.cell? ⟨w.heap.size, 0, none⟩ = some (.slice R m e) := Hb5.out.cell 0
         have ff5 := Hb5.out.frozen 0
         have Hg5 := Lib.hid hg5
         clear ss5 hg5))
    have Hb6 := Lib.hid (Hb5.out.set_ 0 (.slice (some ⟨A5, 0, none⟩) (m + 1) c5))
    have hne : some w.heap.size ≠ (Value.slice (some ⟨A5, 0, none⟩) (m + 1) c5).ownBlock := Hb5.out.not_outer Ss5.out
    have Ss6 := Lib.hid (World.ownsRow.kept Ss5.out (grown_set (grown_refl w5 (some w.heap.size)) 0 (.slice (some ⟨A5, 0, none⟩) (m + 1) c5)) (.inr fun h => hne h.symm))
    have Bl5 : Hid (Below w.heap.size w w5) := Lib.hid ((Bl2.out.alloc Bl2.out.size _).grown Hg5.out (by have := Bl2.out.size; simp; omega) (fun j hj => by have := (World.ownsRow.lt Ss2.out j hj).1; omega))
    have e1 : (xs ++ [p]).length = m + 1 := by rw [List.length_append, Hm.out]; rfl
    refine ⟨⟨some ⟨A5, 0, none⟩, c5, us ++ [(S', L, d)], by rw [e1]; exact Hb6.out, by rw [e1]; exact Ss6.out, Rs.out, Nd.out, Mm.out, Bl5.out.setCell (p := ⟨w.heap.size, 0, none⟩) (Nat.le_refl _) _⟩, fun k hk => ?_, ?_⟩
    · have hkl : k ≠ w.heap.size := by omega
      have hkW2 : k < W2.heap.size := by omega
      refine (Below.heap_setCell _ _ _ k hkl).trans ((Hg5.out.block k (by simp; omega) fun e9 => ?_).trans (Below.heap_alloc _ _ _ hkW2))
      have := (World.ownsRow.lt Ss2.out k e9.symm).1
      omega
    · have := Hg5.out.size
      simp at this
      simp [World.setCell]; omega
  case done =>
    rintro W xs hnd hmem ⟨S', c, us, hb, hss, hrw, _, _, hbl⟩ hd
    have Hbl := Lib.hid hbl
    have Hss := Lib.hid hss
    have Rs := Lib.hid hrw
    have Nd := Lib.hid hnd
    have Mm := Lib.hid hmem
    obtain ⟨m, hm⟩ : ∃ m, xs.length = m := ⟨_, rfl⟩
    rw [hm] at hb Hss
    have Hm := Lib.hid hm
    have cc : W.cell? ⟨w.heap.size, 0, none⟩ = some (.slice S' m c) := hb.cell 0
    clear hbl hss hrw hnd hmem hm
    gi_wp2
    refine ⟨by simp, .inl ⟨_, _, rfl, run_takeDeferred hd, ?_⟩⟩
    have hfin := own_xkV Hss.out (Xk.put W (.deferred none) (b := V.heap.size) (r := V.heap.size) (by omega)) (by omega)
    have hbl2 : Below w.heap.size w (W.putObj V.heap.size (.deferred none)) := Hbl.out.grown (grownBy_putObj' W _ _) Hbl.out.size (fun k e => by cases e; omega)
    have hr := World.ownsRow.mono hfin (base' := w.heap.size) (by omega)
    rw [← Hm.out] at hr ⊢
    exact ⟨_, results_tmp rfl _ _ _, _, _, us, xs, rfl, Nd.out, Mm.out, Rs.out.ss (fun k hk => (hbl2.block k (by omega)).trans (HK.out k hk)) hr Nd.out hR.out (fun p hp => (Mm.out p).1 hp), hbl2⟩

set_option maxHeartbeats 800000 in
/-- slices.Collect. -/
theorem collectV (N bi : Nat) (gf : Nat) (ef : ∀ args w, (callFunc gf args).run Try.prog w = .ok (.enter gf args) w) (lb : Array Value) (S : List Int → Prop) (w w0 : World) (hs : ItsV gf lb w0 bi S) (hk : ∀ k, k < w0.heap.size → w.heap[k]? = w0.heap[k]?) (hsz : w0.heap.size ≤ w.heap.size) (hN : N ≤ 20) (hR : Hid (Rws N S)) :
    Calls Try.prog 111 #[.func (.func gf) #[] lb] w fun e w' => ∃ A' c' us xs, e = .returned (.slice A' xs.length c') ∧ xs.Nodup ∧ (∀ p, p ∈ xs ↔ S p) ∧ SS w' w.heap.size bi A' xs.length c' us xs ∧ Below w.heap.size w w' := by
  have HS := Lib.hid hs
  have HK := Lib.hid hk
  clear hs hk
  go_enter Try.func111, Try.ntmps111
  go_wp2_with fail
  refine (appSeqV N bi gf ef lb S w w0 HS.out HK.out hsz hN hR).mono ?_
  rintro e w1 ⟨A1, c1, us, xs, rfl, n1, m1, s1, b1⟩
  have N1 := Lib.hid n1
  have M1 := Lib.hid m1
  have S1 := Lib.hid s1
  have B1 := Lib.hid b1
  clear n1 m1 s1 b1
  go_wp2
  go_ret
  exact ⟨_, _, _, xs, rfl, N1.out, M1.out, S1.out, B1.out⟩
end Go.Proofs.Ytedfcljikgmpgaa

/- PermutationLess, of the program (by slices.Compare) and of the model. Condition: at most 2097152 entries. -/
namespace Go.Proofs.Ytedfcljikgmpgaa
open Go.RowKit

/-- p comes first: at the first place where they differ p is smaller. -/
def lessI (p q : List Int) (n : Nat) : Bool := decide (∃ k, k < n ∧ (∀ j, j < k → p.getD j 0 = q.getD j 0) ∧ p.getD k 0 < q.getD k 0)
theorem lessI_at {p q : List Int} {n k : Nat} (hk : k < n) (he : ∀ j, j < k → p.getD j 0 = q.getD j 0) (hne : p.getD k 0 ≠ q.getD k 0) : lessI p q n = decide (p.getD k 0 < q.getD k 0) := by
  unfold lessI
  rw [Bool.eq_iff_iff, decide_eq_true_eq, decide_eq_true_eq]
  constructor
  · rintro ⟨i, hi, h1, h2⟩
    rcases Nat.lt_trichotomy i k with h | h | h
    · have := he i h; omega
    · subst h; exact h2
    · exact absurd (h1 k h) hne
  · intro h; exact ⟨k, hk, he, h⟩
theorem lessI_end {p q : List Int} {n : Nat} (he : ∀ j, j < n → p.getD j 0 = q.getD j 0) : lessI p q n = false := by
  unfold lessI
  rw [decide_eq_false_iff_not]
  rintro ⟨k, hk, _, h⟩
  have := he k hk; omega
def lessP (p q : List Int) : Bool := sameD p q && lessI p q p.length

def sgnI (x y : Int) : Int := if x < y then -1 else if y < x then 1 else 0
theorem cmpI (x y : Int) (w : World) : Calls Try.prog 114 #[.int .i64 x, .int .i64 y] w fun e w' => e = .returned (.int .i64 (sgnI x y)) ∧ w = w' := by
  have hx : (x != x) = false := by simp
  have hy : (y != y) = false := by simp
  by_cases h1 : x < y
  · have Fin : Hid (sgnI x y = -1) := Lib.hid (if_pos h1)
    have d1 : decide (x < y) = true := by simpa using h1
    go_enter Try.func114, Try.ntmps114
    go_wp2
    go_ret
    exact ⟨ret_int Fin.out.symm, rfl⟩
  · by_cases h2 : y < x
    · have Fin : Hid (sgnI x y = 1) := Lib.hid (by unfold sgnI; rw [if_neg h1, if_pos h2])
      have d1 : decide (x < y) = false := by simpa using h1
      have d2 : decide (y < x) = true := by simpa using h2
      go_enter Try.func114, Try.ntmps114
      go_wp2
      go_ret
      exact ⟨ret_int Fin.out.symm, rfl⟩
    · have Fin : Hid (sgnI x y = 0) := Lib.hid (by unfold sgnI; rw [if_neg h1, if_neg h2])
      have d1 : decide (x < y) = false := by simpa using h1
      have d2 : decide (y < x) = false := by simpa using h2
      go_enter Try.func114, Try.ntmps114
      go_wp2
      go_ret
      exact ⟨ret_int Fin.out.symm, rfl⟩

set_option maxHeartbeats 400000 in
/-- slices.Compare at two lists of one length. -/
theorem sCmp (A B : Option Addr) (c d n : Nat) (p q : List Int) (w : World) (hp : RI w w.heap.size A p) (hq : RI w w.heap.size B q) (lp : Hid (p.length = n)) (lq : Hid (q.length = n)) (hn : n ≤ 20) :
    Calls Try.prog 95 #[.slice A n c, .slice B n d] w fun e w' => ∃ r, e = .returned (.int .i64 r) ∧ Hid (decide (r < 0) = lessI p q n) ∧ w = w' := by
  go_enter Try.func95, Try.ntmps95
  go_wp2
  go_loop [5, 6, 7, 8, 11] (fun _ _ _ _ i => ∃ k : Nat, k ≤ n ∧ i = .int .i64 (k : Nat) ∧ (∀ j, j < k → p.getD j 0 = q.getD j 0)) (fun _ _ _ _ i => n - (intOf i).toNat)
  case atStart => exact ⟨0, Nat.zero_le _, rfl, fun j h => absurd h (by omega)⟩
  case round =>
    obtain ⟨k, hk, rfl, heq⟩ := hrel
    have Heq := Lib.hid heq
    clear heq
    by_cases hlt : k < n
    · obtain ⟨b, off, rfl, hb, hc⟩ := hp (by rw [lp.out]; omega)
      obtain ⟨b', off', rfl, hb', hc'⟩ := hq (by rw [lq.out]; omega)
      have c1 := hc k (by rw [lp.out]; omega)
      have c2 := hc' k (by rw [lq.out]; omega)
      obtain ⟨x, ex⟩ : ∃ x, p.getD k 0 = x := ⟨_, rfl⟩
      obtain ⟨y, ey⟩ : ∃ y, q.getD k 0 = y := ⟨_, rfl⟩
      rw [ex] at c1
      rw [ey] at c2
      have Ex := Lib.hid ex
      have Ey := Lib.hid ey
      clear ex ey hc hc' hp hq
      by_cases hxy : x = y
      · have Z : Hid (sgnI x y = 0) := Lib.hid (by subst hxy; unfold sgnI; simp)
        have Hxy := Lib.hid hxy
        clear hxy
        go_wp2_with fail
        refine (cmpI x y w).mono ?_
        rintro e w1 ⟨rfl, rfl⟩
        rw [Z.out]
        go_wp2
        go_round
        case rel => exact ⟨k + 1, by omega, by go_num, fun j hj => by
          by_cases e : j = k
          · subst e; rw [Ex.out, Ey.out, Hxy.out]
          · exact Heq.out j (by omega)⟩
        case measure => simp [intOf]; omega
      · have Fin : Hid (decide (sgnI x y < 0) = lessI p q n) := Lib.hid (by
          rw [lessI_at hlt Heq.out (by rw [Ex.out, Ey.out]; exact hxy), Ex.out, Ey.out]
          unfold sgnI
          by_cases h1 : x < y
          · rw [if_pos h1, decide_eq_true h1]; rfl
          · rw [if_neg h1, if_pos (by omega), decide_eq_false h1]; rfl)
        have hne : (sgnI x y != 0) = true := by
          rw [bne_iff_ne]; unfold sgnI; split
          · decide
          · rw [if_pos (by omega)]; decide
        have hne' : (sgnI x y == 0) = false := by
          rw [beq_eq_false_iff_ne]; exact bne_iff_ne.1 hne
        clear hxy
        go_wp2_with fail
        refine (cmpI x y w).mono ?_
        rintro e w1 ⟨rfl, rfl⟩
        go_wp2
        go_ret
        exact ⟨_, rfl, Fin, rfl⟩
    · have hkn : k = n := by omega
      subst hkn
      have Fin : Hid (decide ((0 : Int) < 0) = lessI p q k) := Lib.hid (by rw [lessI_end Heq.out]; rfl)
      go_wp2
      go_ret
      exact ⟨_, rfl, Fin, rfl⟩


end Go.Proofs.Ytedfcljikgmpgaa

/- slices.SortFunc of rows by slices.Compare, where no two begin alike; SortedFunc; sets. Conditions: at most 20 points. -/
namespace Go.Proofs.Ytedfcljikgmpgaa
open Go.RowKit Go.Sort Go.Shelf
attribute [local go_sem] Oper.semAt_some

def cmpH (p q : List Int) : Int := sgnI (p.getD 0 0) (q.getD 0 0)
set_option maxHeartbeats 1000000 in
set_option maxRecDepth 100000 in
/-- slices.Compare of two lists that are one or begin otherwise. -/
theorem sCmpV (A B : Option Addr) (c d n m : Nat) (p q : List Int) (w : World) (hp : RI w w.heap.size A p) (hq : RI w w.heap.size B q) (lp : Hid (p.length = n)) (lq : Hid (q.length = m)) (hn : 1 ≤ n ∧ n ≤ 20) (hm : 1 ≤ m ∧ m ≤ 20) (hpq : p.getD 0 0 = q.getD 0 0 → p = q) :
    Calls Try.prog 95 #[.slice A n c, .slice B m d] w fun e w' => e = .returned (.int .i64 (cmpH p q)) ∧ w = w' := by
  by_cases he : p.getD 0 0 = q.getD 0 0
  · obtain rfl := hpq he
    obtain rfl : n = m := by rw [← lp.out, lq.out]
    have Z : Hid ((0 : Int) = cmpH p p) := Lib.hid (by unfold cmpH sgnI; simp)
    clear he hpq
    go_enter Try.func95, Try.ntmps95
    go_wp2
    go_loop [5, 6, 7, 8, 11] (fun _ _ _ _ i => ∃ k : Nat, k ≤ n ∧ i = .int .i64 (k : Nat)) (fun _ _ _ _ i => n - (intOf i).toNat)
    case atStart => exact ⟨0, Nat.zero_le _, rfl⟩
    case round =>
      obtain ⟨k, hk, rfl⟩ := hrel
      by_cases hlt : k < n
      · obtain ⟨b, off, rfl, hb, hc⟩ := hp (by rw [lp.out]; omega)
        obtain ⟨b', off', rfl, hb', hc'⟩ := hq (by rw [lp.out]; omega)
        have c1 := hc k (by rw [lp.out]; omega)
        have c2 := hc' k (by rw [lp.out]; omega)
        obtain ⟨x, ex⟩ : ∃ x, p.getD k 0 = x := ⟨_, rfl⟩
        rw [ex] at c1 c2
        have Z2 : Hid (sgnI x x = 0) := Lib.hid (by unfold sgnI; simp)
        clear ex hc hc' hp hq
        go_wp2_with fail
        refine (cmpI x x w).mono ?_
        rintro e w1 ⟨rfl, rfl⟩
        rw [Z2.out]
        go_wp2
        go_round
        case rel => exact ⟨k + 1, by omega, by go_num⟩
        case measure => simp [intOf]; omega
      · obtain rfl : k = n := by omega
        go_wp2
        go_ret
        exact ⟨ret_int Z.out, rfl⟩
  · obtain ⟨b, off, rfl, hb, hc⟩ := hp (by rw [lp.out]; omega)
    obtain ⟨b', off', rfl, hb', hc'⟩ := hq (by rw [lq.out]; omega)
    have c1 := hc 0 (by rw [lp.out]; omega)
    have c2 := hc' 0 (by rw [lq.out]; omega)
    obtain ⟨x, ex⟩ : ∃ x, p.getD 0 0 = x := ⟨_, rfl⟩
    obtain ⟨y, ey⟩ : ∃ y, q.getD 0 0 = y := ⟨_, rfl⟩
    rw [ex] at c1 he
    rw [ey] at c2 he
    rw [Nat.add_zero] at c1 c2
    have Fin : Hid (sgnI x y = cmpH p q) := Lib.hid (by unfold cmpH; rw [ex, ey])
    have hne : (sgnI x y != 0) = true := by
      rw [bne_iff_ne]; unfold sgnI; split
      · decide
      · rw [if_pos (by omega)]; decide
    have hne' : (sgnI x y == 0) = false := by
      rw [beq_eq_false_iff_ne]; exact bne_iff_ne.1 hne
    clear ex ey hc hc' hp hq he hpq
    go_enter Try.func95, Try.ntmps95
    go_wp2
    go_loop [5, 6, 7, 8, 11] (fun _ _ _ _ i => i = .int .i64 0) (fun _ _ _ _ _ => 0)
    case atStart => rfl
    case round =>
      obtain rfl := hrel
      have q1 : (0 : Int) < n := by omega
      have q2 : (0 : Int) < m := by omega
      have q3 : ¬ (m : Int) ≤ 0 := by omega
      go_wp2_with fail
      refine (cmpI x y w).mono ?_
      rintro e w1 ⟨rfl, rfl⟩
      go_wp2
      go_ret
      exact ⟨ret_int Fin.out, rfl⟩

/-- A row of w, with the numbers that it holds. -/
def RV (w : World) (bi : Nat) (S : List Int → Prop) : Type := {x : SV × List Int // x.1.2.1 = x.2.length ∧ Slc w bi x.1.1 x.2.length x.1.2.2 x.2 ∧ S x.2}
def RV.enc {w : World} {bi : Nat} {S : List Int → Prop} (x : RV w bi S) : Value := sval x.1.1
def RV.sv {w : World} {bi : Nat} {S : List Int → Prop} (x : RV w bi S) : SV := x.1.1
def RV.per {w : World} {bi : Nat} {S : List Int → Prop} (x : RV w bi S) : List Int := x.1.2
def RV.cf {w : World} {bi : Nat} {S : List Int → Prop} (x y : RV w bi S) : Int := cmpH x.per y.per
theorem rv_lt {w : World} {bi : Nat} {S : List Int → Prop} (x y : RV w bi S) : ltOf RV.cf x y = true ↔ x.per.getD 0 0 < y.per.getD 0 0 := by
  unfold ltOf RV.cf cmpH sgnI
  rw [decide_eq_true_eq]
  generalize x.per.getD 0 0 = a
  generalize y.per.getD 0 0 = b
  split
  · constructor <;> intro _ <;> omega
  · split <;> constructor <;> intro _ <;> omega
theorem rv_ltF {w : World} {bi : Nat} {S : List Int → Prop} (x y : RV w bi S) : ltOf RV.cf x y = false ↔ ¬ x.per.getD 0 0 < y.per.getD 0 0 := by
  rw [← rv_lt]; cases ltOf RV.cf x y <;> simp
theorem rv_swo {w : World} {bi : Nat} {S : List Int → Prop} : SWO (ltOf (RV.cf (w := w) (bi := bi) (S := S))) where
  irrefl x := (rv_ltF x x).2 (by omega)
  trans x y z h1 h2 := (rv_lt x z).2 (by have := (rv_lt x y).1 h1; have := (rv_lt y z).1 h2; omega)
  ntrans x y z h1 h2 := (rv_ltF x z).2 (by have := (rv_ltF x y).1 h1; have := (rv_ltF y z).1 h2; omega)
theorem rv_list {w : World} {bi : Nat} {S : List Int → Prop} : ∀ (us : List SV) (xs : List (List Int)), us.length = xs.length → (∀ t, t < xs.length → (us.getD t sd0).2.1 = (xs.getD t []).length ∧ Slc w bi (us.getD t sd0).1 (xs.getD t []).length (us.getD t sd0).2.2 (xs.getD t []) ∧ S (xs.getD t [])) →
    ∃ l : List (RV w bi S), l.map RV.sv = us ∧ l.map RV.per = xs
  | [], [], _, _ => ⟨[], rfl, rfl⟩
  | [], _ :: _, h, _ => by simp at h
  | _ :: _, [], h, _ => by simp at h
  | u :: us, x :: xs, h, hr => by
    obtain ⟨l, e1, e2⟩ := rv_list us xs (by simpa using h) fun t ht => by
      exact hr (t + 1) (by simp; omega)
    have h0 := hr 0 (by simp)
    exact ⟨⟨(u, x), h0⟩ :: l, congrArg (u :: ·) e1, congrArg (x :: ·) e2⟩
theorem rv_sorted {w : World} {bi N : Nat} {S : List Int → Prop} (hR : Rws N S) {d' : Array (RV w bi S)} [Inhabited (RV w bi S)] {xs : List (List Int)} (hs : SortedIn (ltOf RV.cf) 0 d'.size d') (hm : (d'.toList.map RV.per).Perm xs) (hd : xs.Nodup) :
    (d'.toList.map RV.per).Pairwise fun p q => p.getD 0 0 < q.getD 0 0 := by
  have hnd := hm.symm.nodup hd
  rw [List.pairwise_iff_getElem]
  intro i j hi hj hij
  have hi2 : i < d'.size := by simpa using hi
  have hj2 : j < d'.size := by simpa using hj
  have h1 := (rv_ltF _ _).1 (hs i j (Nat.zero_le _) hij hj2)
  rw [getElem!_pos d' i hi2, getElem!_pos d' j hj2] at h1
  have e1 : (d'.toList.map RV.per)[i] = (d'[i]).per := by simp
  have e2 : (d'.toList.map RV.per)[j] = (d'[j]).per := by simp
  have hne := (List.pairwise_iff_getElem.1 hnd) i j hi hj hij
  rw [e1, e2] at hne ⊢
  have : (d'[i]).per.getD 0 0 ≠ (d'[j]).per.getD 0 0 := fun e => hne (hR.inj _ _ (d'[i]).2.2.2 (d'[j]).2.2.2 e)
  omega

set_option maxHeartbeats 1000000 in
theorem sortRowsV (N bi base n c g : Nat) (S : List Int → Prop) (us : List SV) (xs : List (List Int)) (w : World) (h : SS w base bi (some ⟨g, 0, none⟩) n c us xs) (hR : Rws N S) (hP : ∀ p, p ∈ xs → S p) (hd : xs.Nodup) (h0 : 0 < n) (hn : n ≤ 200) (h2 : N ≤ 20) :
    Calls Try.prog 112 #[.slice (some ⟨g, 0, none⟩) n c, .func (.func 95) #[] #[]] w fun e w' =>
      e = .returned (.tuple #[]) ∧ ∃ us' xs', SS w' base bi (some ⟨g, 0, none⟩) n c us' xs' ∧ (xs'.Pairwise fun p q => p.getD 0 0 < q.getD 0 0) ∧ (∀ p, p ∈ xs' ↔ p ∈ xs) ∧ w.grownBy w' (some g) := by
  obtain ⟨l, e1, e2⟩ := rv_list (w := w) (bi := bi) (S := S) us xs (by rw [h.lv, h.lx]) fun t ht => by
    have hp : S (xs.getD t []) := hP _ (getD_memL ht)
    have hr := h.row t (by rw [← h.lx]; exact ht)
    have e := hr.1
    rw [← e] at hr
    exact ⟨e.symm, hr, hp⟩
  have hl : l.length = n := by rw [← h.lv, ← e1, List.length_map]
  haveI : Inhabited (RV w bi S) := ⟨l[0]'(by omega)⟩
  have eg : ∀ args w, (callFunc 95 args).run Try.prog w = .ok (.enter 95 args) w := enters_of Try.func95 (by kernel_rfl) rfl
  have ho : w.ownsRow base 48 1 (.slice (some ⟨g, 0, none⟩) l.length c) l.length (l.map RV.enc) := by
    have := h.own
    rw [← e1, List.map_map] at this
    rw [hl]; exact this
  have hH := holds_own RV.enc ho
  have hap : ∀ x : RV w bi S, (Value.slice x.1.1.1 x.1.2.length x.1.1.2.2).ownBlock = none ∨ (Value.slice x.1.1.1 x.1.2.length x.1.1.2.2).ownBlock ≠ some g := fun x => apart_types x.2.2.1 h.own
  have hcmp : CmpLays1 Try.prog 95 #[] RV.enc RV.cf g 0 l.toArray.size w := fun m os dk hs x y => by
    have hx := (x.2.2.1.kept (grown_put RV.enc w m g dk os) (hap x)).ri_
    have hy := (y.2.2.1.kept (grown_put RV.enc w m g dk os) (hap y)).ri_
    have ex : x.enc = .slice x.1.1.1 x.1.2.length x.1.1.2.2 := by have := x.2.1; unfold RV.enc sval; rw [this]
    have ey : y.enc = .slice y.1.1.1 y.1.2.length y.1.1.2.2 := by have := y.2.1; unfold RV.enc sval; rw [this]
    rw [ex, ey]
    have sx := x.2.2.2
    have sy := y.2.2.2
    refine (sCmpV x.1.1.1 y.1.1.1 x.1.1.2.2 y.1.1.2.2 x.1.2.length y.1.2.length x.per y.per _ hx hy (Lib.hid rfl) (Lib.hid rfl) ⟨hR.pos sx, Nat.le_trans (hR.len _ sx) h2⟩ ⟨hR.pos sy, Nat.le_trans (hR.len _ sy) h2⟩ (hR.inj _ _ sx sy)).mono ?_
    rintro e w' ⟨rfl, rfl⟩
    exact ⟨rfl, 0, #[], (by rw [grow_empty]; rfl)⟩
  have hblk : g < w.heap.size := (World.ownsRow.lt h.own g rfl).2
  have hsz : l.toArray.size = n := by simp [hl]
  have K := Any.slices_SortFunc laySortF RV.enc (fun _ => rfl) RV.cf rv_swo 95 #[] g 0 c l.toArray w eg hcmp hH hblk (by omega)
  rw [hsz] at K
  refine Calls.mono K ?_
  rintro e w' ⟨rfl, d', m, os, hpm, hso, rfl⟩
  have hd' : d'.size = n := by rw [hpm.1, hsz]
  have hperm : d'.toList.Perm l := by
    have := hpm.2.2
    have a1 : d'.extract 0 n = d' := by rw [← hd']; simp
    have a2 : l.toArray.extract 0 n = l.toArray := by rw [← hsz]; simp
    rw [a1, a2] at this
    simpa using this
  have hpx : (d'.toList.map RV.per).Perm xs := by rw [← e2]; exact hperm.map _
  have hso2 := rv_sorted hR (d' := d') (by rw [hd']; exact hso) hpx hd
  have hown := own_put RV.enc (ts := d'.toList) (n := l.length) ho (by simp [hd', hl]) (Nat.le_refl _) m os
  have hgr := grown_put RV.enc w m g d' os
  refine ⟨rfl, d'.toList.map RV.sv, d'.toList.map RV.per, ?_, hso2, fun p => hpx.mem_iff, hgr⟩
  have hlen : (d'.toList.map RV.per).length = n := by simp [hd']
  have hrw : Rw1 (sortWorld RV.enc w g 0 m d' os) bi (d'.toList.map RV.sv) (d'.toList.map RV.per) := ⟨by simp, fun t ht => by
    have ht2 : t < d'.toList.length := by simpa using ht
    have a1 : (d'.toList.map RV.sv).getD t sd0 = (d'.toList[t]).sv := by rw [List.getD_eq_getElem?_getD, List.getElem?_map, List.getElem?_eq_getElem ht2]; rfl
    have a2 : (d'.toList.map RV.per).getD t [] = (d'.toList[t]).per := by rw [List.getD_eq_getElem?_getD, List.getElem?_map, List.getElem?_eq_getElem ht2]; rfl
    rw [a1, a2]
    exact ⟨(d'.toList[t]).2.1, (d'.toList[t]).2.2.1.kept hgr (hap _)⟩⟩
  have hfin := hrw.ss (bo := base) (c := c) (A := some ⟨g, 0, none⟩) (fun _ _ => rfl) (by
    rw [hlen, List.map_map]
    rw [hl] at hown
    rw [List.take_of_length_le (by simp [hd'])] at hown
    exact hown) (hpx.symm.nodup hd) hR (fun p hp => hP p (hpx.mem_iff.1 hp))
  rw [hlen] at hfin
  exact hfin

set_option maxHeartbeats 1600000 in
set_option maxRecDepth 100000 in
/-- slices.SortedFunc over an iterator of rows. -/
theorem sortedV (N bi : Nat) (gf : Nat) (ef : ∀ args w, (callFunc gf args).run Try.prog w = .ok (.enter gf args) w) (lb : Array Value) (S : List Int → Prop) (w w0 : World) (hs : ItsV gf lb w0 bi S) (hk : ∀ k, k < w0.heap.size → w.heap[k]? = w0.heap[k]?) (hsz : w0.heap.size ≤ w.heap.size) (hN2 : N ≤ 20) (hR : Hid (Rws N S)) (hne : Hid (∃ p, S p)) :
    Calls Try.prog 93 #[.func (.func gf) #[] lb, .func (.func 95) #[] #[]] w fun e w' => ∃ A' n' c' us xs, e = .returned (.slice A' n' c') ∧ SS w' w.heap.size bi A' n' c' us xs ∧ (xs.Pairwise fun p q => p.getD 0 0 < q.getD 0 0) ∧ (∀ p, p ∈ xs ↔ S p) ∧ Below w.heap.size w w' := by
  have HS := Lib.hid hs
  have HK := Lib.hid hk
  clear hs hk
  go_enter Try.func93, Try.ntmps93
  go_wp2_with (go_at_call 111; fail)
  refine (collectV N bi gf ef lb S w w0 HS.out HK.out hsz hN2 hR).mono ?_
  rintro e w1 ⟨A1, c1, us, xs, rfl, n1, m1, s1, b1⟩
  have N1 := Lib.hid n1
  have M1 := Lib.hid m1
  have B1 := Lib.hid b1
  have hpos : 0 < xs.length := by
    obtain ⟨p, hp⟩ := hne.out
    have := (m1 p).2 hp
    cases xs with
    | nil => cases this
    | cons a t => simp
  have hle : xs.length ≤ 200 := by have := hR.out.few n1 (fun p hp => (m1 p).1 hp); omega
  obtain ⟨g, rfl, hg⟩ : ∃ g, A1 = some ⟨g, 0, none⟩ ∧ w.heap.size ≤ g := by
    rcases s1.own.2 with ⟨e, h0⟩ | ⟨g, cap, cur, e, hb, _⟩
    · omega
    · injection e with e1 e2 e3; exact ⟨g, e1, hb⟩
  have S1 := Lib.hid s1
  clear n1 m1 s1 b1
  go_wp2_with (go_at_call 112; fail)
  refine (sortRowsV N bi w.heap.size xs.length c1 g S us xs w1 S1.out hR.out (fun p hp => (M1.out p).1 hp) N1.out hpos hle hN2).mono ?_
  rintro e w2 ⟨rfl, us', xs', s2, p2, m2, g2⟩
  have S2 := Lib.hid s2
  have P2 := Lib.hid p2
  have M2 : Hid (∀ p, p ∈ xs' ↔ S p) := Lib.hid fun p => (m2 p).trans (M1.out p)
  have B2 : Hid (Below w.heap.size w w2) := Lib.hid (B1.out.grown g2 B1.out.size (fun k e => by injection e with e; omega))
  clear s2 p2 m2 g2
  go_wp2_with fail
  go_ret
  exact ⟨_, _, _, us', xs', rfl, S2.out, P2.out, M2.out, B2.out⟩

set_option maxHeartbeats 4000000 in
set_option maxRecDepth 100000 in
/-- sets: the partition by the smallest ones. -/
theorem ufSets (b N cp : Nat) (f : Nat → Option Nat) (D : DataW Value) (A : Option Addr) (w : World) (h : UF w b N f D) (hA : RI w w.heap.size A (idL N)) (h1 : 1 ≤ N) (hN : N ≤ 20) :
    Calls Try.prog 62 #[.map (some b), .slice A N cp] w fun e w' => ∃ A' n' c' us, e = .returned (.slice A' n' c') ∧ SS w' w.heap.size w.heap.size A' n' c' us (canon N (rt f)) ∧ Below w.heap.size w w' := by
  have H := Lib.hid h
  have L := Lib.hid h.lk
  have HA := Lib.hid hA
  have ef : ∀ args w, (callFunc 113 args).run Try.prog w = .ok (.enter 113 args) w := enters_of Try.func113 (by kernel_rfl) rfl
  clear h hA
  have hmm := @run_makeMap Try.prog
  go_enter Try.func62, Try.ntmps62
  have E0 : Hid (GM (w.alloc (.map #[] 0)) w.heap.size w.heap.size N (Gth N f 0) (.map [])) := Lib.hid ((GM.made w w.heap.size N).ext fun p => ⟨fun h => h.elim, fun h => gth_zero p h⟩)
  have B0 : Hid (Below w.heap.size w (w.alloc (.map #[] 0))) := Lib.hid ((Below.refl _ w).alloc (Nat.le_refl _) _)
  go_wp2_with fail
  go_loopw [12] (fun iv wr => ∃ (t : Nat) (D' : DataW Value), t ≤ N ∧ iv = .int .i64 (t : Nat) ∧ GM wr w.heap.size w.heap.size N (Gth N f t) D' ∧ Below w.heap.size w wr) (fun iv _ => N - (intOf iv).toNat)
  case atStart => exact ⟨0, _, Nat.zero_le _, rfl, E0.out, B0.out⟩
  case round =>
    clear E0 B0
    obtain ⟨t, D', ht, rfl, hgm, bel⟩ := hrel
    have Gm := Lib.hid hgm
    have Be := Lib.hid bel
    clear hgm bel
    by_cases hlt : t < N
    · obtain ⟨bz, oz, rfl, hbz, hc⟩ := (HA.out.up Be.out) (by rw [idL_length]; omega)
      have z0 := hc t (by rw [idL_length]; exact hlt)
      rw [idL_getD hlt] at z0
      obtain ⟨l, el⟩ : ∃ l, rt f t = l := ⟨_, rfl⟩
      have hl : l < N := by have := rt_le L.out t; omega
      have El := Lib.hid el
      clear hc el hbz
      go_wp2_with fail
      refine (ufSmallest b N t f D wr (H.out.up Be.out) hlt hN).mono ?_
      rintro e w1 ⟨rfl, rfl⟩
      rw [El.out]
      have Hsz : Hid (Maps.size D' < maxLen) := Lib.hid (by have := Gm.out.size; unfold maxLen; omega)
      by_cases hn : ptsL (fun y => decide (rt f y = rt f t)) t = []
      · obtain ⟨e0, hS⟩ := gth_new L.out hlt hn
        obtain rfl : l = t := by rw [← El.out, e0]
        have Hnk : Hid (∀ q, Gth N f l q → hdN q ≠ l) := Lib.hid fun q ⟨l', a1, a2, a3, a4⟩ e => by
          subst a3
          have a5 := gth_hd L.out a2 a4
          have a6 : hdN (ptsL (fun y => decide (rt f y = l')) l) = l' := by unfold hdN; rw [a5.2]; rfl
          omega
        have Hat : Hid (D'.atKey (kI l) (.held (.slice none 0 0)) = .held (.slice none 0 0)) := Lib.hid (Maps.atKey_of_not_has (by
          rcases hh : Maps.has D' (kI l) with _ | _
          · rfl
          · obtain ⟨q, hq, e⟩ := Gm.out.key _ hh
            exact absurd (kI_inj e).symm (Hnk.out q hq)) _)
        have HS := Lib.hid hS
        clear hS hn e0
        go_wp2_with (first
          | (at_lookup; refine wpList_gmLook rfl _ _ rfl Gm.out rfl l rfl hl hN (.slice none 0 0) Hat.out ?_)
          | (at_builtin; refine wpList_app1 rfl _ _ rfl w.heap.size none 0 0 [] rfl Slc.nil_ _ (l : Int) rfl (by rw [World.cell?_alloc_at _ _ _ _ rfl]; rfl) (by omega) (by have := Be.out.size; simp; omega) ?_; intro A3 c3 w3 s3 g3
             have S3 := Lib.hid s3
             have G3 := Lib.hid g3
             clear s3 g3)
          | (at_mapUpdate; refine wpList_mapUpdate_own _ rfl _ _ _ 81 rfl 2 48 lawI Try.underlying81 Rx w.heap.size (Maps.size D') D' rfl ((Gm.out.own.alloc _).kept G3.out (by simp [Value.ownBlock])) Hsz.out _ _ (kI l) rfl rfl (keyOf_I (by omega)) (.held (.slice A3 1 c3)) [] rfl ?_; intro w4 ho4 hg4)
          | go_in)
        have Ga : Hid (wr.grownBy w3 none) := Lib.hid ((World.grownBy_alloc wr _ none).trans G3.out)
        have Gm4 := Lib.hid ((Gm.out.fresh hN hl Hnk.out S3.out Ga.out hg4 ho4).ext HS.out)
        have Be4 : Hid (Below w.heap.size w w4) := Lib.hid ((Be.out.grown Ga.out Be.out.size (by simp)).grown hg4 (by have := Be.out.size; have := Ga.out.size; omega) (fun k e => by injection e with e; omega))
        clear ho4 hg4
        go_wp2_with fail
        go_roundw
        case rel => exact ⟨l + 1, _, by omega, by go_num, Gm4.out, Be4.out⟩
        case measure => simp [intOf]; omega
      · have hr := rt_root L.out t
        obtain ⟨hlt2, hhd⟩ := gth_hd L.out hr hn
        obtain ⟨p, ep⟩ : ∃ p, ptsL (fun y => decide (rt f y = rt f t)) t = p := ⟨_, rfl⟩
        have hmore := gth_more L.out hlt hn
        rw [ep] at hhd hn hmore
        have hp : Gth N f t p := ⟨rt f t, by rw [El.out]; exact hl, hr, ep.symm, hn⟩
        have hdp : hdN p = l := by unfold hdN; rw [hhd, El.out]; rfl
        have hplt : p.length < N := by have := ptsL_le (fun y => decide (rt f y = rt f t)) t; rw [ep] at this; omega
        obtain ⟨Ap, cpp, hat, hsp⟩ := Gm.out.row p hp
        obtain ⟨m, em⟩ : ∃ m, p.length = m := ⟨_, rfl⟩
        have Em := Lib.hid em
        have Hp := Lib.hid hp
        have Hsp := Lib.hid hsp
        have Hat := Lib.hid hat
        have Hat0 : Hid (D'.atKey (kI l) (.held (.slice none 0 0)) = .held (.slice Ap m cpp)) := Lib.hid (by rw [← hdp, ← em]; exact hat _)
        have Hdp := Lib.hid hdp
        have Hm := Lib.hid hmore
        have Hsp2 : Hid (Slc wr w.heap.size Ap m cpp p) := Lib.hid (by rw [← em]; exact hsp)
        have Hob : Hid (some w.heap.size ≠ (Value.slice Ap m cpp).ownBlock) := Lib.hid (by rw [← em]; exact fun e => slc_blk hsp Gm.out.noCells e.symm)
        have hmN : m < N := by omega
        clear hhd hn hmore hp hsp hat hr ep em hdp hplt hlt2
        go_wp2_with (first
          | (at_lookup; refine wpList_gmLook rfl _ _ rfl Gm.out rfl l rfl hl hN (.slice Ap m cpp) Hat0.out ?_)
          | (at_builtin; refine wpList_app1 rfl _ _ rfl w.heap.size Ap m cpp p rfl (Hsp2.out.alloc _) _ (t : Int) rfl (by rw [World.cell?_alloc_at _ _ _ _ rfl]; rfl) (by omega) (by have := Be.out.size; simp; omega) ?_; intro A3 c3 w3 s3 g3
             have S3 := Lib.hid s3
             have G3 := Lib.hid g3
             clear s3 g3)
          | (at_mapUpdate; refine wpList_mapUpdate_own _ rfl _ _ _ 81 rfl 2 48 lawI Try.underlying81 Rx w.heap.size (Maps.size D') D' rfl ((Gm.out.own.alloc _).kept G3.out Hob.out) Hsz.out _ _ (kI l) rfl rfl (keyOf_I (by omega)) (.held (.slice A3 (m + 1) c3)) [] rfl ?_; intro w4 ho4 hg4)
          | go_in)
        have Ga : Hid (wr.grownBy w3 (Value.slice Ap m cpp).ownBlock) := Lib.hid ((World.grownBy_alloc wr _ _).trans G3.out)
        have Gm4 : Hid (∃ D4, GM w4 w.heap.size w.heap.size N (Gth N f (t + 1)) D4) := Lib.hid ⟨_, (Gm.out.more hN Hp.out (x := (t : Int)) (by rw [Em.out]; omega) Hat.out Hsp.out (by rw [Em.out]; exact S3.out) (by rw [Em.out]; exact Ga.out) hg4 (by rw [Hdp.out, Em.out]; exact ho4)).ext Hm.out⟩
        have Be4 : Hid (Below w.heap.size w w4) := Lib.hid ((Be.out.grown Ga.out Be.out.size (fun k e => (Hsp2.out.lt_ k e).1)).grown hg4 (by have := Be.out.size; have := Ga.out.size; omega) (fun k e => by injection e with e; omega))
        clear ho4 hg4
        obtain ⟨D4, hgm4⟩ := Gm4.out
        have Gm5 := Lib.hid hgm4
        clear hgm4 Gm4
        go_wp2_with fail
        go_roundw
        case rel => exact ⟨t + 1, D4, by omega, by go_num, Gm5.out, Be4.out⟩
        case measure => simp [intOf]; omega
    · obtain rfl : t = N := by omega
      have hsz := Be.out.size
      go_wp2_with (first
        | (go_at_call 94; refine (mapsValuesI w.heap.size wr).mono ?_; rintro e w4 ⟨rfl, e4⟩
           have B4 : Hid (Below wr.heap.size wr w4) := Lib.hid (by rw [e4]; exact (Below.refl _ _).alloc (Nat.le_refl _) _)
           have I4 : Hid (ItsV 113 #[.pointer (some ⟨wr.heap.size, 0, none⟩)] w4 w.heap.size (Gth t f t)) := Lib.hid (itsValsI t w.heap.size w.heap.size wr.heap.size hN _ D' w4 (Gm.out.up B4.out) (by rw [e4]; exact Blk.new _ _ _))
           clear e4)
        | (go_at_call 93; refine (sortedV t w.heap.size _ ef _ _ w4 w4 I4.out (fun _ _ => rfl) (Nat.le_refl _) hN (Lib.hid Gm.out.rs) (Lib.hid ⟨_, (gth_all L.out _).2 (mem_canon.2 ⟨0, by omega, fstB_iff.2 fun y hy => absurd hy (Nat.not_lt_zero _), rfl⟩)⟩)).mono ?_; rintro e w5 ⟨A5, n5, c5, us, xs, rfl, s5, p5, m5, b5⟩
           have B5 : Hid (Below w.heap.size w w5) := Lib.hid (btr (btr Be.out B4.out) b5)
           have S5 : Hid (SS w5 w.heap.size w.heap.size A5 n5 c5 us (canon t (rt f))) := Lib.hid (by
             have ex : xs = canon t (rt f) := hd_uniq p5 canon_hd fun p => (m5 p).trans (gth_all L.out p)
             rw [← ex]
             exact s5.mono (by have := B4.out.size; omega) (Nat.le_refl _))
           clear s5 p5 m5 b5)
        | go_in)
      go_ret
      exact ⟨_, _, _, us, rfl, S5.out, B5.out⟩
end Go.Proofs.Ytedfcljikgmpgaa

/- The program's MinimalBlockSystem and JoinBlockSystems. Conditions: at most 1048576 lists of at most 1048576 numbers. -/
namespace Go.Proofs.Ytedfcljikgmpgaa
open Go.RowKit

theorem rf_empty {N : Nat} {q : Nat → Nat} : Rf N (rt fun _ => none) q := fun u v _ _ e => by rw [rt_empty, rt_empty] at e; rw [e]
theorem lst_empty {gs : List (List Int)} {N x y : Nat} {r : Nat → Nat} (h : UI gs N (rt fun _ => none) r x y) : LstM gs N x y r :=
  ⟨⟨h.eq, h.img r (Rf.refl _ _) fun _ _ => rf_empty⟩, fun q hq => h.least q rf_empty hq.1 hq.2⟩

set_option maxHeartbeats 4000000 in
set_option maxRecDepth 100000 in
/-- MinimalBlockSystem, at points of a generator set. -/
theorem implMinP (N n c X Y : Nat) (A : Option Addr) (vs : List SV) (xss : List (List Int)) (w : World) (g : GIn w A n vs xss) (hs : Hid (gB N xss = true)) (hX : X < N) (hY : Y < N) :
    Calls Try.prog 23 #[.int .i64 (N : Nat), .slice A n c, .int .i64 (X : Nat), .int .i64 (Y : Nat)] w fun e w' => ∃ A' m' c' us r, e = .returned (.slice A' m' c') ∧ LstM xss N X Y r ∧ SS w' w.heap.size w.heap.size A' m' c' us (canon N r) ∧ Below w.heap.size w w' := by
  have hmm := @run_makeMap Try.prog
  have G := Lib.hid g
  have HX := Lib.hid g.rr
  have hlx : Hid (xss.length = n) := Lib.hid g.rr.lx
  have hn := g.hn
  have hl := Lib.hid g.hl
  obtain ⟨N', eN, hN1, hN2, hg8, hpm, hok⟩ := gB_pm hs.out
  obtain rfl : N = N' := by omega
  have Ok : Hid (∀ g ∈ xss, Pn N g) := Lib.hid hok
  have hn8 : n ≤ 8 := by rw [← hlx.out]; exact hg8
  have dX : decide (0 ≤ (X : Int) ∧ (X : Int) < (N : Int)) = true := by simp; omega
  have dY : decide (0 ≤ (Y : Int) ∧ (Y : Int) < (N : Int)) = true := by simp; omega
  clear g hpm hok hg8 eN
  go_enter Try.func23, Try.ntmps23
  go_wp2_with (first
    | (go_at_call 52; refine (implGS N A n c vs xss w HX.out hn hl).mono ?_; rintro e w1 ⟨rfl, b1⟩; rw [hs.out]; have B1 := Lib.hid b1; clear b1)
    | (go_at_call_of 60 (Value.int .i64 (X : Int)); refine (implPt N X w1).mono ?_; rintro e w2 ⟨rfl, rfl⟩; rw [dX])
    | (go_at_call_of 60 (Value.int .i64 (Y : Int)); refine (implPt N Y w1).mono ?_; rintro e w2 ⟨rfl, rfl⟩; rw [dY])
    | (go_at_call 61; fail))
  have hz1 := B1.out.size
  have U0 := Lib.hid (UF.made w1 N)
  have X0 : Hid (RR (w1.alloc (.map #[] 0)) w1.heap.size A n vs xss) := Lib.hid ((HX.out.up B1.out).alloc (Nat.le_refl _) _)
  have Bm : Hid (Below w.heap.size w (w1.alloc (.map #[] 0))) := Lib.hid (B1.out.alloc hz1 _)
  refine (ufImages N w1.heap.size n c w1.heap.size A vs xss (Nat.le_refl _) Ok hn8 hN2 N (fun _ => none) _ X Y _ (cls_le N _) U0.out X0.out hX hY).mono ?_
  rintro e w3 ⟨f, D, rfl, u3, m3, g3⟩
  have U3 := Lib.hid u3
  have M3 := Lib.hid (lst_empty m3)
  have B3 : Hid (Below w.heap.size w w3) := Lib.hid (Bm.out.grown g3 (by simp; omega) (fun k e => by injection e with e; omega))
  have hz3 := B3.out.size
  generalize w1.heap.size = b at U3 hz1 ⊢
  clear u3 m3 g3 U0 X0 Bm
  go_wp2_with (first
    | (go_at_call 63; refine (implId_core N w3 hN1 hN2).mono ?_; rintro e w4 ⟨A4, c4, rfl, s4, b4⟩
       have S4 := Lib.hid s4
       have U4 := Lib.hid (U3.out.up b4)
       have B4 : Hid (Below w.heap.size w w4) := Lib.hid (btr B3.out b4)
       clear s4 b4)
    | (go_at_call 62; refine (ufSets b N c4 f D A4 w4 U4.out S4.out.ri_ hN1 hN2).mono ?_; rintro e w5 ⟨A5, n5, c5, us, rfl, s5, b5⟩
       have B5 : Hid (Below w.heap.size w w5) := Lib.hid (btr B4.out b5)
       have S5 : Hid (SS w5 w.heap.size w.heap.size A5 n5 c5 us (canon N (rt f))) := Lib.hid (s5.mono B4.out.size B4.out.size)
       clear s5 b5)
    | go_in)
  go_ret
  exact ⟨_, _, _, us, rt f, rfl, M3.out, S5.out, B5.out⟩
set_option maxHeartbeats 4000000 in
set_option maxRecDepth 100000 in
/-- MinimalBlockSystem. -/
theorem implMinimalBlockSystem : CtImiiM 23 IsMin := by
  intro a A n c vs xss x y w g _ _ _
  have HX := Lib.hid g.rr
  have hn := g.hn
  have hl := Lib.hid g.hl
  rcases hs : gB a xss with _ | _
  · have Fin : Hid (IsMin a xss x y []) := Lib.hid (.inr ⟨fun h => (by have := h.1; rw [hs] at this; cases this), rfl⟩)
    have Hs := Lib.hid hs
    clear hs g
    go_enter Try.func23, Try.ntmps23
    go_wp2_with (first
      | (go_at_call 52; refine (implGS a A n c vs xss w HX.out hn hl).mono ?_; rintro e w1 ⟨rfl, b1⟩; rw [Hs.out]; have B1 := Lib.hid b1; clear b1))
    go_ret
    exact ⟨_, _, _, _, _, rfl, SS.nil_, Fin.out, B1.out⟩
  · have Hs := Lib.hid hs
    by_cases hx : 0 ≤ x ∧ x < a
    · by_cases hy : 0 ≤ y ∧ y < a
      · obtain ⟨N, rfl, hN1, hN2, _, _, _⟩ := gB_pm hs
        obtain ⟨X, rfl⟩ : ∃ X : Nat, x = (X : Int) := ⟨x.toNat, by omega⟩
        obtain ⟨Y, rfl⟩ : ∃ Y : Nat, y = (Y : Int) := ⟨y.toNat, by omega⟩
        refine (implMinP N n c X Y A vs xss w g Hs (by omega) (by omega)).mono ?_
        rintro e w1 ⟨A1, m1, c1, us1, r, rfl, hr, s1, b1⟩
        exact ⟨_, _, _, us1, _, rfl, s1, .inl ⟨⟨Hs.out, hx, hy⟩, r, by rw [Int.toNat_natCast, Int.toNat_natCast, Int.toNat_natCast]; exact hr, by rw [Int.toNat_natCast]⟩, b1⟩
      · have Fin : Hid (IsMin a xss x y []) := Lib.hid (.inr ⟨fun h => hy h.2.2, rfl⟩)
        have dX : decide (0 ≤ x ∧ x < a) = true := decide_eq_true hx
        have dY : decide (0 ≤ y ∧ y < a) = false := decide_eq_false hy
        clear hs g hx
        go_enter Try.func23, Try.ntmps23
        by_cases exy : x = y
        · subst exy; rw [dX] at dY; cases dY
        · clear hy
          go_wp2_with (first
            | (go_at_call 52; refine (implGS a A n c vs xss w HX.out hn hl).mono ?_; rintro e w1 ⟨rfl, b1⟩; rw [Hs.out]; have B1 := Lib.hid b1; clear b1)
            | (go_at_call_of 60 (Value.int .i64 x); refine (implPt a x w1).mono ?_; rintro e w2 ⟨rfl, rfl⟩; rw [dX])
            | (go_at_call_of 60 (Value.int .i64 y); refine (implPt a y w1).mono ?_; rintro e w2 ⟨rfl, rfl⟩; rw [dY]))
          go_ret
          exact ⟨_, _, _, _, _, rfl, SS.nil_, Fin.out, B1.out⟩
    · have Fin : Hid (IsMin a xss x y []) := Lib.hid (.inr ⟨fun h => hx h.2.1, rfl⟩)
      have dX : decide (0 ≤ x ∧ x < a) = false := decide_eq_false hx
      clear hs g hx
      go_enter Try.func23, Try.ntmps23
      go_wp2_with (first
        | (go_at_call 52; refine (implGS a A n c vs xss w HX.out hn hl).mono ?_; rintro e w1 ⟨rfl, b1⟩; rw [Hs.out]; have B1 := Lib.hid b1; clear b1)
        | (go_at_call 60; refine (implPt a x w1).mono ?_; rintro e w2 ⟨rfl, rfl⟩; rw [dX]))
      go_ret
      exact ⟨_, _, _, _, _, rfl, SS.nil_, Fin.out, B1.out⟩

set_option maxHeartbeats 4000000 in
set_option maxRecDepth 100000 in
/-- JoinBlockSystems. -/
theorem implJoinBlockSystems : CtImmM 25 IsJoin := by
  intro a A n c vs xss M m cm us yss w g s _
  have hmm := @run_makeMap Try.prog
  have G := Lib.hid g
  have S := Lib.hid s
  have HX := Lib.hid g.rr
  have HY := Lib.hid s.rr
  clear g s
  go_enter Try.func25, Try.ntmps25
  go_wp2_with (go_at_call_of 53 (Value.slice A n c); fail)
  refine (implPart a A n c vs xss w G.out).mono ?_
  rintro e w1 ⟨ans, rfl, hans, b1⟩
  have B1 := Lib.hid b1
  clear b1
  rcases ans with _ | _
  · have Fin : Hid (IsJoin a xss yss []) := Lib.hid (.inr ⟨fun h => (by have := hans.2 ⟨h.1, h.2.1⟩; cases this), rfl⟩)
    clear hans
    go_wp2_with fail
    go_ret
    exact ⟨_, _, _, _, _, rfl, SS.nil_, Fin.out, B1.out⟩
  · have h1 := hans.1 rfl
    clear hans
    go_wp2_with (go_at_call 53; fail)
    refine (implPart a M m cm us yss w1 (S.out.up B1.out)).mono ?_
    rintro e w2 ⟨ans, rfl, hans, b2⟩
    have B2 : Hid (Below w.heap.size w w2) := Lib.hid (btr B1.out b2)
    have hz2 := B2.out.size
    clear b2
    rcases ans with _ | _
    · have Fin : Hid (IsJoin a xss yss []) := Lib.hid (.inr ⟨fun h => (by have := hans.2 ⟨h.1, h.2.2⟩; cases this), rfl⟩)
      clear hans h1
      go_wp2_with fail
      go_ret
      exact ⟨_, _, _, _, _, rfl, SS.nil_, Fin.out, B2.out⟩
    · have h2 := hans.1 rfl
      obtain ⟨N, rfl⟩ : ∃ N : Nat, a = (N : Int) := ⟨a.toNat, by have := h1.1; omega⟩
      have hN1 : 1 ≤ N := by have := h1.1; omega
      have hN2 : N ≤ 20 := by have := h1.1; omega
      have HV : Hid (VldJ N xss yss) := Lib.hid ⟨h1.1, h1.2, h2.2⟩
      have PX : Hid (Prt N xss) := Lib.hid (by have := h1.2; rwa [Int.toNat_natCast] at this)
      have PY : Hid (Prt N yss) := Lib.hid (by have := h2.2; rwa [Int.toNat_natCast] at this)
      have U0 := Lib.hid (UF.made w2 N)
      have X0 : Hid (RR (w2.alloc (.map #[] 0)) w2.heap.size A n vs xss) := Lib.hid ((HX.out.up B2.out).alloc (Nat.le_refl _) _)
      have Y0 : Hid (RR (w2.alloc (.map #[] 0)) w2.heap.size M m us yss) := Lib.hid ((HY.out.up B2.out).alloc (Nat.le_refl _) _)
      have Bm : Hid (Below w.heap.size w (w2.alloc (.map #[] 0))) := Lib.hid (B2.out.alloc hz2 _)
      clear hans h1 h2
      go_wp2_with fail
      refine (ufEach w2.heap.size N w2.heap.size n c _ _ A vs xss _ U0.out X0.out (Nat.le_refl _) PX hN2).mono ?_
      rintro e w3 ⟨f, D, rfl, u3, h3, g3⟩
      have U3 := Lib.hid u3
      have H3 := Lib.hid h3
      have B3 : Hid (Below w.heap.size w w3) := Lib.hid (Bm.out.grown g3 (by simp; omega) (fun k e => by injection e with e; omega))
      have Y3 : Hid (RR w3 w2.heap.size M m us yss) := Lib.hid (Y0.out.grown g3 (by simp) (fun k e => by injection e with e; omega))
      have hz3 := B3.out.size
      clear u3 h3 g3
      go_wp2_with fail
      refine (ufEach w2.heap.size N w2.heap.size m cm _ _ M us yss _ U3.out Y3.out (Nat.le_refl _) PY hN2).mono ?_
      rintro e w4 ⟨f4, D4, rfl, u4, h4, g4⟩
      have U4 := Lib.hid u4
      have J4 : Hid (LstJ N xss yss (rt f4)) := Lib.hid ⟨H3.out.2.1.trans h4.1, h4.2.1, fun r' a b => h4.2.2 r' (H3.out.2.2 r' rf_empty a) b⟩
      have B4 : Hid (Below w.heap.size w w4) := Lib.hid (B3.out.grown g4 hz3 (fun k e => by injection e with e; omega))
      have hz4 := B4.out.size
      generalize w2.heap.size = b at U4 hz2 ⊢
      clear u4 h4 g4 U0 X0 Y0 Bm U3 H3 Y3
      go_wp2_with (first
        | (go_at_call 63; refine (implId_core N w4 hN1 hN2).mono ?_; rintro e w5 ⟨A5, c5, rfl, s5, b5⟩
           have S5 := Lib.hid s5
           have U5 := Lib.hid (U4.out.up b5)
           have B5 : Hid (Below w.heap.size w w5) := Lib.hid (btr B4.out b5)
           clear s5 b5)
        | (go_at_call 62; refine (ufSets b N c5 f4 D4 A5 w5 U5.out S5.out.ri_ hN1 hN2).mono ?_; rintro e w6 ⟨A6, n6, c6, us6, rfl, s6, b6⟩
           have B6 : Hid (Below w.heap.size w w6) := Lib.hid (btr B5.out b6)
           have S6 : Hid (SS w6 w.heap.size w.heap.size A6 n6 c6 us6 (canon N (rt f4))) := Lib.hid (s6.mono B5.out.size B5.out.size)
           clear s6 b6)
        | go_in)
      have Fin : Hid (IsJoin N xss yss (canon N (rt f4))) := Lib.hid (.inl ⟨HV.out, rt f4, by rw [Int.toNat_natCast]; exact J4.out, by rw [Int.toNat_natCast]⟩)
      go_ret
      exact ⟨_, _, _, us6, _, rfl, S6.out, Fin.out, B6.out⟩
end Go.Proofs.Ytedfcljikgmpgaa

/- The walk of the law FnExactJoinBlockSystems: it returns true at every input, and writes nothing that was there. No condition but the program's own contract. -/
namespace Go.Proofs.Ytedfcljikgmpgaa
open Go.RowKit

set_option maxHeartbeats 4000000 in
set_option maxRecDepth 100000 in
/-- The law FnExactJoinBlockSystems. -/
theorem lawJoinBlockSystems (IM : CtImmM 25 IsJoin) (i0 : Int) (g1A : Option Addr) (g1n g1c : Nat) (g1v : List SV) (g1x : List (List Int)) (g2A : Option Addr) (g2n g2c : Nat) (g2v : List SV) (g2x : List (List Int)) (w : World) (wfi0 : I64 i0) (hg1 : RR w w.heap.size g1A g1n g1v g1x) (hmg1 : g1n ≤ maxLen) (hkg1 : Hid (∀ i, i < g1n → (g1v.getD i sd0).2.1 ≤ maxLen)) (hg2 : RR w w.heap.size g2A g2n g2v g2x) (hmg2 : g2n ≤ maxLen) (hkg2 : Hid (∀ i, i < g2n → (g2v.getD i sd0).2.1 ≤ maxLen)) :
    Calls Try.prog 6 #[.int .i64 i0, .slice g1A g1n g1c, .slice g2A g2n g2c] w fun e w' => e = .returned (.bool true) ∧ Below w.heap.size w w' := by
  have Hg1 := Lib.hid hg1
  have hlxg1 := Lib.hid hg1.lx
  have hllg1 := Lib.hid hg1.lens
  have Hg2 := Lib.hid hg2
  have hlxg2 := Lib.hid hg2.lx
  have hllg2 := Lib.hid hg2.lens
  clear hg1 hg2
  by_cases hT0 : ((g1n + tot g1v g1n : Nat) : Int) ≤ (1048576 : Int)
  · skip
    have HT0 := Lib.hid hT0
    obtain ⟨L1, eL1⟩ : ∃ L : Int, (1048576 : Int) - ((g1n + tot g1v g1n : Nat) : Int) = L := ⟨_, rfl⟩
    have hl1 : 0 ≤ L1 ∧ L1 ≤ 1048576 := by omega
    have EL1 := Lib.hid eL1
    clear eL1
    have hLn1 : ¬ L1 < 0 := by omega
    have dLn1 : decide (L1 < 0) = false := by simp; omega
    by_cases hT1 : ((g2n + tot g2v g2n : Nat) : Int) ≤ L1
    · skip
      have HT1 := Lib.hid hT1
      obtain ⟨LE, eLE⟩ : ∃ L : Int, L1 - ((g2n + tot g2v g2n : Nat) : Int) = L := ⟨_, rfl⟩
      have hLE : ¬ LE < 0 := by omega
      have dLE : decide (LE < 0) = false := by simp; omega
      have ELE := Lib.hid eLE
      clear eLE
      have hEq1 := EL1.out
      have hng1 : g1n ≤ 1048576 := by omega
      have KTg1 : Hid (tot g1v g1n ≤ 1048576) := Lib.hid (by omega)
      have hlg1 : Hid (∀ i, i < g1n → (g1v.getD i sd0).2.1 ≤ 1048576) := Lib.hid fun i hi => by have := tot_row (vs := g1v) hi; have := KTg1.out; omega
      have hylg1 : Hid (∀ i, i < g1n → (g1x.getD i []).length ≤ 1048576) := Lib.hid fun i hi => by rw [hllg1.out i hi]; exact hlg1.out i hi
      have hng2 : g2n ≤ 1048576 := by omega
      have KTg2 : Hid (tot g2v g2n ≤ 1048576) := Lib.hid (by omega)
      have hlg2 : Hid (∀ i, i < g2n → (g2v.getD i sd0).2.1 ≤ 1048576) := Lib.hid fun i hi => by have := tot_row (vs := g2v) hi; have := KTg2.out; omega
      have hylg2 : Hid (∀ i, i < g2n → (g2x.getD i []).length ≤ 1048576) := Lib.hid fun i hi => by rw [hllg2.out i hi]; exact hlg2.out i hi
      clear hT0 hT1 hEq1
      go_enter Try.func6, Try.ntmps6
      go_wp2_with fail
      have K0 := szSS2 g1A g1n g1c 1048576 g1v g1x w Hg1.out hmg1 hkg1 (by decide) (by decide)
      refine K0.mono ?_
      rintro e w0 ⟨rfl, rfl⟩
      clear K0
      rw [if_pos HT0.out]
      rw [EL1.out]
      go_wp2_with fail
      have K0 := szSS2 g2A g2n g2c L1 g2v g2x w Hg2.out hmg2 hkg2 hl1.1 hl1.2
      refine K0.mono ?_
      rintro e w0 ⟨rfl, rfl⟩
      clear K0
      rw [if_pos HT1.out]
      rw [ELE.out]
      go_wp2_with fail
      refine (toSS g1A g1n g1c g1v g1x w Hg1.out hng1 hlg1).mono ?_
      rintro e w1 ⟨A1, c1, us1, rfl, s1, q1, b1⟩
      have Z1 : Hid (w.heap.size ≤ w1.heap.size) := Lib.hid b1.size
      have B1 : Hid (Below w.heap.size w w1) := Lib.hid b1
      have Ftg1_1 := Lib.hid s1
      have Ltg1 : Hid (Lies A1 g1n c1 w.heap.size w1.heap.size) := Lib.hid s1.lt_
      have Itg1 : Hid (∀ t, t < g1n → ∀ k, (sval (us1.getD t sd0)).ownBlock = some k → w.heap.size ≤ k ∧ k < w1.heap.size) := Lib.hid fun t ht => (s1.row t ht).lt_
      have Qtg1 := Lib.hid q1
      have hltg1 : Hid (∀ i, i < g1n → (us1.getD i sd0).2.1 ≤ 1048576) := Lib.hid fun i hi => by rw [q1 i hi]; exact hlg1.out i hi
      clear s1 b1 q1
      go_wp2_with fail
      refine (toSS g2A g2n g2c g2v g2x w1 (Hg2.out.up B1.out) hng2 hlg2).mono ?_
      rintro e w2 ⟨A2, c2, us2, rfl, s2, q2, b2⟩
      have Z2 : Hid (w1.heap.size ≤ w2.heap.size) := Lib.hid b2.size
      have B2 : Hid (Below w.heap.size w w2) := Lib.hid (btr B1.out b2)
      have Ftg1_2 := Lib.hid (Ftg1_1.out.up b2)
      clear Ftg1_1
      have Ftg2_2 := Lib.hid s2
      have Ltg2 : Hid (Lies A2 g2n c2 w1.heap.size w2.heap.size) := Lib.hid s2.lt_
      have Itg2 : Hid (∀ t, t < g2n → ∀ k, (sval (us2.getD t sd0)).ownBlock = some k → w1.heap.size ≤ k ∧ k < w2.heap.size) := Lib.hid fun t ht => (s2.row t ht).lt_
      have Qtg2 := Lib.hid q2
      have hltg2 : Hid (∀ i, i < g2n → (us2.getD i sd0).2.1 ≤ 1048576) := Lib.hid fun i hi => by rw [q2 i hi]; exact hlg2.out i hi
      clear s2 b2 q2
      go_wp2_with fail
      have K3 := ctJoin i0 A1 g1n c1 us1 g1x A2 g2n c2 us2 g2x w2 ⟨Ftg1_2.out.rr, hng1, hltg1.out⟩ ⟨Ftg2_2.out.rr, hng2, hltg2.out⟩ wfi0
      refine K3.mono ?_
      clear K3
      rintro e w3 ⟨A3, n3, c3, us3, z3, rfl, s3, r3, b3⟩
      have m3 : n3 ≤ 1048576 := by have := (boundJoin r3).1; have := s3.lx; omega
      have Z3 : Hid (w2.heap.size ≤ w3.heap.size) := Lib.hid b3.size
      have B3 : Hid (Below w.heap.size w w3) := Lib.hid (btr B2.out b3)
      have Ftg1_3 := Lib.hid (Ftg1_2.out.up b3)
      clear Ftg1_2
      have Ftg2_3 := Lib.hid (Ftg2_2.out.up b3)
      clear Ftg2_2
      have HR := Lib.hid r3
      clear r3
      have FW_3 := Lib.hid s3
      have LW : Hid (Lies A3 n3 c3 w2.heap.size w3.heap.size) := Lib.hid s3.lt_
      have IW : Hid (∀ t, t < n3 → ∀ k, (sval (us3.getD t sd0)).ownBlock = some k → w2.heap.size ≤ k ∧ k < w3.heap.size) := Lib.hid fun t ht => (s3.row t ht).lt_
      clear s3 b3
      clear Ftg1_3
      clear Ftg2_3
      go_wp2_with fail
      refine (toSS g1A g1n g1c g1v g1x w3 (Hg1.out.up B3.out) hng1 hlg1).mono ?_
      rintro e w4 ⟨A4, c4, us4, rfl, s4, q4, b4⟩
      have Z4 : Hid (w3.heap.size ≤ w4.heap.size) := Lib.hid b4.size
      have B4 : Hid (Below w.heap.size w w4) := Lib.hid (btr B3.out b4)
      have FW_4 := Lib.hid (FW_3.out.up b4)
      clear FW_3
      have Fxg1_4 := Lib.hid s4
      have Lxg1 : Hid (Lies A4 g1n c4 w3.heap.size w4.heap.size) := Lib.hid s4.lt_
      have Ixg1 : Hid (∀ t, t < g1n → ∀ k, (sval (us4.getD t sd0)).ownBlock = some k → w3.heap.size ≤ k ∧ k < w4.heap.size) := Lib.hid fun t ht => (s4.row t ht).lt_
      have Qxg1 := Lib.hid q4
      have hlxg1 : Hid (∀ i, i < g1n → (us4.getD i sd0).2.1 ≤ 1048576) := Lib.hid fun i hi => by rw [q4 i hi]; exact hlg1.out i hi
      clear s4 b4 q4
      go_wp2_with fail
      refine (toSS g2A g2n g2c g2v g2x w4 (Hg2.out.up B4.out) hng2 hlg2).mono ?_
      rintro e w5 ⟨A5, c5, us5, rfl, s5, q5, b5⟩
      have Z5 : Hid (w4.heap.size ≤ w5.heap.size) := Lib.hid b5.size
      have B5 : Hid (Below w.heap.size w w5) := Lib.hid (btr B4.out b5)
      have FW_5 := Lib.hid (FW_4.out.up b5)
      clear FW_4
      have Fxg1_5 := Lib.hid (Fxg1_4.out.up b5)
      clear Fxg1_4
      have Fxg2_5 := Lib.hid s5
      have Lxg2 : Hid (Lies A5 g2n c5 w4.heap.size w5.heap.size) := Lib.hid s5.lt_
      have Ixg2 : Hid (∀ t, t < g2n → ∀ k, (sval (us5.getD t sd0)).ownBlock = some k → w4.heap.size ≤ k ∧ k < w5.heap.size) := Lib.hid fun t ht => (s5.row t ht).lt_
      have Qxg2 := Lib.hid q5
      have hlxg2 : Hid (∀ i, i < g2n → (us5.getD i sd0).2.1 ≤ 1048576) := Lib.hid fun i hi => by rw [q5 i hi]; exact hlg2.out i hi
      clear s5 b5 q5
      go_wp2_with fail
      have K6 := IM i0 A4 g1n c4 us4 g1x A5 g2n c5 us5 g2x w5 ⟨Fxg1_5.out.rr, hng1, hlxg1.out⟩ ⟨Fxg2_5.out.rr, hng2, hlxg2.out⟩ wfi0
      refine K6.mono ?_
      clear K6
      rintro e w6 ⟨A6, n6, c6, us6, z6, rfl, s6, r6, b6⟩
      have m6 : n6 ≤ 1048576 := by have := (boundJoin r6).1; have := s6.lx; omega
      have Z6 : Hid (w5.heap.size ≤ w6.heap.size) := Lib.hid b6.size
      have B6 : Hid (Below w.heap.size w w6) := Lib.hid (btr B5.out b6)
      have FW_6 := Lib.hid (FW_5.out.up b6)
      clear FW_5
      have Fxg1_6 := Lib.hid (Fxg1_5.out.up b6)
      clear Fxg1_5
      have Fxg2_6 := Lib.hid (Fxg2_5.out.up b6)
      clear Fxg2_5
      have e6 := HR.out.uniq r6
      subst e6
      clear r6
      have FG_6 := Lib.hid s6
      have LG : Hid (Lies A6 n6 c6 w5.heap.size w6.heap.size) := Lib.hid s6.lt_
      have IG : Hid (∀ t, t < n6 → ∀ k, (sval (us6.getD t sd0)).ownBlock = some k → w5.heap.size ≤ k ∧ k < w6.heap.size) := Lib.hid fun t ht => (s6.row t ht).lt_
      clear s6 b6
      go_wp2_with fail
      refine (eqRR_same A6 A3 n6 c6 n3 c3 us6 us3 _ w6 FG_6.out.rr FW_6.out.rr (by omega) (Lib.hid fun i hi => (boundJoin HR.out).2.1 i (by rw [FG_6.out.lx]; exact hi))).mono ?_
      rintro e w7 ⟨rfl, b7⟩
      have Z7 : Hid (w6.heap.size ≤ w7.heap.size) := Lib.hid b7.size
      have B7 : Hid (Below w.heap.size w w7) := Lib.hid (btr B6.out b7)
      have FW_7 := Lib.hid (FW_6.out.up b7)
      clear FW_6
      have Fxg1_7 := Lib.hid (Fxg1_6.out.up b7)
      clear Fxg1_6
      have Fxg2_7 := Lib.hid (Fxg2_6.out.up b7)
      clear Fxg2_6
      have FG_7 := Lib.hid (FG_6.out.up b7)
      clear FG_6
      clear b7
      go_wp2_with fail
      refine (toSS g1A g1n g1c g1v g1x w7 (Hg1.out.up B7.out) hng1 hlg1).mono ?_
      rintro e w8 ⟨A8, c8, us8, rfl, s8, q8, b8⟩
      have Z8 : Hid (w7.heap.size ≤ w8.heap.size) := Lib.hid b8.size
      have B8 : Hid (Below w.heap.size w w8) := Lib.hid (btr B7.out b8)
      have FW_8 := Lib.hid (FW_7.out.up b8)
      clear FW_7
      have Fxg1_8 := Lib.hid (Fxg1_7.out.up b8)
      clear Fxg1_7
      have Fxg2_8 := Lib.hid (Fxg2_7.out.up b8)
      clear Fxg2_7
      have FG_8 := Lib.hid (FG_7.out.up b8)
      clear FG_7
      have Fyg1_8 := Lib.hid s8
      have Lyg1 : Hid (Lies A8 g1n c8 w7.heap.size w8.heap.size) := Lib.hid s8.lt_
      have Iyg1 : Hid (∀ t, t < g1n → ∀ k, (sval (us8.getD t sd0)).ownBlock = some k → w7.heap.size ≤ k ∧ k < w8.heap.size) := Lib.hid fun t ht => (s8.row t ht).lt_
      have Qyg1 := Lib.hid q8
      have hlyg1 : Hid (∀ i, i < g1n → (us8.getD i sd0).2.1 ≤ 1048576) := Lib.hid fun i hi => by rw [q8 i hi]; exact hlg1.out i hi
      clear s8 b8 q8
      go_wp2_with fail
      refine (eqRR_same A4 A8 g1n c4 g1n c8 us4 us8 _ w8 Fxg1_8.out.rr Fyg1_8.out.rr (by omega) hylg1).mono ?_
      rintro e w9 ⟨rfl, b9⟩
      have Z9 : Hid (w8.heap.size ≤ w9.heap.size) := Lib.hid b9.size
      have B9 : Hid (Below w.heap.size w w9) := Lib.hid (btr B8.out b9)
      have FW_9 := Lib.hid (FW_8.out.up b9)
      clear FW_8
      have Fxg1_9 := Lib.hid (Fxg1_8.out.up b9)
      clear Fxg1_8
      have Fxg2_9 := Lib.hid (Fxg2_8.out.up b9)
      clear Fxg2_8
      have FG_9 := Lib.hid (FG_8.out.up b9)
      clear FG_8
      have Fyg1_9 := Lib.hid (Fyg1_8.out.up b9)
      clear Fyg1_8
      clear b9
      clear Fyg1_9
      go_wp2_with fail
      refine (toSS g2A g2n g2c g2v g2x w9 (Hg2.out.up B9.out) hng2 hlg2).mono ?_
      rintro e w10 ⟨A10, c10, us10, rfl, s10, q10, b10⟩
      have Z10 : Hid (w9.heap.size ≤ w10.heap.size) := Lib.hid b10.size
      have B10 : Hid (Below w.heap.size w w10) := Lib.hid (btr B9.out b10)
      have FW_10 := Lib.hid (FW_9.out.up b10)
      clear FW_9
      have Fxg1_10 := Lib.hid (Fxg1_9.out.up b10)
      clear Fxg1_9
      have Fxg2_10 := Lib.hid (Fxg2_9.out.up b10)
      clear Fxg2_9
      have FG_10 := Lib.hid (FG_9.out.up b10)
      clear FG_9
      have Fyg2_10 := Lib.hid s10
      have Lyg2 : Hid (Lies A10 g2n c10 w9.heap.size w10.heap.size) := Lib.hid s10.lt_
      have Iyg2 : Hid (∀ t, t < g2n → ∀ k, (sval (us10.getD t sd0)).ownBlock = some k → w9.heap.size ≤ k ∧ k < w10.heap.size) := Lib.hid fun t ht => (s10.row t ht).lt_
      have Qyg2 := Lib.hid q10
      have hlyg2 : Hid (∀ i, i < g2n → (us10.getD i sd0).2.1 ≤ 1048576) := Lib.hid fun i hi => by rw [q10 i hi]; exact hlg2.out i hi
      clear s10 b10 q10
      go_wp2_with fail
      refine (eqRR_same A5 A10 g2n c5 g2n c10 us5 us10 _ w10 Fxg2_10.out.rr Fyg2_10.out.rr (by omega) hylg2).mono ?_
      rintro e w11 ⟨rfl, b11⟩
      have Z11 : Hid (w10.heap.size ≤ w11.heap.size) := Lib.hid b11.size
      have B11 : Hid (Below w.heap.size w w11) := Lib.hid (btr B10.out b11)
      have FW_11 := Lib.hid (FW_10.out.up b11)
      clear FW_10
      have Fxg1_11 := Lib.hid (Fxg1_10.out.up b11)
      clear Fxg1_10
      have Fxg2_11 := Lib.hid (Fxg2_10.out.up b11)
      clear Fxg2_10
      have FG_11 := Lib.hid (FG_10.out.up b11)
      clear FG_10
      have Fyg2_11 := Lib.hid (Fyg2_10.out.up b11)
      clear Fyg2_10
      clear b11
      clear Fyg2_11
      have KTx : Hid (tot us4 g1n ≤ 1048576) := Lib.hid (by rw [tot_eq g1n Qxg1.out]; exact KTg1.out)
      go_wp2_with fail
      refine (markSS A4 g1n c4 _ _ us4 _ w11 Fxg1_11.out (by omega) KTx).mono ?_
      rintro e w12 ⟨rfl, s12, o12⟩
      have Z12 : Hid (w11.heap.size ≤ w12.heap.size) := Lib.hid o12.size
      have B12 : Hid (Below w.heap.size w w12) := Lib.hid (B11.out.trans (o12.below B11.out.size (fun t ht k e => by have h2 := Ixg1.out t ht k e; have := Z1.out; have := Z2.out; have := Z3.out; have := Z4.out; have := Z5.out; have := Z6.out; have := Z7.out; have := Z8.out; have := Z9.out; have := Z10.out; have := Z11.out; have := Z12.out; omega)))
      have FW_12 := Lib.hid (FW_11.out.only2 o12 (fun k hk t ht e => by have h1 := LW.out k hk; have h2 := Ixg1.out t ht k e; have := Z1.out; have := Z2.out; have := Z3.out; have := Z4.out; have := Z5.out; have := Z6.out; have := Z7.out; have := Z8.out; have := Z9.out; have := Z10.out; have := Z11.out; have := Z12.out; omega) (fun s hs k hk t ht e => by have h1 := IW.out s hs k hk; have h2 := Ixg1.out t ht k e; have := Z1.out; have := Z2.out; have := Z3.out; have := Z4.out; have := Z5.out; have := Z6.out; have := Z7.out; have := Z8.out; have := Z9.out; have := Z10.out; have := Z11.out; have := Z12.out; omega))
      clear FW_11
      have Fxg1_12 := Lib.hid s12
      clear Fxg1_11
      have Fxg2_12 := Lib.hid (Fxg2_11.out.only2 o12 (fun k hk t ht e => by have h1 := Lxg2.out k hk; have h2 := Ixg1.out t ht k e; have := Z1.out; have := Z2.out; have := Z3.out; have := Z4.out; have := Z5.out; have := Z6.out; have := Z7.out; have := Z8.out; have := Z9.out; have := Z10.out; have := Z11.out; have := Z12.out; omega) (fun s hs k hk t ht e => by have h1 := Ixg2.out s hs k hk; have h2 := Ixg1.out t ht k e; have := Z1.out; have := Z2.out; have := Z3.out; have := Z4.out; have := Z5.out; have := Z6.out; have := Z7.out; have := Z8.out; have := Z9.out; have := Z10.out; have := Z11.out; have := Z12.out; omega))
      clear Fxg2_11
      have FG_12 := Lib.hid (FG_11.out.only2 o12 (fun k hk t ht e => by have h1 := LG.out k hk; have h2 := Ixg1.out t ht k e; have := Z1.out; have := Z2.out; have := Z3.out; have := Z4.out; have := Z5.out; have := Z6.out; have := Z7.out; have := Z8.out; have := Z9.out; have := Z10.out; have := Z11.out; have := Z12.out; omega) (fun s hs k hk t ht e => by have h1 := IG.out s hs k hk; have h2 := Ixg1.out t ht k e; have := Z1.out; have := Z2.out; have := Z3.out; have := Z4.out; have := Z5.out; have := Z6.out; have := Z7.out; have := Z8.out; have := Z9.out; have := Z10.out; have := Z11.out; have := Z12.out; omega))
      clear FG_11
      clear s12 o12
      obtain ⟨T, eT⟩ : ∃ T, tot us4 g1n = T := ⟨_, rfl⟩
      have hT9 : T ≤ 1048576 := by rw [← eT]; exact KTx.out
      rw [eT]
      clear eT
      have KTy : Hid (tot us5 g2n ≤ 1048576) := Lib.hid (by rw [tot_eq g2n Qxg2.out]; exact KTg2.out)
      go_wp2_with fail
      refine (markSSk T A5 g2n c5 _ _ us5 _ w12 Fxg2_12.out (by omega) KTy (by omega)).mono ?_
      rintro e w13 ⟨X, hX9, eX, rfl, s13, o13⟩
      have Z13 : Hid (w12.heap.size ≤ w13.heap.size) := Lib.hid o13.size
      have B13 : Hid (Below w.heap.size w w13) := Lib.hid (B12.out.trans (o13.below B12.out.size (fun t ht k e => by have h2 := Ixg2.out t ht k e; have := Z1.out; have := Z2.out; have := Z3.out; have := Z4.out; have := Z5.out; have := Z6.out; have := Z7.out; have := Z8.out; have := Z9.out; have := Z10.out; have := Z11.out; have := Z12.out; have := Z13.out; omega)))
      have FW_13 := Lib.hid (FW_12.out.only2 o13 (fun k hk t ht e => by have h1 := LW.out k hk; have h2 := Ixg2.out t ht k e; have := Z1.out; have := Z2.out; have := Z3.out; have := Z4.out; have := Z5.out; have := Z6.out; have := Z7.out; have := Z8.out; have := Z9.out; have := Z10.out; have := Z11.out; have := Z12.out; have := Z13.out; omega) (fun s hs k hk t ht e => by have h1 := IW.out s hs k hk; have h2 := Ixg2.out t ht k e; have := Z1.out; have := Z2.out; have := Z3.out; have := Z4.out; have := Z5.out; have := Z6.out; have := Z7.out; have := Z8.out; have := Z9.out; have := Z10.out; have := Z11.out; have := Z12.out; have := Z13.out; omega))
      clear FW_12
      have Fxg1_13 := Lib.hid (Fxg1_12.out.only2 o13 (fun k hk t ht e => by have h1 := Lxg1.out k hk; have h2 := Ixg2.out t ht k e; have := Z1.out; have := Z2.out; have := Z3.out; have := Z4.out; have := Z5.out; have := Z6.out; have := Z7.out; have := Z8.out; have := Z9.out; have := Z10.out; have := Z11.out; have := Z12.out; have := Z13.out; omega) (fun s hs k hk t ht e => by have h1 := Ixg1.out s hs k hk; have h2 := Ixg2.out t ht k e; have := Z1.out; have := Z2.out; have := Z3.out; have := Z4.out; have := Z5.out; have := Z6.out; have := Z7.out; have := Z8.out; have := Z9.out; have := Z10.out; have := Z11.out; have := Z12.out; have := Z13.out; omega))
      clear Fxg1_12
      have Fxg2_13 := Lib.hid s13
      clear Fxg2_12
      have FG_13 := Lib.hid (FG_12.out.only2 o13 (fun k hk t ht e => by have h1 := LG.out k hk; have h2 := Ixg2.out t ht k e; have := Z1.out; have := Z2.out; have := Z3.out; have := Z4.out; have := Z5.out; have := Z6.out; have := Z7.out; have := Z8.out; have := Z9.out; have := Z10.out; have := Z11.out; have := Z12.out; have := Z13.out; omega) (fun s hs k hk t ht e => by have h1 := IG.out s hs k hk; have h2 := Ixg2.out t ht k e; have := Z1.out; have := Z2.out; have := Z3.out; have := Z4.out; have := Z5.out; have := Z6.out; have := Z7.out; have := Z8.out; have := Z9.out; have := Z10.out; have := Z11.out; have := Z12.out; have := Z13.out; omega))
      clear FG_12
      clear s13 o13
      go_wp2_with fail
      refine (eqRR_same A6 A3 n6 c6 n3 c3 us6 us3 _ w13 FG_13.out.rr FW_13.out.rr (by omega) (Lib.hid fun i hi => (boundJoin HR.out).2.1 i (by rw [FG_13.out.lx]; exact hi))).mono ?_
      rintro e w14 ⟨rfl, b14⟩
      have Z14 : Hid (w13.heap.size ≤ w14.heap.size) := Lib.hid b14.size
      have B14 : Hid (Below w.heap.size w w14) := Lib.hid (btr B13.out b14)
      have FW_14 := Lib.hid (FW_13.out.up b14)
      clear FW_13
      have Fxg1_14 := Lib.hid (Fxg1_13.out.up b14)
      clear Fxg1_13
      have Fxg2_14 := Lib.hid (Fxg2_13.out.up b14)
      clear Fxg2_13
      have FG_14 := Lib.hid (FG_13.out.up b14)
      clear FG_13
      clear b14
      clear Fxg1_14
      clear Fxg2_14
      have KG : Hid (tot us6 n6 ≤ 1048576) := Lib.hid (by
        have h9 := (boundJoin HR.out).2.2
        rw [FG_14.out.tot_sum]; exact h9)
      go_wp2_with fail
      refine (markSS A6 n6 c6 _ _ us6 _ w14 FG_14.out (by omega) KG).mono ?_
      rintro e w15 ⟨rfl, s15, o15⟩
      have Z15 : Hid (w14.heap.size ≤ w15.heap.size) := Lib.hid o15.size
      have B15 : Hid (Below w.heap.size w w15) := Lib.hid (B14.out.trans (o15.below B14.out.size (fun t ht k e => by have h2 := IG.out t ht k e; have := Z1.out; have := Z2.out; have := Z3.out; have := Z4.out; have := Z5.out; have := Z6.out; have := Z7.out; have := Z8.out; have := Z9.out; have := Z10.out; have := Z11.out; have := Z12.out; have := Z13.out; have := Z14.out; have := Z15.out; omega)))
      have FW_15 := Lib.hid (FW_14.out.only2 o15 (fun k hk t ht e => by have h1 := LW.out k hk; have h2 := IG.out t ht k e; have := Z1.out; have := Z2.out; have := Z3.out; have := Z4.out; have := Z5.out; have := Z6.out; have := Z7.out; have := Z8.out; have := Z9.out; have := Z10.out; have := Z11.out; have := Z12.out; have := Z13.out; have := Z14.out; have := Z15.out; omega) (fun s hs k hk t ht e => by have h1 := IW.out s hs k hk; have h2 := IG.out t ht k e; have := Z1.out; have := Z2.out; have := Z3.out; have := Z4.out; have := Z5.out; have := Z6.out; have := Z7.out; have := Z8.out; have := Z9.out; have := Z10.out; have := Z11.out; have := Z12.out; have := Z13.out; have := Z14.out; have := Z15.out; omega))
      clear FW_14
      have FG_15 := Lib.hid s15
      clear FG_14
      clear s15 o15
      obtain ⟨U, eU⟩ : ∃ U, tot us6 n6 = U := ⟨_, rfl⟩
      have EU := Lib.hid eU
      have hU9 : U ≤ 1048576 := by rw [← eU]; exact KG.out
      rw [eU]
      clear eU
      go_wp2_with fail
      refine (heldSS A6 n6 c6 _ _ us6 w15 FG_15.out (by omega) KG).mono ?_
      rintro e w' ⟨rfl, rfl⟩
      rw [EU.out]
      go_wp2_with fail
      refine (toSS g1A g1n g1c g1v g1x w15 (Hg1.out.up B15.out) hng1 hlg1).mono ?_
      rintro e w16 ⟨A16, c16, us16, rfl, s16, q16, b16⟩
      have Z16 : Hid (w15.heap.size ≤ w16.heap.size) := Lib.hid b16.size
      have B16 : Hid (Below w.heap.size w w16) := Lib.hid (btr B15.out b16)
      have FW_16 := Lib.hid (FW_15.out.up b16)
      clear FW_15
      have FG_16 := Lib.hid (FG_15.out.up b16)
      clear FG_15
      have Fzg1_16 := Lib.hid s16
      have Lzg1 : Hid (Lies A16 g1n c16 w15.heap.size w16.heap.size) := Lib.hid s16.lt_
      have Izg1 : Hid (∀ t, t < g1n → ∀ k, (sval (us16.getD t sd0)).ownBlock = some k → w15.heap.size ≤ k ∧ k < w16.heap.size) := Lib.hid fun t ht => (s16.row t ht).lt_
      have Qzg1 := Lib.hid q16
      have hlzg1 : Hid (∀ i, i < g1n → (us16.getD i sd0).2.1 ≤ 1048576) := Lib.hid fun i hi => by rw [q16 i hi]; exact hlg1.out i hi
      clear s16 b16 q16
      go_wp2_with fail
      refine (toSS g2A g2n g2c g2v g2x w16 (Hg2.out.up B16.out) hng2 hlg2).mono ?_
      rintro e w17 ⟨A17, c17, us17, rfl, s17, q17, b17⟩
      have Z17 : Hid (w16.heap.size ≤ w17.heap.size) := Lib.hid b17.size
      have B17 : Hid (Below w.heap.size w w17) := Lib.hid (btr B16.out b17)
      have FW_17 := Lib.hid (FW_16.out.up b17)
      clear FW_16
      have FG_17 := Lib.hid (FG_16.out.up b17)
      clear FG_16
      have Fzg1_17 := Lib.hid (Fzg1_16.out.up b17)
      clear Fzg1_16
      have Fzg2_17 := Lib.hid s17
      have Lzg2 : Hid (Lies A17 g2n c17 w16.heap.size w17.heap.size) := Lib.hid s17.lt_
      have Izg2 : Hid (∀ t, t < g2n → ∀ k, (sval (us17.getD t sd0)).ownBlock = some k → w16.heap.size ≤ k ∧ k < w17.heap.size) := Lib.hid fun t ht => (s17.row t ht).lt_
      have Qzg2 := Lib.hid q17
      have hlzg2 : Hid (∀ i, i < g2n → (us17.getD i sd0).2.1 ≤ 1048576) := Lib.hid fun i hi => by rw [q17 i hi]; exact hlg2.out i hi
      clear s17 b17 q17
      go_wp2_with fail
      have K18 := IM i0 A16 g1n c16 us16 g1x A17 g2n c17 us17 g2x w17 ⟨Fzg1_17.out.rr, hng1, hlzg1.out⟩ ⟨Fzg2_17.out.rr, hng2, hlzg2.out⟩ wfi0
      refine K18.mono ?_
      clear K18
      rintro e w18 ⟨A18, n18, c18, us18, z18, rfl, s18, r18, b18⟩
      have m18 : n18 ≤ 1048576 := by have := (boundJoin r18).1; have := s18.lx; omega
      have Z18 : Hid (w17.heap.size ≤ w18.heap.size) := Lib.hid b18.size
      have B18 : Hid (Below w.heap.size w w18) := Lib.hid (btr B17.out b18)
      have FW_18 := Lib.hid (FW_17.out.up b18)
      clear FW_17
      have FG_18 := Lib.hid (FG_17.out.up b18)
      clear FG_17
      have Fzg1_18 := Lib.hid (Fzg1_17.out.up b18)
      clear Fzg1_17
      have Fzg2_18 := Lib.hid (Fzg2_17.out.up b18)
      clear Fzg2_17
      have e18 := HR.out.uniq r18
      subst e18
      clear r18
      have FH_18 := Lib.hid s18
      have LH : Hid (Lies A18 n18 c18 w17.heap.size w18.heap.size) := Lib.hid s18.lt_
      have IH : Hid (∀ t, t < n18 → ∀ k, (sval (us18.getD t sd0)).ownBlock = some k → w17.heap.size ≤ k ∧ k < w18.heap.size) := Lib.hid fun t ht => (s18.row t ht).lt_
      clear s18 b18
      clear Fzg1_18
      clear Fzg2_18
      go_wp2_with fail
      refine (eqRR_same A18 A3 n18 c18 n3 c3 us18 us3 _ w18 FH_18.out.rr FW_18.out.rr (by omega) (Lib.hid fun i hi => (boundJoin HR.out).2.1 i (by rw [FH_18.out.lx]; exact hi))).mono ?_
      rintro e w19 ⟨rfl, b19⟩
      have Z19 : Hid (w18.heap.size ≤ w19.heap.size) := Lib.hid b19.size
      have B19 : Hid (Below w.heap.size w w19) := Lib.hid (btr B18.out b19)
      have FW_19 := Lib.hid (FW_18.out.up b19)
      clear FW_18
      have FG_19 := Lib.hid (FG_18.out.up b19)
      clear FG_18
      have FH_19 := Lib.hid (FH_18.out.up b19)
      clear FH_18
      clear b19
      go_wp2_with fail
      refine (heldSS A6 n6 c6 _ _ us6 w19 FG_19.out (by omega) KG).mono ?_
      rintro e w' ⟨rfl, rfl⟩
      rw [EU.out]
      go_wp2_with fail
      go_ret
      exact ⟨rfl, B19.out⟩
    · skip
      have HT1 := Lib.hid hT1
      clear hT0 hT1
      go_enter Try.func6, Try.ntmps6
      go_wp2_with fail
      have K0 := szSS2 g1A g1n g1c 1048576 g1v g1x w Hg1.out hmg1 hkg1 (by decide) (by decide)
      refine K0.mono ?_
      rintro e w0 ⟨rfl, rfl⟩
      clear K0
      rw [if_pos HT0.out]
      rw [EL1.out]
      go_wp2_with fail
      have K0 := szSS2 g2A g2n g2c L1 g2v g2x w Hg2.out hmg2 hkg2 hl1.1 hl1.2
      refine K0.mono ?_
      rintro e w0 ⟨rfl, rfl⟩
      clear K0
      rw [if_neg (Int.not_le.2 HT1.out)]
      go_wp2
      go_ret
      exact ⟨rfl, Below.refl _ _⟩
  · skip
    have HT0 := Lib.hid hT0
    clear hT0
    go_enter Try.func6, Try.ntmps6
    go_wp2_with fail
    have K0 := szSS2 g1A g1n g1c 1048576 g1v g1x w Hg1.out hmg1 hkg1 (by decide) (by decide)
    refine K0.mono ?_
    rintro e w0 ⟨rfl, rfl⟩
    clear K0
    rw [if_neg (Int.not_le.2 HT0.out)]
    go_wp2
    go_ret
    exact ⟨rfl, Below.refl _ _⟩
end Go.Proofs.Ytedfcljikgmpgaa

/- The walk of the law FnExactIsPrimitive: it returns true at every input, and writes nothing that was there. No condition but the program's own contract. -/
namespace Go.Proofs.Ytedfcljikgmpgaa
open Go.RowKit

set_option maxHeartbeats 4000000 in
set_option maxRecDepth 100000 in
/-- The law FnExactIsPrimitive. -/
theorem lawIsPrimitive (IM : CtImB 27 IsPri) (i0 : Int) (g1A : Option Addr) (g1n g1c : Nat) (g1v : List SV) (g1x : List (List Int)) (w : World) (wfi0 : I64 i0) (hg1 : RR w w.heap.size g1A g1n g1v g1x) (hmg1 : g1n ≤ maxLen) (hkg1 : Hid (∀ i, i < g1n → (g1v.getD i sd0).2.1 ≤ maxLen)) :
    Calls Try.prog 7 #[.int .i64 i0, .slice g1A g1n g1c] w fun e w' => e = .returned (.bool true) ∧ Below w.heap.size w w' := by
  have Hg1 := Lib.hid hg1
  have hlxg1 := Lib.hid hg1.lx
  have hllg1 := Lib.hid hg1.lens
  clear hg1
  by_cases hT0 : ((g1n + tot g1v g1n : Nat) : Int) ≤ (1048576 : Int)
  · skip
    have HT0 := Lib.hid hT0
    obtain ⟨LE, eLE⟩ : ∃ L : Int, (1048576 : Int) - ((g1n + tot g1v g1n : Nat) : Int) = L := ⟨_, rfl⟩
    have hLE : ¬ LE < 0 := by omega
    have dLE : decide (LE < 0) = false := by simp; omega
    have ELE := Lib.hid eLE
    clear eLE
    have hng1 : g1n ≤ 1048576 := by omega
    have KTg1 : Hid (tot g1v g1n ≤ 1048576) := Lib.hid (by omega)
    have hlg1 : Hid (∀ i, i < g1n → (g1v.getD i sd0).2.1 ≤ 1048576) := Lib.hid fun i hi => by have := tot_row (vs := g1v) hi; have := KTg1.out; omega
    have hylg1 : Hid (∀ i, i < g1n → (g1x.getD i []).length ≤ 1048576) := Lib.hid fun i hi => by rw [hllg1.out i hi]; exact hlg1.out i hi
    clear hT0 
    go_enter Try.func7, Try.ntmps7
    go_wp2_with fail
    have K0 := szSS2 g1A g1n g1c 1048576 g1v g1x w Hg1.out hmg1 hkg1 (by decide) (by decide)
    refine K0.mono ?_
    rintro e w0 ⟨rfl, rfl⟩
    clear K0
    rw [if_pos HT0.out]
    rw [ELE.out]
    go_wp2_with fail
    refine (toSS g1A g1n g1c g1v g1x w Hg1.out hng1 hlg1).mono ?_
    rintro e w1 ⟨A1, c1, us1, rfl, s1, q1, b1⟩
    have Z1 : Hid (w.heap.size ≤ w1.heap.size) := Lib.hid b1.size
    have B1 : Hid (Below w.heap.size w w1) := Lib.hid b1
    have Ftg1_1 := Lib.hid s1
    have Ltg1 : Hid (Lies A1 g1n c1 w.heap.size w1.heap.size) := Lib.hid s1.lt_
    have Itg1 : Hid (∀ t, t < g1n → ∀ k, (sval (us1.getD t sd0)).ownBlock = some k → w.heap.size ≤ k ∧ k < w1.heap.size) := Lib.hid fun t ht => (s1.row t ht).lt_
    have Qtg1 := Lib.hid q1
    have hltg1 : Hid (∀ i, i < g1n → (us1.getD i sd0).2.1 ≤ 1048576) := Lib.hid fun i hi => by rw [q1 i hi]; exact hlg1.out i hi
    clear s1 b1 q1
    go_wp2_with fail
    have K2 := ctPri i0 A1 g1n c1 us1 g1x w1 ⟨Ftg1_1.out.rr, hng1, hltg1.out⟩ wfi0
    refine K2.mono ?_
    clear K2
    rintro e w2 ⟨v2, rfl, r2, b2⟩
    have Z2 : Hid (w1.heap.size ≤ w2.heap.size) := Lib.hid b2.size
    have B2 : Hid (Below w.heap.size w w2) := Lib.hid (btr B1.out b2)
    have Ftg1_2 := Lib.hid (Ftg1_1.out.up b2)
    clear Ftg1_1
    have HR := Lib.hid r2
    clear r2
    clear b2
    clear Ftg1_2
    go_wp2_with fail
    refine (toSS g1A g1n g1c g1v g1x w2 (Hg1.out.up B2.out) hng1 hlg1).mono ?_
    rintro e w3 ⟨A3, c3, us3, rfl, s3, q3, b3⟩
    have Z3 : Hid (w2.heap.size ≤ w3.heap.size) := Lib.hid b3.size
    have B3 : Hid (Below w.heap.size w w3) := Lib.hid (btr B2.out b3)
    have Fxg1_3 := Lib.hid s3
    have Lxg1 : Hid (Lies A3 g1n c3 w2.heap.size w3.heap.size) := Lib.hid s3.lt_
    have Ixg1 : Hid (∀ t, t < g1n → ∀ k, (sval (us3.getD t sd0)).ownBlock = some k → w2.heap.size ≤ k ∧ k < w3.heap.size) := Lib.hid fun t ht => (s3.row t ht).lt_
    have Qxg1 := Lib.hid q3
    have hlxg1 : Hid (∀ i, i < g1n → (us3.getD i sd0).2.1 ≤ 1048576) := Lib.hid fun i hi => by rw [q3 i hi]; exact hlg1.out i hi
    clear s3 b3 q3
    go_wp2_with fail
    have K4 := IM i0 A3 g1n c3 us3 g1x w3 ⟨Fxg1_3.out.rr, hng1, hlxg1.out⟩ wfi0
    refine K4.mono ?_
    clear K4
    rintro e w4 ⟨v4, rfl, r4, b4⟩
    have Z4 : Hid (w3.heap.size ≤ w4.heap.size) := Lib.hid b4.size
    have B4 : Hid (Below w.heap.size w w4) := Lib.hid (btr B3.out b4)
    have Fxg1_4 := Lib.hid (Fxg1_3.out.up b4)
    clear Fxg1_3
    have e4 := HR.out.uniq r4
    subst e4
    clear r4
    clear b4
    go_wp2_with fail
    refine (toSS g1A g1n g1c g1v g1x w4 (Hg1.out.up B4.out) hng1 hlg1).mono ?_
    rintro e w5 ⟨A5, c5, us5, rfl, s5, q5, b5⟩
    have Z5 : Hid (w4.heap.size ≤ w5.heap.size) := Lib.hid b5.size
    have B5 : Hid (Below w.heap.size w w5) := Lib.hid (btr B4.out b5)
    have Fxg1_5 := Lib.hid (Fxg1_4.out.up b5)
    clear Fxg1_4
    have Fyg1_5 := Lib.hid s5
    have Lyg1 : Hid (Lies A5 g1n c5 w4.heap.size w5.heap.size) := Lib.hid s5.lt_
    have Iyg1 : Hid (∀ t, t < g1n → ∀ k, (sval (us5.getD t sd0)).ownBlock = some k → w4.heap.size ≤ k ∧ k < w5.heap.size) := Lib.hid fun t ht => (s5.row t ht).lt_
    have Qyg1 := Lib.hid q5
    have hlyg1 : Hid (∀ i, i < g1n → (us5.getD i sd0).2.1 ≤ 1048576) := Lib.hid fun i hi => by rw [q5 i hi]; exact hlg1.out i hi
    clear s5 b5 q5
    go_wp2_with fail
    refine (eqRR_same A3 A5 g1n c3 g1n c5 us3 us5 _ w5 Fxg1_5.out.rr Fyg1_5.out.rr (by omega) hylg1).mono ?_
    rintro e w6 ⟨rfl, b6⟩
    have Z6 : Hid (w5.heap.size ≤ w6.heap.size) := Lib.hid b6.size
    have B6 : Hid (Below w.heap.size w w6) := Lib.hid (btr B5.out b6)
    have Fxg1_6 := Lib.hid (Fxg1_5.out.up b6)
    clear Fxg1_5
    have Fyg1_6 := Lib.hid (Fyg1_5.out.up b6)
    clear Fyg1_5
    clear b6
    clear Fyg1_6
    go_wp2_with fail
    go_ret
    exact ⟨rfl, B6.out⟩
  · skip
    have HT0 := Lib.hid hT0
    clear hT0
    go_enter Try.func7, Try.ntmps7
    go_wp2_with fail
    have K0 := szSS2 g1A g1n g1c 1048576 g1v g1x w Hg1.out hmg1 hkg1 (by decide) (by decide)
    refine K0.mono ?_
    rintro e w0 ⟨rfl, rfl⟩
    clear K0
    rw [if_neg (Int.not_le.2 HT0.out)]
    go_wp2
    go_ret
    exact ⟨rfl, Below.refl _ _⟩
end Go.Proofs.Ytedfcljikgmpgaa
