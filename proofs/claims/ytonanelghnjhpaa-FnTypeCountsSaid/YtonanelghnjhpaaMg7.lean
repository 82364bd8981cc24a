/- Part 7 of the texts: WalkD5, PkL, WalkE5, Mod, PkD, WalkH5, CycType, PkT. No condition of its own: each text tells its own. -/
import Derived.Test.YtonanelghnjhpaaMg4
import Derived.Test.YtonanelghnjhpaaMg2
import Derived.Test.YtonanelghnjhpaaMg6
import Derived.Test.YtonanelghnjhpaaMg1
import Derived.Laws.EntriesVeiled
set_option linter.unusedVariables false
set_option linter.unusedSimpArgs false

/- The walk of the law FnExactMembers: it returns true at every input, and writes nothing that was there. No condition but the program's own contract. -/
namespace Go.Proofs.Ytonanelghnjhpaa
open Go.RowKit

set_option maxHeartbeats 4000000 in
set_option maxRecDepth 100000 in
/-- The law FnExactMembers. -/
theorem lawMembers (IM : CtImM 19 IsMbs) (i0 : Int) (g1A : Option Addr) (g1n g1c : Nat) (g1v : List SV) (g1x : List (List Int)) (w : World) (wfi0 : I64 i0) (hg1 : RR w w.heap.size g1A g1n g1v g1x) (hmg1 : g1n ≤ maxLen) (hkg1 : Hid (∀ i, i < g1n → (g1v.getD i sd0).2.1 ≤ maxLen)) :
    Calls Try.prog 10 #[.int .i64 i0, .slice g1A g1n g1c] w fun e w' => e = .returned (.bool true) ∧ Below w.heap.size w w' := by
  have Hg1 := Lib.hid hg1
  have hlxg1 := Lib.hid hg1.lx
  have hllg1 := Lib.hid hg1.lens
  clear hg1
  by_cases hT0 : ((g1n + tot g1v g1n : Nat) : Int) ≤ (1048576 : Int)
  · skip
    have HT0 := Lib.hid hT0
    obtain ⟨LE, eLE⟩ : ∃ L : Int, (1048576 : Int) - ((g1n + tot g1v g1n : Nat) : Int) = L := ⟨_, rfl⟩
    have hLE : ¬ LE < 0 := by omega
    have dLE : decide (LE < 0) = false := by simp; omega
    have ELE := Lib.hid eLE
    clear eLE
    have hng1 : g1n ≤ 1048576 := by omega
    have KTg1 : Hid (tot g1v g1n ≤ 1048576) := Lib.hid (by omega)
    have hlg1 : Hid (∀ i, i < g1n → (g1v.getD i sd0).2.1 ≤ 1048576) := Lib.hid fun i hi => by have := tot_row (vs := g1v) hi; have := KTg1.out; omega
    have hylg1 : Hid (∀ i, i < g1n → (g1x.getD i []).length ≤ 1048576) := Lib.hid fun i hi => by rw [hllg1.out i hi]; exact hlg1.out i hi
    clear hT0 
    go_enter Try.func10, Try.ntmps10
    go_wp2_with fail
    have K0 := szSS2 g1A g1n g1c 1048576 g1v g1x w Hg1.out hmg1 hkg1 (by decide) (by decide)
    refine K0.mono ?_
    rintro e w0 ⟨rfl, rfl⟩
    clear K0
    rw [if_pos HT0.out]
    rw [ELE.out]
    go_wp2_with fail
    refine (toSS g1A g1n g1c g1v g1x w Hg1.out hng1 hlg1).mono ?_
    rintro e w1 ⟨A1, c1, us1, rfl, s1, q1, b1⟩
    have Z1 : Hid (w.heap.size ≤ w1.heap.size) := Lib.hid b1.size
    have B1 : Hid (Below w.heap.size w w1) := Lib.hid b1
    have Ftg1_1 := Lib.hid s1
    have Ltg1 : Hid (Lies A1 g1n c1 w.heap.size w1.heap.size) := Lib.hid s1.lt_
    have Itg1 : Hid (∀ t, t < g1n → ∀ k, (sval (us1.getD t sd0)).ownBlock = some k → w.heap.size ≤ k ∧ k < w1.heap.size) := Lib.hid fun t ht => (s1.row t ht).lt_
    have Qtg1 := Lib.hid q1
    have hltg1 : Hid (∀ i, i < g1n → (us1.getD i sd0).2.1 ≤ 1048576) := Lib.hid fun i hi => by rw [q1 i hi]; exact hlg1.out i hi
    clear s1 b1 q1
    go_wp2_with fail
    have K2 := ctMbs i0 A1 g1n c1 us1 g1x w1 ⟨Ftg1_1.out.rr, hng1, hltg1.out⟩ wfi0
    refine K2.mono ?_
    clear K2
    rintro e w2 ⟨A2, n2, c2, us2, z2, rfl, s2, r2, b2⟩
    have m2 : n2 ≤ 1048576 := by have := (boundMbs r2).1; have := s2.lx; omega
    have Z2 : Hid (w1.heap.size ≤ w2.heap.size) := Lib.hid b2.size
    have B2 : Hid (Below w.heap.size w w2) := Lib.hid (btr B1.out b2)
    have Ftg1_2 := Lib.hid (Ftg1_1.out.up b2)
    clear Ftg1_1
    have HR := Lib.hid r2
    clear r2
    have FW_2 := Lib.hid s2
    have LW : Hid (Lies A2 n2 c2 w1.heap.size w2.heap.size) := Lib.hid s2.lt_
    have IW : Hid (∀ t, t < n2 → ∀ k, (sval (us2.getD t sd0)).ownBlock = some k → w1.heap.size ≤ k ∧ k < w2.heap.size) := Lib.hid fun t ht => (s2.row t ht).lt_
    clear s2 b2
    clear Ftg1_2
    go_wp2_with fail
    refine (toSS g1A g1n g1c g1v g1x w2 (Hg1.out.up B2.out) hng1 hlg1).mono ?_
    rintro e w3 ⟨A3, c3, us3, rfl, s3, q3, b3⟩
    have Z3 : Hid (w2.heap.size ≤ w3.heap.size) := Lib.hid b3.size
    have B3 : Hid (Below w.heap.size w w3) := Lib.hid (btr B2.out b3)
    have FW_3 := Lib.hid (FW_2.out.up b3)
    clear FW_2
    have Fxg1_3 := Lib.hid s3
    have Lxg1 : Hid (Lies A3 g1n c3 w2.heap.size w3.heap.size) := Lib.hid s3.lt_
    have Ixg1 : Hid (∀ t, t < g1n → ∀ k, (sval (us3.getD t sd0)).ownBlock = some k → w2.heap.size ≤ k ∧ k < w3.heap.size) := Lib.hid fun t ht => (s3.row t ht).lt_
    have Qxg1 := Lib.hid q3
    have hlxg1 : Hid (∀ i, i < g1n → (us3.getD i sd0).2.1 ≤ 1048576) := Lib.hid fun i hi => by rw [q3 i hi]; exact hlg1.out i hi
    clear s3 b3 q3
    go_wp2_with fail
    have K4 := IM i0 A3 g1n c3 us3 g1x w3 ⟨Fxg1_3.out.rr, hng1, hlxg1.out⟩ wfi0
    refine K4.mono ?_
    clear K4
    rintro e w4 ⟨A4, n4, c4, us4, z4, rfl, s4, r4, b4⟩
    have m4 : n4 ≤ 1048576 := by have := (boundMbs r4).1; have := s4.lx; omega
    have Z4 : Hid (w3.heap.size ≤ w4.heap.size) := Lib.hid b4.size
    have B4 : Hid (Below w.heap.size w w4) := Lib.hid (btr B3.out b4)
    have FW_4 := Lib.hid (FW_3.out.up b4)
    clear FW_3
    have Fxg1_4 := Lib.hid (Fxg1_3.out.up b4)
    clear Fxg1_3
    have e4 := HR.out.uniq r4
    subst e4
    clear r4
    have FG_4 := Lib.hid s4
    have LG : Hid (Lies A4 n4 c4 w3.heap.size w4.heap.size) := Lib.hid s4.lt_
    have IG : Hid (∀ t, t < n4 → ∀ k, (sval (us4.getD t sd0)).ownBlock = some k → w3.heap.size ≤ k ∧ k < w4.heap.size) := Lib.hid fun t ht => (s4.row t ht).lt_
    clear s4 b4
    go_wp2_with fail
    refine (eqRR_same A4 A2 n4 c4 n2 c2 us4 us2 _ w4 FG_4.out.rr FW_4.out.rr (by omega) (Lib.hid fun i hi => (boundMbs HR.out).2.1 i (by rw [FG_4.out.lx]; exact hi))).mono ?_
    rintro e w5 ⟨rfl, b5⟩
    have Z5 : Hid (w4.heap.size ≤ w5.heap.size) := Lib.hid b5.size
    have B5 : Hid (Below w.heap.size w w5) := Lib.hid (btr B4.out b5)
    have FW_5 := Lib.hid (FW_4.out.up b5)
    clear FW_4
    have Fxg1_5 := Lib.hid (Fxg1_4.out.up b5)
    clear Fxg1_4
    have FG_5 := Lib.hid (FG_4.out.up b5)
    clear FG_4
    clear b5
    go_wp2_with fail
    refine (toSS g1A g1n g1c g1v g1x w5 (Hg1.out.up B5.out) hng1 hlg1).mono ?_
    rintro e w6 ⟨A6, c6, us6, rfl, s6, q6, b6⟩
    have Z6 : Hid (w5.heap.size ≤ w6.heap.size) := Lib.hid b6.size
    have B6 : Hid (Below w.heap.size w w6) := Lib.hid (btr B5.out b6)
    have FW_6 := Lib.hid (FW_5.out.up b6)
    clear FW_5
    have Fxg1_6 := Lib.hid (Fxg1_5.out.up b6)
    clear Fxg1_5
    have FG_6 := Lib.hid (FG_5.out.up b6)
    clear FG_5
    have Fyg1_6 := Lib.hid s6
    have Lyg1 : Hid (Lies A6 g1n c6 w5.heap.size w6.heap.size) := Lib.hid s6.lt_
    have Iyg1 : Hid (∀ t, t < g1n → ∀ k, (sval (us6.getD t sd0)).ownBlock = some k → w5.heap.size ≤ k ∧ k < w6.heap.size) := Lib.hid fun t ht => (s6.row t ht).lt_
    have Qyg1 := Lib.hid q6
    have hlyg1 : Hid (∀ i, i < g1n → (us6.getD i sd0).2.1 ≤ 1048576) := Lib.hid fun i hi => by rw [q6 i hi]; exact hlg1.out i hi
    clear s6 b6 q6
    go_wp2_with fail
    refine (eqRR_same A3 A6 g1n c3 g1n c6 us3 us6 _ w6 Fxg1_6.out.rr Fyg1_6.out.rr (by omega) hylg1).mono ?_
    rintro e w7 ⟨rfl, b7⟩
    have Z7 : Hid (w6.heap.size ≤ w7.heap.size) := Lib.hid b7.size
    have B7 : Hid (Below w.heap.size w w7) := Lib.hid (btr B6.out b7)
    have FW_7 := Lib.hid (FW_6.out.up b7)
    clear FW_6
    have Fxg1_7 := Lib.hid (Fxg1_6.out.up b7)
    clear Fxg1_6
    have FG_7 := Lib.hid (FG_6.out.up b7)
    clear FG_6
    have Fyg1_7 := Lib.hid (Fyg1_6.out.up b7)
    clear Fyg1_6
    clear b7
    clear Fyg1_7
    have KTx : Hid (tot us3 g1n ≤ 1048576) := Lib.hid (by rw [tot_eq g1n Qxg1.out]; exact KTg1.out)
    go_wp2_with fail
    refine (markSS A3 g1n c3 _ _ us3 _ w7 Fxg1_7.out (by omega) KTx).mono ?_
    rintro e w8 ⟨rfl, s8, o8⟩
    have Z8 : Hid (w7.heap.size ≤ w8.heap.size) := Lib.hid o8.size
    have B8 : Hid (Below w.heap.size w w8) := Lib.hid (B7.out.trans (o8.below B7.out.size (fun t ht k e => by have h2 := Ixg1.out t ht k e; have := Z1.out; have := Z2.out; have := Z3.out; have := Z4.out; have := Z5.out; have := Z6.out; have := Z7.out; have := Z8.out; omega)))
    have FW_8 := Lib.hid (FW_7.out.only2 o8 (fun k hk t ht e => by have h1 := LW.out k hk; have h2 := Ixg1.out t ht k e; have := Z1.out; have := Z2.out; have := Z3.out; have := Z4.out; have := Z5.out; have := Z6.out; have := Z7.out; have := Z8.out; omega) (fun s hs k hk t ht e => by have h1 := IW.out s hs k hk; have h2 := Ixg1.out t ht k e; have := Z1.out; have := Z2.out; have := Z3.out; have := Z4.out; have := Z5.out; have := Z6.out; have := Z7.out; have := Z8.out; omega))
    clear FW_7
    have Fxg1_8 := Lib.hid s8
    clear Fxg1_7
    have FG_8 := Lib.hid (FG_7.out.only2 o8 (fun k hk t ht e => by have h1 := LG.out k hk; have h2 := Ixg1.out t ht k e; have := Z1.out; have := Z2.out; have := Z3.out; have := Z4.out; have := Z5.out; have := Z6.out; have := Z7.out; have := Z8.out; omega) (fun s hs k hk t ht e => by have h1 := IG.out s hs k hk; have h2 := Ixg1.out t ht k e; have := Z1.out; have := Z2.out; have := Z3.out; have := Z4.out; have := Z5.out; have := Z6.out; have := Z7.out; have := Z8.out; omega))
    clear FG_7
    clear s8 o8
    obtain ⟨T, eT⟩ : ∃ T, tot us3 g1n = T := ⟨_, rfl⟩
    have hT9 : T ≤ 1048576 := by rw [← eT]; exact KTx.out
    rw [eT]
    clear eT
    go_wp2_with fail
    refine (eqRR_same A4 A2 n4 c4 n2 c2 us4 us2 _ w8 FG_8.out.rr FW_8.out.rr (by omega) (Lib.hid fun i hi => (boundMbs HR.out).2.1 i (by rw [FG_8.out.lx]; exact hi))).mono ?_
    rintro e w9 ⟨rfl, b9⟩
    have Z9 : Hid (w8.heap.size ≤ w9.heap.size) := Lib.hid b9.size
    have B9 : Hid (Below w.heap.size w w9) := Lib.hid (btr B8.out b9)
    have FW_9 := Lib.hid (FW_8.out.up b9)
    clear FW_8
    have Fxg1_9 := Lib.hid (Fxg1_8.out.up b9)
    clear Fxg1_8
    have FG_9 := Lib.hid (FG_8.out.up b9)
    clear FG_8
    clear b9
    clear Fxg1_9
    have KG : Hid (tot us4 n4 ≤ 1048576) := Lib.hid (by
      have h9 := (boundMbs HR.out).2.2
      rw [FG_9.out.tot_sum]; exact h9)
    go_wp2_with fail
    refine (markSS A4 n4 c4 _ _ us4 _ w9 FG_9.out (by omega) KG).mono ?_
    rintro e w10 ⟨rfl, s10, o10⟩
    have Z10 : Hid (w9.heap.size ≤ w10.heap.size) := Lib.hid o10.size
    have B10 : Hid (Below w.heap.size w w10) := Lib.hid (B9.out.trans (o10.below B9.out.size (fun t ht k e => by have h2 := IG.out t ht k e; have := Z1.out; have := Z2.out; have := Z3.out; have := Z4.out; have := Z5.out; have := Z6.out; have := Z7.out; have := Z8.out; have := Z9.out; have := Z10.out; omega)))
    have FW_10 := Lib.hid (FW_9.out.only2 o10 (fun k hk t ht e => by have h1 := LW.out k hk; have h2 := IG.out t ht k e; have := Z1.out; have := Z2.out; have := Z3.out; have := Z4.out; have := Z5.out; have := Z6.out; have := Z7.out; have := Z8.out; have := Z9.out; have := Z10.out; omega) (fun s hs k hk t ht e => by have h1 := IW.out s hs k hk; have h2 := IG.out t ht k e; have := Z1.out; have := Z2.out; have := Z3.out; have := Z4.out; have := Z5.out; have := Z6.out; have := Z7.out; have := Z8.out; have := Z9.out; have := Z10.out; omega))
    clear FW_9
    have FG_10 := Lib.hid s10
    clear FG_9
    clear s10 o10
    obtain ⟨U, eU⟩ : ∃ U, tot us4 n4 = U := ⟨_, rfl⟩
    have EU := Lib.hid eU
    have hU9 : U ≤ 1048576 := by rw [← eU]; exact KG.out
    rw [eU]
    clear eU
    go_wp2_with fail
    refine (heldSS A4 n4 c4 _ _ us4 w10 FG_10.out (by omega) KG).mono ?_
    rintro e w' ⟨rfl, rfl⟩
    rw [EU.out]
    go_wp2_with fail
    refine (toSS g1A g1n g1c g1v g1x w10 (Hg1.out.up B10.out) hng1 hlg1).mono ?_
    rintro e w11 ⟨A11, c11, us11, rfl, s11, q11, b11⟩
    have Z11 : Hid (w10.heap.size ≤ w11.heap.size) := Lib.hid b11.size
    have B11 : Hid (Below w.heap.size w w11) := Lib.hid (btr B10.out b11)
    have FW_11 := Lib.hid (FW_10.out.up b11)
    clear FW_10
    have FG_11 := Lib.hid (FG_10.out.up b11)
    clear FG_10
    have Fzg1_11 := Lib.hid s11
    have Lzg1 : Hid (Lies A11 g1n c11 w10.heap.size w11.heap.size) := Lib.hid s11.lt_
    have Izg1 : Hid (∀ t, t < g1n → ∀ k, (sval (us11.getD t sd0)).ownBlock = some k → w10.heap.size ≤ k ∧ k < w11.heap.size) := Lib.hid fun t ht => (s11.row t ht).lt_
    have Qzg1 := Lib.hid q11
    have hlzg1 : Hid (∀ i, i < g1n → (us11.getD i sd0).2.1 ≤ 1048576) := Lib.hid fun i hi => by rw [q11 i hi]; exact hlg1.out i hi
    clear s11 b11 q11
    go_wp2_with fail
    have K12 := IM i0 A11 g1n c11 us11 g1x w11 ⟨Fzg1_11.out.rr, hng1, hlzg1.out⟩ wfi0
    refine K12.mono ?_
    clear K12
    rintro e w12 ⟨A12, n12, c12, us12, z12, rfl, s12, r12, b12⟩
    have m12 : n12 ≤ 1048576 := by have := (boundMbs r12).1; have := s12.lx; omega
    have Z12 : Hid (w11.heap.size ≤ w12.heap.size) := Lib.hid b12.size
    have B12 : Hid (Below w.heap.size w w12) := Lib.hid (btr B11.out b12)
    have FW_12 := Lib.hid (FW_11.out.up b12)
    clear FW_11
    have FG_12 := Lib.hid (FG_11.out.up b12)
    clear FG_11
    have Fzg1_12 := Lib.hid (Fzg1_11.out.up b12)
    clear Fzg1_11
    have e12 := HR.out.uniq r12
    subst e12
    clear r12
    have FH_12 := Lib.hid s12
    have LH : Hid (Lies A12 n12 c12 w11.heap.size w12.heap.size) := Lib.hid s12.lt_
    have IH : Hid (∀ t, t < n12 → ∀ k, (sval (us12.getD t sd0)).ownBlock = some k → w11.heap.size ≤ k ∧ k < w12.heap.size) := Lib.hid fun t ht => (s12.row t ht).lt_
    clear s12 b12
    clear Fzg1_12
    go_wp2_with fail
    refine (eqRR_same A12 A2 n12 c12 n2 c2 us12 us2 _ w12 FH_12.out.rr FW_12.out.rr (by omega) (Lib.hid fun i hi => (boundMbs HR.out).2.1 i (by rw [FH_12.out.lx]; exact hi))).mono ?_
    rintro e w13 ⟨rfl, b13⟩
    have Z13 : Hid (w12.heap.size ≤ w13.heap.size) := Lib.hid b13.size
    have B13 : Hid (Below w.heap.size w w13) := Lib.hid (btr B12.out b13)
    have FW_13 := Lib.hid (FW_12.out.up b13)
    clear FW_12
    have FG_13 := Lib.hid (FG_12.out.up b13)
    clear FG_12
    have FH_13 := Lib.hid (FH_12.out.up b13)
    clear FH_12
    clear b13
    go_wp2_with fail
    refine (heldSS A4 n4 c4 _ _ us4 w13 FG_13.out (by omega) KG).mono ?_
    rintro e w' ⟨rfl, rfl⟩
    rw [EU.out]
    go_wp2_with fail
    go_ret
    exact ⟨rfl, B13.out⟩
  · skip
    have HT0 := Lib.hid hT0
    clear hT0
    go_enter Try.func10, Try.ntmps10
    go_wp2_with fail
    have K0 := szSS2 g1A g1n g1c 1048576 g1v g1x w Hg1.out hmg1 hkg1 (by decide) (by decide)
    refine K0.mono ?_
    rintro e w0 ⟨rfl, rfl⟩
    clear K0
    rw [if_neg (Int.not_le.2 HT0.out)]
    go_wp2
    go_ret
    exact ⟨rfl, Below.refl _ _⟩
end Go.Proofs.Ytonanelghnjhpaa

/- The program's members: all of them, by a function that calls itself through a variable; Members. Conditions: at most 1048576 lists of at most 1048576 numbers. -/
namespace Go.Proofs.Ytonanelghnjhpaa
open Go.RowKit

/-- The members that agree with m in the first i entries, in order. -/
structure Sub (N : Nat) (gs : List (List Int)) (i : Nat) (m : List Int) (l : List (List Int)) : Prop where
  srt : l.Pairwise (LxI N)
  mem : ∀ p, p ∈ l ↔ Mb gs N p ∧ Ag i p m
/-- Those among them whose entry i is one of the first t of zs. -/
structure SubT (N : Nat) (gs : List (List Int)) (i : Nat) (m zs : List Int) (t : Nat) (l : List (List Int)) : Prop where
  srt : l.Pairwise (LxI N)
  mem : ∀ p, p ∈ l ↔ Mb gs N p ∧ Ag i p m ∧ ∃ u, u < t ∧ (nx p i : Int) = zs.getD u 0
section
variable {N i t : Nat} {gs : List (List Int)} {m m' zs : List Int} {l l' : List (List Int)}
theorem Sub.one (hg : ∀ g ∈ gs, Pn N g) (h1 : 1 ≤ N) (h2 : N ≤ 20) (hm : Mb gs N m) : Sub N gs N m [m] :=
  ⟨List.pairwise_singleton _ _, fun p => by
    rw [List.mem_singleton]
    exact ⟨fun e => ⟨e ▸ hm, fun x _ => by rw [e]⟩, fun ⟨a, b⟩ => (a.pn hg h1 h2).ext (hm.pn hg h1 h2) fun x hx => b x hx⟩⟩
theorem SubT.zero : SubT N gs i m zs 0 [] := ⟨.nil, fun p => ⟨fun h => (by cases h), fun ⟨_, _, u, hu, _⟩ => absurd hu (Nat.not_lt_zero _)⟩⟩
theorem SubT.next (h : SubT N gs i m zs t l) (hs : Sub N gs (i + 1) m' l') (hz : zs.Pairwise (· < ·)) (hi : i < N) (ht : t < zs.length) (ha : Ag i m' m) (hv : (nx m' i : Int) = zs.getD t 0) : SubT N gs i m zs (t + 1) (l ++ l') := by
  refine ⟨List.pairwise_append.2 ⟨h.srt, hs.srt, fun x hx y hy => ?_⟩, fun p => ?_⟩
  · obtain ⟨_, a1, u, hu, e1⟩ := (h.mem x).1 hx
    obtain ⟨_, a2⟩ := (hs.mem y).1 hy
    have a3 := (ag_succ.1 a2)
    refine ⟨i, hi, a1.trans (a3.1.trans ha).symm, ?_⟩
    have := sorted_lo hz hu ht
    have := a3.2
    omega
  · rw [List.mem_append, h.mem, hs.mem]
    constructor
    · rintro (⟨a, b, u, hu, e⟩ | ⟨a, b⟩)
      · exact ⟨a, b, u, by omega, e⟩
      · have b3 := ag_succ.1 b
        exact ⟨a, b3.1.trans ha, t, by omega, by rw [b3.2]; exact hv⟩
    · rintro ⟨a, b, u, hu, e⟩
      by_cases eu : u = t
      · subst eu
        exact .inr ⟨a, ag_succ.2 ⟨b.trans ha.symm, by omega⟩⟩
      · exact .inl ⟨a, b, u, by omega, e⟩
theorem SubT.all (h : SubT N gs i m zs zs.length l) (hc : ChL N gs m i zs) : Sub N gs i m l :=
  ⟨h.srt, fun p => by
    rw [h.mem]
    refine ⟨fun ⟨a, b, _⟩ => ⟨a, b⟩, fun ⟨a, b⟩ => ⟨a, b, ?_⟩⟩
    obtain ⟨u, hu, e⟩ := List.mem_iff_getElem.1 ((hc.2 _).2 ⟨p, a, b, rfl⟩)
    exact ⟨u, hu, by rw [gdx' hu]; exact e.symm⟩⟩
/-- How many they are. -/
theorem Sub.len {xs : List Int} (h : Sub N gs i m l) (ho : IsOS N gs xs) (hg : ∀ g ∈ gs, Pn N g) (h1 : 1 ≤ N) (h2 : N ≤ 20) (hi : i ≤ N) (hm : Mb gs N m) : (l.length : Int) = pr xs i (N - i) := by
  obtain ⟨v, hv, e⟩ := agree_card ho hg h1 h2 hi hm
  rw [e, hv.uniq ⟨l, lx_nodup h.srt, h.mem, rfl⟩]
end

/-- The blocks that the list may turn: its box, its row. -/
def Tb (ball : Nat) (A : Option Addr) (n c : Nat) (b : Nat) : Prop := b = ball ∨ (Value.slice A n c).ownBlock = some b
theorem SS.chgS {w w' : World} {lo n c : Nat} {A : Option Addr} {us : List SV} {l : List (List Int)} {S : Nat → Prop} (h : SS w lo lo A n c us l) (hc : Chg w w' S) (hS : ∀ b, S b → b < lo) : SS w' lo lo A n c us l :=
  ⟨ownsRow_chg h.own hc fun b e hs => by have := (h.lt_ b e).1; have := hS b hs; omega, h.lv, h.lx, fun i hi => (h.row i hi).chgS hc fun b e hs => by have := ((h.row i hi).lt_ b e).1; have := hS b hs; omega, h.dis⟩
theorem chg_cellT (w : World) (b : Nat) (u : Value) : Chg w (w.setCell ⟨b, 0, none⟩ u) (fun x => x = b) := ⟨rfl, rfl, rfl, by simp, fun x hx hn => heap_setCell_other w ⟨b, 0, none⟩ _ _ fun e => hn e⟩

/-- withValue where the entry is one that the link allows. -/
theorem implWithY (base N k j cp : Nat) (M : Nat → Prop) (c : Ch) (L : Nat → LK) (A : Option Addr) (m : List Int) (v y : Nat) (w : World) (hc : Ck w base N k M c L) (hkj : k ≤ j) (hjN : j < N) (hr : Hid (RepOK N c j)) (hm : RI w w.heap.size A m) (hP : Hid (Pn N m)) (hy : y < N) (hyv : nx m y = v) (hyr : c.rep j y ≠ []) :
    Calls Try.prog 102 #[.pointer (some ⟨(L j).B, 0, none⟩), .slice A N cp, .int .i64 (v : Nat)] w fun e w' => ∃ (g c' : Nat), e = .returned (.slice (some ⟨g, 0, none⟩) N c') ∧ Slc w' w.heap.size (some ⟨g, 0, none⟩) N c' (compL (c.rep j y) m) ∧ Below w.heap.size w w' :=
  (implWith base N k j cp M c L A m (v : Nat) w hc hkj hjN hr hm hP).mono fun e w' h => by
    obtain ⟨A', n', c', rfl, (⟨_, _, _, hno⟩ | ⟨g, y2, rfl, rfl, hy2, hyv2, _, hs⟩), b⟩ := h
    · exact absurd (hno y hy (by rw [hyv])) hyr
    · obtain rfl : y2 = y := hP.out.inj hy2 hy (by omega)
      exact ⟨g, c', rfl, hs, b⟩

def ChooseOK (w0 : World) (N lo ball bch : Nat) (gs : List (List Int)) (os : List Int) (L : Nat → LK) (i : Nat) : Prop :=
  ∀ (A Am : Option Addr) (n c cm : Nat) (us : List SV) (l : List (List Int)) (m : List Int) (w : World), Below w0.heap.size w0 w → lo ≤ w.heap.size → Blk w ball 24 #[.slice A n c] → Blk w bch 91 #[.func (.func 100) #[] #[.pointer (some ⟨ball, 0, none⟩), .pointer (some ⟨bch, 0, none⟩)]] →
    SS w lo lo A n c us l → Mb gs N m → Rd w (Tb ball A n c) (Am, N, cm) m → (i = N → Slc w lo Am N cm m ∧ ∀ t, t < n → (sval (us.getD t sd0)).ownBlock = none ∨ (sval (us.getD t sd0)).ownBlock ≠ (sval (Am, N, cm)).ownBlock) → (l.length : Int) + pr os i (N - i) ≤ 3000 →
    Calls Try.prog 100 #[ptr N L i, .slice Am N cm, .pointer (some ⟨ball, 0, none⟩), .pointer (some ⟨bch, 0, none⟩)] w fun e w' => e = .returned (.tuple #[]) ∧ ∃ (A' : Option Addr) (n' c' : Nat) (us' : List SV) (l' : List (List Int)),
      Blk w' ball 24 #[.slice A' n' c'] ∧ SS w' lo lo A' n' c' us' (l ++ l') ∧ Sub N gs i m l' ∧ (∀ b, Tb ball A' n' c' b → Tb ball A n c b ∨ w.heap.size ≤ b) ∧ Chg w w' (Tb ball A n c)

set_option maxHeartbeats 4000000 in
set_option maxRecDepth 100000 in
theorem choose_end (w0 : World) (N lo ball bch : Nat) (gs : List (List Int)) (os : List Int) (L : Nat → LK) (hg : Hid (∀ g ∈ gs, Pn N g)) (h1 : 1 ≤ N) (h2 : N ≤ 20) (hbl : ball < lo) : ChooseOK w0 N lo ball bch gs os L N := by
  intro A Am n c cm us l m w bel hlo hba hbc hss hmb hrd hown hcnt
  obtain ⟨hsl, hdis⟩ := hown rfl
  have Ss := Lib.hid hss
  have Sl := Lib.hid hsl
  have Di := Lib.hid hdis
  have One := Lib.hid (Sub.one hg.out h1 h2 hmb)
  have hn3 : n ≤ 3000 := by
    rw [Nat.sub_self] at hcnt
    have hcnt : (l.length : Int) + 1 ≤ 3000 := hcnt
    have := hss.lx
    omega
  have c0 : w.cell? ⟨ball, 0, none⟩ = some (.slice A n c) := hba.cell 0
  have hnr : some ball ≠ (Value.slice A n c).ownBlock := fun e => by have := (hss.lt_ ball e.symm).1; omega
  have PA : Hid (∀ (A3 : Option Addr) (c3 : Nat) (w3 : World), SS w3 lo lo A3 (n + 1) c3 (us ++ [(Am, N, cm)]) (l ++ [m]) → (w.alloc (.cells #[.slice Am N cm] 28)).grownBy w3 (Value.slice A n c).ownBlock → ((Value.slice A3 (n + 1) c3).ownBlock = (Value.slice A n c).ownBlock ∨ (Value.slice A3 (n + 1) c3).ownBlock = some (w.alloc (.cells #[.slice Am N cm] 28)).heap.size) →
      w3.cell? ⟨ball, 0, none⟩ = some (.slice A n c) ∧ w3.frozen? ⟨ball, 0, none⟩ = false ∧ Hid (Blk (w3.setCell ⟨ball, 0, none⟩ (.slice A3 (n + 1) c3)) ball 24 #[.slice A3 (n + 1) c3] ∧ SS (w3.setCell ⟨ball, 0, none⟩ (.slice A3 (n + 1) c3)) lo lo A3 (n + 1) c3 (us ++ [(Am, N, cm)]) (l ++ [m]) ∧ (∀ b, Tb ball A3 (n + 1) c3 b → Tb ball A n c b ∨ w.heap.size ≤ b) ∧ Chg w (w3.setCell ⟨ball, 0, none⟩ (.slice A3 (n + 1) c3)) (Tb ball A n c))) := Lib.hid fun A3 c3 w3 s3 g3 h3 => by
    have b3 := (hba.alloc (.cells #[.slice Am N cm] 28)).grown g3 hnr
    refine ⟨b3.cell 0, b3.frozen 0, Lib.hid ⟨by simpa using b3.set_ 0 (.slice A3 (n + 1) c3), s3.chgS (chg_cellT _ _ _) (fun b e => by rw [e]; exact hbl), fun b e => ?_, ?_⟩⟩
    · rcases e with e | e
      · exact .inl (.inl e)
      · rcases h3 with h | h
        · exact .inl (.inr (by rw [← h]; exact e))
        · rw [h] at e; injection e with e; exact .inr (by simp at e; omega)
    · refine ((Chg.of_below (M := Tb ball A n c) ((Below.refl w.heap.size w).alloc (Nat.le_refl _) _)).trans (.of_grown (M := Tb ball A n c) g3 fun k e => .inr e) fun k e => .inl e).trans (chg_cellT _ _ _) fun k e => .inl (.inl e)
  have Fin := PA
  clear hba hbc hss hmb hrd hown hcnt hsl hdis hnr Fin
  rw [ptr_end (Nat.le_refl _)]
  go_enter Try.func100, Try.ntmps100
  go_wp2_with (first | (at_builtin; refine wpList_app2_at rfl _ _ rfl rfl (Ss.out.alloc _) w.heap.size Am N cm m rfl (by rw [World.cell?_alloc_at _ _ _ _ rfl]; rfl) (Sl.out.alloc _) Di.out (by omega) (by simp; omega) ?_; intro A3 c3 w3 s3 g3 h3; obtain ⟨v1, v2, v3⟩ := PA.out A3 c3 w3 s3 g3 h3; clear s3 g3 h3))
  (try simp only [Exit.inBlock, Exit.then]); refine bodyPost_ret (results_none rfl _ _ _) rfl ?_
  exact ⟨rfl, A3, n + 1, c3, _, [m], v3.out.1, v3.out.2.1, One.out, v3.out.2.2.1, v3.out.2.2.2⟩

set_option maxHeartbeats 8000000 in
set_option maxRecDepth 100000 in
theorem choose_step (w0 : World) (base N lo ball bch i : Nat) (gs : List (List Int)) (M : Nat → Prop) (ch : Ch) (L : Nat → LK) (hc0 : Hid (Ck w0 base N 0 M ch L)) (ho : Orbs N 0 ch L) (hw : Hid (Whole N gs ch)) (hg : Hid (∀ g ∈ gs, Pn N g)) (h1 : 1 ≤ N) (h2 : N ≤ 20) (hi : i < N) (hb0 : w0.heap.size ≤ ball) (hbl : ball < lo) (hcl : bch < lo) (hne : bch ≠ ball)
    (ih : ChooseOK w0 N lo ball bch gs (osL N ch N) L (i + 1)) : ChooseOK w0 N lo ball bch gs (osL N ch N) L i := by
  intro A Am n c cm us l m w bel hlo hba hbc hss hmb hrd hown hcnt
  have HO := Lib.hid ho
  have Os := Lib.hid (hw.out.os h1 h2)
  have C0 := Lib.hid (hc0.out.up bel)
  have Rm := Lib.hid hrd
  have Mb0 := Lib.hid hmb
  have Ss0 := Lib.hid hss
  have Ba0 := Lib.hid hba
  have Bc0 := Lib.hid hbc
  have Be0 := Lib.hid bel
  have hbaw := hba.lt
  have Cn := Lib.hid hcnt
  have PM := Lib.hid (hmb.pn hg.out h1 h2)
  have ST : Hid (∀ b, Tb ball A n c b → b < w.heap.size) := Lib.hid fun b e => by
    rcases e with e | e
    · omega
    · exact (hss.lt_ b e).2
  clear ho hba hbc hss hmb hrd hown hcnt bel
  rw [ptr_at hi]
  go_enter Try.func100, Try.ntmps100
  go_wp2_with fail
  refine (implValues base N 0 i cm M ch L gs Am m w C0.out HO.out hw (Nat.zero_le _) hi h1 h2 hg Rm.out.ri Mb0).mono ?_
  rintro e w2 ⟨g, nz, cz, zs, rfl, s2, hn1, hn20, chl, b2⟩
  have Chl := Lib.hid chl
  have Lz : Hid (zs.length = nz) := Lib.hid s2.1
  obtain ⟨cn, hcn, hcc⟩ := agree_card Os.out hg.out h1 h2 (i := i + 1) (by omega) Mb0.out
  have hfr : pr (osL N ch N) i (N - i) = ((nz * cn : Nat) : Int) := by
    have hlen := chl.len Os.out hg.out h1 h2 hi Mb0.out
    rw [show N - i = N - (i + 1) + 1 by omega, pr_front, hcc, ← hlen, s2.1, Int.natCast_mul]
  have Cc := Lib.hid hcc
  have Ct : Hid (l.length + nz * cn ≤ 3000) := Lib.hid (by have := Cn.out; rw [hfr] at this; omega)
  have Zs : Hid (Rd w2 (Tb ball A n c) (some ⟨g, 0, none⟩, nz, cz) zs) := Lib.hid (Rd.of_slc (d := (some ⟨g, 0, none⟩, nz, cz)) s2 ST.out)
  have Rm2 : Hid (Rd w2 (Tb ball A n c) (Am, N, cm) m) := Lib.hid (Rm.out.up b2)
  have Ss2 := Lib.hid (Ss0.out.up b2)
  have Ba2 := Lib.hid (Ba0.out.below b2 Ba0.out.lt)
  have Bc2 := Lib.hid (Bc0.out.below b2 Bc0.out.lt)
  have Be2 : Hid (Below w0.heap.size w0 w2) := Lib.hid (btr Be0.out b2)
  have Cg2 : Hid (Chg w w2 (Tb ball A n c)) := Lib.hid (.of_below b2)
  clear s2 chl b2 hcn hcc hfr
  go_wp2_with fail
  go_loopg [7, 18] nz (fun gg _ iv wr => ∃ (t : Nat) (A' : Option Addr) (n' c' : Nat) (us' : List SV) (l' : List (List Int)), t ≤ nz ∧ nz - t ≤ gg ∧ iv = .int .i64 (t : Nat) ∧ Blk wr ball 24 #[.slice A' n' c'] ∧ Blk wr bch 91 #[.func (.func 100) #[] #[.pointer (some ⟨ball, 0, none⟩), .pointer (some ⟨bch, 0, none⟩)]] ∧
    SS wr lo lo A' n' c' us' (l ++ l') ∧ SubT N gs i m zs t l' ∧ l'.length = t * cn ∧ (∀ b, Tb ball A' n' c' b → Tb ball A n c b ∨ w.heap.size ≤ b) ∧ Chg w wr (Tb ball A n c) ∧ Rd wr (Tb ball A' n' c') (Am, N, cm) m ∧ Rd wr (Tb ball A' n' c') (some ⟨g, 0, none⟩, nz, cz) zs ∧ Below w0.heap.size w0 wr)
  case atStart => exact ⟨0, A, n, c, us, [], Nat.zero_le _, by omega, rfl, Ba2.out, Bc2.out, by rw [List.append_nil]; exact Ss2.out, SubT.zero, by rw [Nat.zero_mul]; rfl, fun b e => .inl e, Cg2.out, Rm2.out, Zs.out, Be2.out⟩
  case round =>
    clear Zs Rm2 Ss2 Ba2 Bc2 Be2 Cg2
    obtain ⟨t, A', n', c', us', l', ht, hgg, rfl, hba, hbc, hss, hsb, hll, htb, hcg, hrm, hzs, bel⟩ := hrel
    have Ba := Lib.hid hba
    have Bc := Lib.hid hbc
    have Ss := Lib.hid hss
    have Sb := Lib.hid hsb
    have Ll := Lib.hid hll
    have Tt := Lib.hid htb
    have Cg := Lib.hid hcg
    have Rm1 := Lib.hid hrm
    have Zs := Lib.hid hzs
    have Be := Lib.hid bel
    have C1 := Lib.hid (hc0.out.up bel)
    have hzr := hcg.size
    have hz0 := bel.size
    clear hba hbc hss hsb hll htb hcg hrm hzs bel
    by_cases hlt : t < nz
    · have hzm : zs.getD t 0 ∈ zs := by rw [gdx' (by rw [Lz.out]; exact hlt)]; exact List.getElem_mem _
      obtain ⟨v, hv, _⟩ := Chl.out.bnd hg.out h1 h2 hi hzm
      obtain ⟨zb, zo, ez, hzb, _, hzc⟩ := Zs.out.at_ (by rw [Lz.out]; omega)
      have x9 := hzc t (by rw [Lz.out]; exact hlt)
      have ez2 : (some ⟨g, 0, none⟩ : Option Addr) = some ⟨zb, zo, none⟩ := ez
      injection ez2 with ez2
      injection ez2 with f1 f2 _
      subst f1 f2
      rw [Nat.zero_add, hv] at x9
      rw [hv] at hzm
      obtain ⟨y0, hy0, hyv, hry⟩ := hw.out.pick h1 h2 hg.out hi Mb0.out Chl.out hzm
      have Pk := Lib.hid (hw.out.picked h1 h2 hg.out hi Mb0.out hry)
      have Y0 : Hid (y0 < N ∧ nx m y0 = v ∧ ch.rep i y0 ≠ []) := Lib.hid ⟨hy0, by omega, hry⟩
      have Hv := Lib.hid hv
      obtain ⟨m', hm'⟩ : ∃ m', compL (ch.rep i y0) m = m' := ⟨_, rfl⟩
      have Em := Lib.hid hm'
      have x1 : wr.cell? ⟨bch, 0, none⟩ = some (.func (.func 100) #[] #[.pointer (some ⟨ball, 0, none⟩), .pointer (some ⟨bch, 0, none⟩)]) := Bc.out.cell 0
      have x2 := (C1.out.cB (Nat.zero_le _) hi).2.2.2.2
      have z0 : (0 : Int) ≤ t := by omega
      have z1 : (t : Int) < nz := by omega
      have hkk : l.length + t * cn + cn ≤ 3000 := by
        have h3 : (t + 1) * cn ≤ nz * cn := Nat.mul_le_mul_right cn hlt
        rw [Nat.succ_mul] at h3
        have := Ct.out
        omega
      have hB : (L i).B < wr.heap.size := (C1.out.lk i (Nat.zero_le _) hi).blk.lt
      have hbcw : bch < wr.heap.size := Bc.out.lt
      have ST1 : Hid (∀ b, Tb ball A' n' c' b → b < wr.heap.size) := Lib.hid fun b e => by
        rcases e with e | e
        · rw [e]; exact Ba.out.lt
        · exact (Ss.out.lt_ b e).2
      have NT : Hid (∀ b, Tb ball A' n' c' b → b ≠ bch ∧ w0.heap.size ≤ b) := Lib.hid fun b e => by
        rcases e with e | e
        · rw [e]; exact ⟨fun h => hne h.symm, hb0⟩
        · have := (Ss.out.lt_ b e).1
          exact ⟨by omega, by omega⟩
      clear ez hzb hzc hzm hy0 hyv hry hv hm'
      go_wp2_with fail
      go_region_held3 (fun w' => w'.cell? ⟨bch, 0, none⟩ = some (.func (.func 100) #[] #[.pointer (some ⟨ball, 0, none⟩), .pointer (some ⟨bch, 0, none⟩)]) ∧ w'.cell? ⟨(L i).B, 4, none⟩ = some (ptr N L (i + 1)))
        (first | exact ⟨x1, x2⟩ | exact hS1 | exact hS2 | go_keep)
        (first
          | (go_at_call 102; refine (implWithY base N 0 i cm M ch L Am m v y0 _ ?_ (Nat.zero_le _) hi ?_ ?_ PM Y0.out.1 Y0.out.2.1 Y0.out.2.2).mono ?_; (exact C1.out.up ⟨rfl, rfl, rfl, Nat.le_refl _, fun _ _ => rfl⟩); (exact Lib.hid (hw.out.up.rep i (Nat.zero_le _) hi)); (exact Rm1.out.ri); rintro e w3 ⟨g3, c3, rfl, s3', b3'⟩; have b3 : Below wr.heap.size wr w3 := ⟨b3'.os, b3'.tape, b3'.output, b3'.size, b3'.block⟩; have s3 : Slc w3 wr.heap.size (some ⟨g3, 0, none⟩) N c3 m' := by rw [← Em.out]; exact s3'
             have hS1 := And.intro ((b3.cell (p := ⟨bch, 0, none⟩) hbcw).trans x1) ((b3.cell (p := ⟨(L i).B, 4, none⟩) hB).trans x2))
          | (go_at_call 100; refine (ih A' (some ⟨g3, 0, none⟩) n' c' c3 us' (l ++ l') m' w3 ?_ ?_ ?_ ?_ ?_ ?_ ?_ ?_ ?_).mono ?_; (exact btr Be.out b3); (exact Nat.le_trans (Nat.le_trans hlo hzr) b3.size); (exact Ba.out.below b3 Ba.out.lt); (exact Bc.out.below b3 Bc.out.lt); (exact Ss.out.up b3); (rw [← Em.out]; exact Pk.out.1); (exact Rd.of_slc (d := (some ⟨g3, 0, none⟩, N, c3)) s3 ST1.out); (exact fun _ => ⟨s3.mono (Nat.le_trans hlo hzr), lies_dis Ss.out s3.lies (Nat.le_refl _)⟩); (rw [List.length_append, Ll.out, Cc.out]; omega)
             rintro e w4 ⟨rfl, A4, n4, c4, us4, l4, ba4, ss4, sb4, tb4, cg4⟩
             have cg5 : Chg wr w4 (Tb ball A' n' c') := (Chg.of_below (M := Tb ball A' n' c') b3).trans cg4 fun k e => .inl e
             have bc4 := Bc.out.chg cg5 (fun e => (NT.out bch e).1 rfl)
             have be4 : Below w0.heap.size w0 w4 := Be.out.trans (cg5.below (fun k e => (NT.out k e).2) hz0)
             have hS2 := And.intro (bc4.cell 0) (((hc0.out.up be4).cB (Nat.zero_le _) hi).2.2.2.2)))
      have T4 : Hid (∀ b, Tb ball A4 n4 c4 b → Tb ball A' n' c' b ∨ wr.heap.size ≤ b) := Lib.hid fun b e => by
        rcases tb4 b e with h | h
        · exact .inl h
        · exact .inr (Nat.le_trans b3.size h)
      have R1 : Hid (Blk w4 ball 24 #[.slice A4 n4 c4]) := Lib.hid ba4
      have R2 := Lib.hid bc4
      have R3 : Hid (SS w4 lo lo A4 n4 c4 us4 (l ++ (l' ++ l4))) := Lib.hid (by rw [← List.append_assoc]; exact ss4)
      have R4 : Hid (SubT N gs i m zs (t + 1) (l' ++ l4)) := Lib.hid (Sb.out.next sb4 Chl.out.1 hi (by rw [Lz.out]; exact hlt) (by rw [← Em.out]; exact Pk.out.2.1) (by rw [← Em.out, Pk.out.2.2, Y0.out.2.1, Hv.out]))
      have R5 : Hid ((l' ++ l4).length = (t + 1) * cn) := Lib.hid (by
        have := sb4.len Os.out hg.out h1 h2 (by omega) (by rw [← Em.out]; exact Pk.out.1)
        rw [Cc.out] at this
        rw [List.length_append, Ll.out, Nat.succ_mul]; omega)
      have R6 : Hid (∀ b, Tb ball A4 n4 c4 b → Tb ball A n c b ∨ w.heap.size ≤ b) := Lib.hid fun b e => by
        rcases T4.out b e with h | h
        · exact Tt.out b h
        · exact .inr (Nat.le_trans hzr h)
      have R7 : Hid (Chg w w4 (Tb ball A n c)) := Lib.hid (Cg.out.trans cg5 Tt.out)
      have R8 : Hid (Rd w4 (Tb ball A4 n4 c4) (Am, N, cm) m) := Lib.hid (Rm1.out.keep cg5 (fun _ e => e) T4.out)
      have R9 : Hid (Rd w4 (Tb ball A4 n4 c4) (some ⟨g, 0, none⟩, nz, cz) zs) := Lib.hid (Zs.out.keep cg5 (fun _ e => e) T4.out)
      have R10 := Lib.hid be4
      clear ba4 ss4 sb4 tb4 cg4 cg5 bc4 be4 b3 s3 hS1 hS2
      go_wp2_with fail
      go_roundg (nz - (t + 1))
      case rel => exact ⟨t + 1, A4, n4, c4, us4, l' ++ l4, by omega, by omega, by go_num, R1.out, R2.out, R3.out, R4.out, R5.out, R6.out, R7.out, R8.out, R9.out, R10.out⟩
      case measure => omega
    · obtain rfl : t = nz := by omega
      have Fin : Hid (Sub N gs i m l') := Lib.hid (by
        have := Sb.out
        rw [← Lz.out] at this
        exact this.all Chl.out)
      go_wp2_with fail
      go_end0
      exact ⟨rfl, A', n', c', us', l', Ba.out, Ss.out, Fin.out, Tt.out, Cg.out⟩
theorem choose_all (w0 : World) (base N lo ball bch : Nat) (gs : List (List Int)) (M : Nat → Prop) (ch : Ch) (L : Nat → LK) (hc0 : Hid (Ck w0 base N 0 M ch L)) (ho : Orbs N 0 ch L) (hw : Hid (Whole N gs ch)) (hg : Hid (∀ g ∈ gs, Pn N g)) (h1 : 1 ≤ N) (h2 : N ≤ 20) (hb0 : w0.heap.size ≤ ball) (hbl : ball < lo) (hcl : bch < lo) (hne : bch ≠ ball) :
    ∀ d i, i + d = N → ChooseOK w0 N lo ball bch gs (osL N ch N) L i
  | 0, i, e => by
    obtain rfl : i = N := by omega
    exact choose_end w0 i lo ball bch gs _ L hg h1 h2 hbl
  | d + 1, i, e => choose_step w0 base N lo ball bch i gs M ch L hc0 ho hw hg h1 h2 (by omega) hb0 hbl hcl hne (choose_all w0 base N lo ball bch gs M ch L hc0 ho hw hg h1 h2 hb0 hbl hcl hne d (i + 1) (by omega))

set_option maxHeartbeats 4000000 in
set_option maxRecDepth 100000 in
/-- members, of a whole chain of at most 3000. -/
theorem implMembersC (base N V : Nat) (gs : List (List Int)) (M : Nat → Prop) (ch : Ch) (L : Nat → LK) (w : World) (hc : Ck w base N 0 M ch L) (ho : Orbs N 0 ch L) (hw : Hid (Whole N gs ch)) (h1 : 1 ≤ N) (h2 : N ≤ 20) (hg : Hid (∀ g ∈ gs, Pn N g)) (hV : Hid (pr (osL N ch N) 0 N = (V : Int))) (hV3 : V ≤ 3000) :
    Calls Try.prog 59 #[.pointer (some ⟨(L 0).B, 0, none⟩)] w fun e w' => ∃ (A : Option Addr) (n c : Nat) (us : List SV) (l : List (List Int)), e = .returned (.slice A n c) ∧ SS w' w.heap.size w.heap.size A n c us l ∧ Sub N gs 0 (idL N) l ∧ Below w.heap.size w w' := by
  have hmf : ∀ (fn : Fn) (first cap : Array Value) (w : World), (Instr.makeFunc fn first cap).run Try.prog w = .ok (.func fn first cap) w := fun _ _ _ _ => rfl
  have HC := Lib.hid hc
  have HO := Lib.hid ho
  obtain ⟨w3, hw3⟩ : ∃ w3, w3 = (w.alloc (.cells #[.slice none 0 0] 24)).alloc (.cells #[.func (.func 100) #[] #[.pointer (some ⟨w.heap.size, 0, none⟩), .pointer (some ⟨w.heap.size + 1, 0, none⟩)]] 91) := ⟨_, rfl⟩
  have hz3 : w3.heap.size = w.heap.size + 2 := by rw [hw3]; simp
  have b3 : Below w.heap.size w w3 := by rw [hw3]; exact ((Below.refl _ _).alloc (Nat.le_refl _) _).alloc (by simp) _
  have B3 := Lib.hid b3
  have Ba : Hid (Blk w3 w.heap.size 24 #[.slice none 0 0]) := Lib.hid (by rw [hw3]; exact (Blk.new w _ _).alloc _)
  have Bc : Hid (Blk w3 (w.heap.size + 1) 91 #[.func (.func 100) #[] #[.pointer (some ⟨w.heap.size, 0, none⟩), .pointer (some ⟨w.heap.size + 1, 0, none⟩)]]) := Lib.hid (by
    rw [hw3]
    have := Blk.new (w.alloc (.cells #[.slice none 0 0] 24)) 91 #[.func (.func 100) #[] #[.pointer (some ⟨w.heap.size, 0, none⟩), .pointer (some ⟨w.heap.size + 1, 0, none⟩)]]
    rw [World.size_alloc] at this
    exact this)
  have C3 := Lib.hid (hc.up b3)
  obtain ⟨b, off, cc, en, x5, hcc, hri⟩ := C3.out.mover0 hw.out h1
  have hrd := (hc.eM (Nat.le_refl _) (show 0 < N by omega) (y := 0) (by omega)).2 (by rw [rep00 hw.out h1]; exact idL_ne h1)
  rw [rep00 hw.out h1, en] at hrd
  have Rd3 : Hid (Rd w3 (Tb w.heap.size none 0 0) (some ⟨b, off, none⟩, N, cc) (idL N)) := Lib.hid (hrd.keep (S := fun _ => False) (.of_below b3) (fun _ e => e.elim) fun x e => by
    rcases e with e | e
    · exact .inr (by omega)
    · cases e)
  obtain ⟨x0, x1, x2, x3, x4⟩ := C3.out.cB (Nat.le_refl _) (show 0 < N by omega)
  have x6 : w3.cell? ⟨w.heap.size + 1, 0, none⟩ = some (.func (.func 100) #[] #[.pointer (some ⟨w.heap.size, 0, none⟩), .pointer (some ⟨w.heap.size + 1, 0, none⟩)]) := Bc.out.cell 0
  have CA := choose_all w base N (w.heap.size + 2) w.heap.size (w.heap.size + 1) gs M ch L HC HO.out hw hg h1 h2 (Nat.le_refl _) (by omega) (by omega) (by omega) N 0 (by omega)
  have K : Hid (∀ q, Calls Try.prog 100 #[.pointer (some ⟨(L 0).B, 0, none⟩), .slice (some ⟨b, off, none⟩) N cc, .pointer (some ⟨w.heap.size, 0, none⟩), .pointer (some ⟨w.heap.size + 1, 0, none⟩)] (w3.drewN q) fun e w' => e = .returned (.tuple #[]) ∧ ∃ (A' : Option Addr) (n' c' : Nat) (us' : List SV) (l' : List (List Int)),
      Blk w' w.heap.size 24 #[.slice A' n' c'] ∧ SS w' w.heap.size w.heap.size A' n' c' us' l' ∧ Sub N gs 0 (idL N) l' ∧ Chg w3 w' (fun b => b = w.heap.size)) := Lib.hid fun q => by
    have KK := CA none (some ⟨b, off, none⟩) 0 0 cc [] [] (idL N) (w3.drewN q) (btr b3 (pcDrewBelow w3 q)) (by show w.heap.size + 2 ≤ w3.heap.size; omega) Ba.out Bc.out SS.nil_ .one (Rd3.out.up (pcDrewBelow w3 q)) (fun e => by omega) (by
      rw [Nat.sub_zero, hV.out]; simp; omega)
    rw [ptr_at (by omega)] at KK
    refine KK.mono fun e w' h => ?_
    obtain ⟨h0, A', n', c', us', l', a1, a2, a3, _, a5⟩ := h
    refine ⟨h0, A', n', c', us', l', a1, by rw [List.nil_append] at a2; exact a2.mono (by omega) (by omega), a3, a5.os, a5.tape, a5.output, a5.size, fun k hk hn => a5.block k hk fun e => ?_⟩
    rcases e with e | e
    · exact hn e
    · cases e
  have hB0 : (L 0).B < w.heap.size := (hc.lk 0 (Nat.le_refl _) (by omega)).blk.lt
  have hm0 : (L 0).mb < w.heap.size := (hc.mlt _ (hc.mm 0 3 _ (Nat.le_refl _) (by omega) (by decide) rfl)).2
  have p0 : (0 : Int) ≤ (0 : Nat) := by omega
  have p1 : ((0 : Nat) : Int) < N := by omega
  have p2 : (0 : Int) < N := by omega
  have p3 : 0 < N := by omega
  have Hw3 := Lib.hid hw3
  clear hc ho hw3 b3 en hri hrd x1 x2 x4 CA
  go_enter Try.func59, Try.ntmps59
  go_wp2_with fail
  rw [← Hw3.out]
  go_region_held3 (fun w' => w'.cell? ⟨w.heap.size + 1, 0, none⟩ = some (.func (.func 100) #[] #[.pointer (some ⟨w.heap.size, 0, none⟩), .pointer (some ⟨w.heap.size + 1, 0, none⟩)]) ∧ w'.cell? ⟨(L 0).B, 3, none⟩ = some (.slice (some ⟨(L 0).mb, 0, none⟩) N N) ∧ w'.cell? ⟨(L 0).B, 0, none⟩ = some (.int .i64 (0 : Nat)) ∧ w'.cell? ⟨(L 0).mb, 0, none⟩ = some (.slice (some ⟨b, off, none⟩) N cc))
    (first | exact ⟨x6, x3, x0, x5⟩ | exact hS1 | go_keep)
    (first
      | (go_at_call 100; refine (K.out _).mono ?_; rintro e w4 ⟨rfl, A4, n4, c4, us4, l4, ba4, ss4, sb4, cg4⟩
         have hk4 : ∀ x y, x < w3.heap.size → x ≠ w.heap.size → w4.cell? ⟨x, y, none⟩ = w3.cell? ⟨x, y, none⟩ := fun x y h h' => World.cell?_of_block (cg4.block x h h')
         have hS1 := And.intro ((hk4 (w.heap.size + 1) 0 (by omega) (by omega)).trans x6) (And.intro ((hk4 (L 0).B 3 (by omega) (by omega)).trans x3) (And.intro ((hk4 (L 0).B 0 (by omega) (by omega)).trans x0) ((hk4 (L 0).mb 0 (by omega) (by omega)).trans x5)))))
  have z1 : w4.cell? ⟨w.heap.size, 0, none⟩ = some (.slice A4 n4 c4) := ba4.cell 0
  have S4 := Lib.hid ss4
  have Sb := Lib.hid sb4
  have B4 : Hid (Below w.heap.size w w4) := Lib.hid (B3.out.trans (cg4.below (B := w.heap.size) (fun k e => by omega) (by omega)))
  clear ba4 ss4 sb4 cg4 x6 x3 x0 x5 hS1
  go_wp2_with fail
  go_ret
  exact ⟨_, _, _, _, _, rfl, S4.out, Sb.out, B4.out⟩

set_option maxHeartbeats 4000000 in
set_option maxRecDepth 100000 in
/-- Members; nil where there are none. -/
theorem implMembersN (a : Int) (A : Option Addr) (n c : Nat) (vs : List SV) (xss : List (List Int)) (w : World) (g : GIn w A n vs xss) :
    Calls Try.prog 19 #[.int .i64 a, .slice A n c] w fun e w' => ∃ A' m c' us l, e = .returned (.slice A' m c') ∧ SS w' w.heap.size w.heap.size A' m c' us l ∧ IsMbs a xss l ∧ (l = [] → A' = none) ∧ Below w.heap.size w w' := by
  have HX := Lib.hid g.rr
  have hlx : Hid (xss.length = n) := Lib.hid g.rr.lx
  have hn := g.hn
  have hl := Lib.hid g.hl
  clear g
  go_enter Try.func19, Try.ntmps19
  go_wp2_with fail
  refine (implGS a A n c vs xss w HX.out hn hl).mono ?_
  rintro e w1 ⟨rfl, b1⟩
  have B1 := Lib.hid b1
  have X1 := Lib.hid (HX.out.up b1)
  clear b1
  rcases hs : gB a xss with _ | _
  · have Fin : Hid (IsMbs a xss []) := Lib.hid (.inr ⟨fun h => (by have := h.1; rw [hs] at this; cases this), rfl⟩)
    clear hs
    go_wp2_with fail
    go_ret
    exact ⟨_, _, _, _, _, rfl, SS.nil_, Fin.out, fun _ => rfl, B1.out⟩
  · obtain ⟨N, rfl, hN1, hN2, hg8, hpm, hok⟩ := gB_pm hs
    have Hs := Lib.hid hs
    have Ok : Hid (∀ g ∈ xss, Pn N g) := Lib.hid hok
    have hn8 : n ≤ 8 := by rw [← hlx.out]; exact hg8
    clear hs hpm hok hg8
    go_wp2_with fail
    refine (implChainOf N n c A vs xss w1 X1.out hN1 hN2 hn8 Ok).mono ?_
    rintro e w2 ⟨ch, L, M, rfl, hc, ho, hw, b2⟩
    have W2 := Lib.hid hw
    have C2 := Lib.hid hc
    have O2 := Lib.hid ho
    have B2 : Hid (Below w.heap.size w w2) := Lib.hid (btr B1.out b2)
    obtain ⟨V, hV, eV, hVb⟩ := (hw.os hN1 hN2).ordB Ok.out hN1 hN2
    have eV' : pr (osL N ch N) 0 N = (V : Int) := by rw [prodL_pr, osL_len] at eV; exact eV
    have HV := Lib.hid hV
    have EV := Lib.hid eV'
    have K := implOrder w1.heap.size N 0 0 M ch L xss w2 hc ho W2 (Nat.le_refl _) (Nat.zero_le _) hN1 hN2 Ok
    rw [ptr_at (by omega), Nat.sub_zero, eV'] at K
    clear hc ho hw b2 hV eV eV'
    by_cases hV3 : V ≤ 3000
    · have d0 : decide ((3000 : Int) < (V : Int)) = false := by simp; omega
      have Few0 : Hid (Few (N : Int) xss) := Lib.hid ⟨Hs.out, V, by rw [Int.toNat_natCast]; exact HV.out, hV3⟩
      go_wp2_with fail
      refine K.mono ?_
      rintro e w' ⟨rfl, rfl⟩
      clear K
      go_wp2_with fail
      refine (implMembersC w1.heap.size N V xss M ch L w2 C2.out O2.out W2 hN1 hN2 Ok EV hV3).mono ?_
      rintro e w4 ⟨A4, n4, c4, us4, l4, rfl, s4, sb4, b4⟩
      have S4 : Hid (SS w4 w.heap.size w.heap.size A4 n4 c4 us4 l4) := Lib.hid (s4.mono B2.out.size B2.out.size)
      have Fin : Hid (IsMbs (N : Int) xss l4) := Lib.hid (.inl ⟨Few0.out, by rw [Int.toNat_natCast]; exact sb4.srt, fun p => by rw [Int.toNat_natCast, sb4.mem]; exact ⟨fun h => h.1, fun h => ⟨h, fun t ht => absurd ht (Nat.not_lt_zero _)⟩⟩⟩)
      have Ne : Hid (l4 ≠ []) := Lib.hid fun e => by
        have := (sb4.mem (idL N)).2 ⟨.one, fun t ht => absurd ht (Nat.not_lt_zero _)⟩
        rw [e] at this; cases this
      have B4 : Hid (Below w.heap.size w w4) := Lib.hid (btr B2.out b4)
      clear s4 sb4 b4
      go_wp2_with fail
      go_ret
      exact ⟨_, _, _, _, _, rfl, S4.out, Fin.out, fun e => absurd e Ne.out, B4.out⟩
    · have d0 : decide ((3000 : Int) < (V : Int)) = true := by simp; omega
      have Fin : Hid (IsMbs (N : Int) xss []) := Lib.hid (.inr ⟨fun ⟨_, V', h, h'⟩ => (by rw [Int.toNat_natCast] at h; have := h.uniq HV.out; omega), rfl⟩)
      go_wp2_with fail
      refine K.mono ?_
      rintro e w' ⟨rfl, rfl⟩
      clear K
      go_wp2_with fail
      go_ret
      exact ⟨_, _, _, _, _, rfl, SS.nil_, Fin.out, fun _ => rfl, B2.out⟩
/-- Members. -/
theorem implMembers : CtImM 19 IsMbs := fun a A n c vs xss w g _ =>
  (implMembersN a A n c vs xss w g).mono fun _ _ ⟨A', m, c', us, l, h0, h1, h2, _, h4⟩ => ⟨A', m, c', us, l, h0, h1, h2, h4⟩
end Go.Proofs.Ytonanelghnjhpaa

/- The walk of the law FnExactRandomMember: it returns true at every input, and writes nothing that was there. No condition but the program's own contract. -/
namespace Go.Proofs.Ytonanelghnjhpaa
open Go.RowKit

set_option maxHeartbeats 4000000 in
set_option maxRecDepth 100000 in
/-- The law FnExactRandomMember. -/
theorem lawRandomMember (IM : CtImiP 34 IsRnd) (i0 : Int) (g1A : Option Addr) (g1n g1c : Nat) (g1v : List SV) (g1x : List (List Int)) (i2 : Int) (w : World) (wfi0 : I64 i0) (hg1 : RR w w.heap.size g1A g1n g1v g1x) (hmg1 : g1n ≤ maxLen) (hkg1 : Hid (∀ i, i < g1n → (g1v.getD i sd0).2.1 ≤ maxLen)) (wfi2 : I64 i2) :
    Calls Try.prog 11 #[.int .i64 i0, .slice g1A g1n g1c, .int .i64 i2] w fun e w' => e = .returned (.bool true) ∧ Below w.heap.size w w' := by
  have Hg1 := Lib.hid hg1
  have hlxg1 := Lib.hid hg1.lx
  have hllg1 := Lib.hid hg1.lens
  clear hg1
  by_cases hT0 : ((g1n + tot g1v g1n : Nat) : Int) ≤ (1048576 : Int)
  · skip
    have HT0 := Lib.hid hT0
    obtain ⟨LE, eLE⟩ : ∃ L : Int, (1048576 : Int) - ((g1n + tot g1v g1n : Nat) : Int) = L := ⟨_, rfl⟩
    have hLE : ¬ LE < 0 := by omega
    have dLE : decide (LE < 0) = false := by simp; omega
    have ELE := Lib.hid eLE
    clear eLE
    have hng1 : g1n ≤ 1048576 := by omega
    have KTg1 : Hid (tot g1v g1n ≤ 1048576) := Lib.hid (by omega)
    have hlg1 : Hid (∀ i, i < g1n → (g1v.getD i sd0).2.1 ≤ 1048576) := Lib.hid fun i hi => by have := tot_row (vs := g1v) hi; have := KTg1.out; omega
    have hylg1 : Hid (∀ i, i < g1n → (g1x.getD i []).length ≤ 1048576) := Lib.hid fun i hi => by rw [hllg1.out i hi]; exact hlg1.out i hi
    clear hT0 
    go_enter Try.func11, Try.ntmps11
    go_wp2_with fail
    have K0 := szSS2 g1A g1n g1c 1048576 g1v g1x w Hg1.out hmg1 hkg1 (by decide) (by decide)
    refine K0.mono ?_
    rintro e w0 ⟨rfl, rfl⟩
    clear K0
    rw [if_pos HT0.out]
    rw [ELE.out]
    go_wp2_with fail
    refine (toSS g1A g1n g1c g1v g1x w Hg1.out hng1 hlg1).mono ?_
    rintro e w1 ⟨A1, c1, us1, rfl, s1, q1, b1⟩
    have Z1 : Hid (w.heap.size ≤ w1.heap.size) := Lib.hid b1.size
    have B1 : Hid (Below w.heap.size w w1) := Lib.hid b1
    have Ftg1_1 := Lib.hid s1
    have Ltg1 : Hid (Lies A1 g1n c1 w.heap.size w1.heap.size) := Lib.hid s1.lt_
    have Itg1 : Hid (∀ t, t < g1n → ∀ k, (sval (us1.getD t sd0)).ownBlock = some k → w.heap.size ≤ k ∧ k < w1.heap.size) := Lib.hid fun t ht => (s1.row t ht).lt_
    have Qtg1 := Lib.hid q1
    have hltg1 : Hid (∀ i, i < g1n → (us1.getD i sd0).2.1 ≤ 1048576) := Lib.hid fun i hi => by rw [q1 i hi]; exact hlg1.out i hi
    clear s1 b1 q1
    go_wp2_with fail
    have K2 := ctRnd i0 A1 g1n c1 us1 g1x i2 w1 ⟨Ftg1_1.out.rr, hng1, hltg1.out⟩ wfi0 wfi2
    refine K2.mono ?_
    clear K2
    rintro e w2 ⟨A2, n2, c2, z2, ok2, rfl, s2, r2, b2⟩
    have m2 : n2 ≤ 1048576 := by have := IsRnd.len r2; have := s2.1; omega
    have Z2 : Hid (w1.heap.size ≤ w2.heap.size) := Lib.hid b2.size
    have B2 : Hid (Below w.heap.size w w2) := Lib.hid (btr B1.out b2)
    have Ftg1_2 := Lib.hid (Ftg1_1.out.up b2)
    clear Ftg1_1
    have HR := Lib.hid r2
    clear r2
    have FW_2 := Lib.hid s2
    have LW : Hid (Lies A2 n2 c2 w1.heap.size w2.heap.size) := Lib.hid s2.lies
    clear s2 b2
    clear Ftg1_2
    go_wp2_with fail
    refine (toSS g1A g1n g1c g1v g1x w2 (Hg1.out.up B2.out) hng1 hlg1).mono ?_
    rintro e w3 ⟨A3, c3, us3, rfl, s3, q3, b3⟩
    have Z3 : Hid (w2.heap.size ≤ w3.heap.size) := Lib.hid b3.size
    have B3 : Hid (Below w.heap.size w w3) := Lib.hid (btr B2.out b3)
    have FW_3 := Lib.hid (FW_2.out.up b3)
    clear FW_2
    have Fxg1_3 := Lib.hid s3
    have Lxg1 : Hid (Lies A3 g1n c3 w2.heap.size w3.heap.size) := Lib.hid s3.lt_
    have Ixg1 : Hid (∀ t, t < g1n → ∀ k, (sval (us3.getD t sd0)).ownBlock = some k → w2.heap.size ≤ k ∧ k < w3.heap.size) := Lib.hid fun t ht => (s3.row t ht).lt_
    have Qxg1 := Lib.hid q3
    have hlxg1 : Hid (∀ i, i < g1n → (us3.getD i sd0).2.1 ≤ 1048576) := Lib.hid fun i hi => by rw [q3 i hi]; exact hlg1.out i hi
    clear s3 b3 q3
    go_wp2_with fail
    have K4 := IM i0 A3 g1n c3 us3 g1x i2 w3 ⟨Fxg1_3.out.rr, hng1, hlxg1.out⟩ wfi0 wfi2
    refine K4.mono ?_
    clear K4
    rintro e w4 ⟨A4, n4, c4, z4, ok4, rfl, s4, r4, b4⟩
    have m4 : n4 ≤ 1048576 := by have := IsRnd.len r4; have := s4.1; omega
    have Z4 : Hid (w3.heap.size ≤ w4.heap.size) := Lib.hid b4.size
    have B4 : Hid (Below w.heap.size w w4) := Lib.hid (btr B3.out b4)
    have FW_4 := Lib.hid (FW_3.out.up b4)
    clear FW_3
    have Fxg1_4 := Lib.hid (Fxg1_3.out.up b4)
    clear Fxg1_3
    obtain ⟨e4, f4⟩ := HR.out.uniq r4
    subst e4 f4
    clear r4
    have FG_4 := Lib.hid s4
    have LG : Hid (Lies A4 n4 c4 w3.heap.size w4.heap.size) := Lib.hid s4.lies
    clear s4 b4
    go_wp2_with fail
    refine (eqS_same _ _ A4 A2 n4 c4 n2 c2 w4 FG_4.out FW_4.out (by omega)).mono ?_
    rintro e w5 ⟨rfl, b5⟩
    have Z5 : Hid (w4.heap.size ≤ w5.heap.size) := Lib.hid b5.size
    have B5 : Hid (Below w.heap.size w w5) := Lib.hid (btr B4.out b5)
    have FW_5 := Lib.hid (FW_4.out.up b5)
    clear FW_4
    have Fxg1_5 := Lib.hid (Fxg1_4.out.up b5)
    clear Fxg1_4
    have FG_5 := Lib.hid (FG_4.out.up b5)
    clear FG_4
    clear b5
    go_wp2_with fail
    refine (toSS g1A g1n g1c g1v g1x w5 (Hg1.out.up B5.out) hng1 hlg1).mono ?_
    rintro e w6 ⟨A6, c6, us6, rfl, s6, q6, b6⟩
    have Z6 : Hid (w5.heap.size ≤ w6.heap.size) := Lib.hid b6.size
    have B6 : Hid (Below w.heap.size w w6) := Lib.hid (btr B5.out b6)
    have FW_6 := Lib.hid (FW_5.out.up b6)
    clear FW_5
    have Fxg1_6 := Lib.hid (Fxg1_5.out.up b6)
    clear Fxg1_5
    have FG_6 := Lib.hid (FG_5.out.up b6)
    clear FG_5
    have Fyg1_6 := Lib.hid s6
    have Lyg1 : Hid (Lies A6 g1n c6 w5.heap.size w6.heap.size) := Lib.hid s6.lt_
    have Iyg1 : Hid (∀ t, t < g1n → ∀ k, (sval (us6.getD t sd0)).ownBlock = some k → w5.heap.size ≤ k ∧ k < w6.heap.size) := Lib.hid fun t ht => (s6.row t ht).lt_
    have Qyg1 := Lib.hid q6
    have hlyg1 : Hid (∀ i, i < g1n → (us6.getD i sd0).2.1 ≤ 1048576) := Lib.hid fun i hi => by rw [q6 i hi]; exact hlg1.out i hi
    clear s6 b6 q6
    go_wp2_with fail
    refine (eqRR_same A3 A6 g1n c3 g1n c6 us3 us6 _ w6 Fxg1_6.out.rr Fyg1_6.out.rr (by omega) hylg1).mono ?_
    rintro e w7 ⟨rfl, b7⟩
    have Z7 : Hid (w6.heap.size ≤ w7.heap.size) := Lib.hid b7.size
    have B7 : Hid (Below w.heap.size w w7) := Lib.hid (btr B6.out b7)
    have FW_7 := Lib.hid (FW_6.out.up b7)
    clear FW_6
    have Fxg1_7 := Lib.hid (Fxg1_6.out.up b7)
    clear Fxg1_6
    have FG_7 := Lib.hid (FG_6.out.up b7)
    clear FG_6
    have Fyg1_7 := Lib.hid (Fyg1_6.out.up b7)
    clear Fyg1_6
    clear b7
    clear Fyg1_7
    have KTx : Hid (tot us3 g1n ≤ 1048576) := Lib.hid (by rw [tot_eq g1n Qxg1.out]; exact KTg1.out)
    go_wp2_with fail
    refine (markSS A3 g1n c3 _ _ us3 _ w7 Fxg1_7.out (by omega) KTx).mono ?_
    rintro e w8 ⟨rfl, s8, o8⟩
    have Z8 : Hid (w7.heap.size ≤ w8.heap.size) := Lib.hid o8.size
    have B8 : Hid (Below w.heap.size w w8) := Lib.hid (B7.out.trans (o8.below B7.out.size (fun t ht k e => by have h2 := Ixg1.out t ht k e; have := Z1.out; have := Z2.out; have := Z3.out; have := Z4.out; have := Z5.out; have := Z6.out; have := Z7.out; have := Z8.out; omega)))
    have FW_8 := Lib.hid (FW_7.out.only o8 (fun k hk t ht e => by have h1 := LW.out k hk; have h2 := Ixg1.out t ht k e; have := Z1.out; have := Z2.out; have := Z3.out; have := Z4.out; have := Z5.out; have := Z6.out; have := Z7.out; have := Z8.out; omega))
    clear FW_7
    have Fxg1_8 := Lib.hid s8
    clear Fxg1_7
    have FG_8 := Lib.hid (FG_7.out.only o8 (fun k hk t ht e => by have h1 := LG.out k hk; have h2 := Ixg1.out t ht k e; have := Z1.out; have := Z2.out; have := Z3.out; have := Z4.out; have := Z5.out; have := Z6.out; have := Z7.out; have := Z8.out; omega))
    clear FG_7
    clear s8 o8
    obtain ⟨T, eT⟩ : ∃ T, tot us3 g1n = T := ⟨_, rfl⟩
    have hT9 : T ≤ 1048576 := by rw [← eT]; exact KTx.out
    rw [eT]
    clear eT
    go_wp2_with fail
    refine (eqS_same _ _ A4 A2 n4 c4 n2 c2 w8 FG_8.out FW_8.out (by omega)).mono ?_
    rintro e w9 ⟨rfl, b9⟩
    have Z9 : Hid (w8.heap.size ≤ w9.heap.size) := Lib.hid b9.size
    have B9 : Hid (Below w.heap.size w w9) := Lib.hid (btr B8.out b9)
    have FW_9 := Lib.hid (FW_8.out.up b9)
    clear FW_8
    have Fxg1_9 := Lib.hid (Fxg1_8.out.up b9)
    clear Fxg1_8
    have FG_9 := Lib.hid (FG_8.out.up b9)
    clear FG_8
    clear b9
    clear Fxg1_9
    go_wp2_with fail
    refine (mark1 _ A4 n4 c4 _ w9 FG_9.out (by omega)).mono ?_
    rintro e w10 ⟨rfl, s10, g10⟩
    have Z10 : Hid (w9.heap.size ≤ w10.heap.size) := Lib.hid g10.size
    have B10 : Hid (Below w.heap.size w w10) := Lib.hid (B9.out.trans (below_mark g10 LG.out (by have := Z1.out; have := Z2.out; have := Z3.out; have := Z4.out; have := Z5.out; have := Z6.out; have := Z7.out; have := Z8.out; have := Z9.out; have := Z10.out; omega) B9.out.size))
    have FW_10 := Lib.hid (FW_9.out.far g10 LW.out LG.out (.inl (by have := Z1.out; have := Z2.out; have := Z3.out; have := Z4.out; have := Z5.out; have := Z6.out; have := Z7.out; have := Z8.out; have := Z9.out; have := Z10.out; omega)))
    clear FW_9
    have FG_10 := Lib.hid s10
    clear FG_9
    clear s10 g10
    go_wp2_with fail
    refine (held1 _ A4 n4 c4 w10 FG_10.out (by omega)).mono ?_
    rintro e w' ⟨rfl, rfl⟩
    go_wp2_with fail
    refine (toSS g1A g1n g1c g1v g1x w10 (Hg1.out.up B10.out) hng1 hlg1).mono ?_
    rintro e w11 ⟨A11, c11, us11, rfl, s11, q11, b11⟩
    have Z11 : Hid (w10.heap.size ≤ w11.heap.size) := Lib.hid b11.size
    have B11 : Hid (Below w.heap.size w w11) := Lib.hid (btr B10.out b11)
    have FW_11 := Lib.hid (FW_10.out.up b11)
    clear FW_10
    have FG_11 := Lib.hid (FG_10.out.up b11)
    clear FG_10
    have Fzg1_11 := Lib.hid s11
    have Lzg1 : Hid (Lies A11 g1n c11 w10.heap.size w11.heap.size) := Lib.hid s11.lt_
    have Izg1 : Hid (∀ t, t < g1n → ∀ k, (sval (us11.getD t sd0)).ownBlock = some k → w10.heap.size ≤ k ∧ k < w11.heap.size) := Lib.hid fun t ht => (s11.row t ht).lt_
    have Qzg1 := Lib.hid q11
    have hlzg1 : Hid (∀ i, i < g1n → (us11.getD i sd0).2.1 ≤ 1048576) := Lib.hid fun i hi => by rw [q11 i hi]; exact hlg1.out i hi
    clear s11 b11 q11
    go_wp2_with fail
    have K12 := IM i0 A11 g1n c11 us11 g1x i2 w11 ⟨Fzg1_11.out.rr, hng1, hlzg1.out⟩ wfi0 wfi2
    refine K12.mono ?_
    clear K12
    rintro e w12 ⟨A12, n12, c12, z12, ok12, rfl, s12, r12, b12⟩
    have m12 : n12 ≤ 1048576 := by have := IsRnd.len r12; have := s12.1; omega
    have Z12 : Hid (w11.heap.size ≤ w12.heap.size) := Lib.hid b12.size
    have B12 : Hid (Below w.heap.size w w12) := Lib.hid (btr B11.out b12)
    have FW_12 := Lib.hid (FW_11.out.up b12)
    clear FW_11
    have FG_12 := Lib.hid (FG_11.out.up b12)
    clear FG_11
    have Fzg1_12 := Lib.hid (Fzg1_11.out.up b12)
    clear Fzg1_11
    obtain ⟨e12, f12⟩ := HR.out.uniq r12
    subst e12 f12
    clear r12
    have FH_12 := Lib.hid s12
    have LH : Hid (Lies A12 n12 c12 w11.heap.size w12.heap.size) := Lib.hid s12.lies
    clear s12 b12
    clear Fzg1_12
    go_wp2_with fail
    refine (eqS_same _ _ A12 A2 n12 c12 n2 c2 w12 FH_12.out FW_12.out (by omega)).mono ?_
    rintro e w13 ⟨rfl, b13⟩
    have Z13 : Hid (w12.heap.size ≤ w13.heap.size) := Lib.hid b13.size
    have B13 : Hid (Below w.heap.size w w13) := Lib.hid (btr B12.out b13)
    have FW_13 := Lib.hid (FW_12.out.up b13)
    clear FW_12
    have FG_13 := Lib.hid (FG_12.out.up b13)
    clear FG_12
    have FH_13 := Lib.hid (FH_12.out.up b13)
    clear FH_12
    clear b13
    go_wp2_with fail
    refine (held1 _ A4 n4 c4 w13 FG_13.out (by omega)).mono ?_
    rintro e w' ⟨rfl, rfl⟩
    go_wp2_with fail
    go_ret
    exact ⟨rfl, B13.out⟩
  · skip
    have HT0 := Lib.hid hT0
    clear hT0
    go_enter Try.func11, Try.ntmps11
    go_wp2_with fail
    have K0 := szSS2 g1A g1n g1c 1048576 g1v g1x w Hg1.out hmg1 hkg1 (by decide) (by decide)
    refine K0.mono ?_
    rintro e w0 ⟨rfl, rfl⟩
    clear K0
    rw [if_neg (Int.not_le.2 HT0.out)]
    go_wp2
    go_ret
    exact ⟨rfl, Below.refl _ _⟩
end Go.Proofs.Ytonanelghnjhpaa

/- Go's remainder as a number below m; the program's modulo. Condition: m from 1 to 2^62. -/
namespace Go.Proofs.Ytonanelghnjhpaa
open Go.RowKit

/-- Go's remainder, and how it becomes the number below m. -/
theorem rem_facts (k : Int) (m : Nat) (hm : 1 ≤ m) : ∃ s : Nat, s < m ∧ s = (k % (m : Int)).toNat ∧ -(m : Int) < k.tmod m ∧ k.tmod m < m ∧ ((k.tmod m < 0 ∧ k.tmod m + m = s) ∨ (0 ≤ k.tmod m ∧ k.tmod m = s)) ∧ (k.tmod m + m) % (m : Int) = s := by
  have h0 := Int.emod_nonneg k (show (m : Int) ≠ 0 by omega)
  have h1 := Int.emod_lt_of_pos k (show (0 : Int) < m by omega)
  refine ⟨(k % (m : Int)).toNat, by omega, rfl, ?_⟩
  have hs : (((k % (m : Int)).toNat : Nat) : Int) = k % m := by omega
  rw [hs, Int.tmod_eq_emod]
  generalize hE : k % (m : Int) = E at *
  have ha : ((m : Int).natAbs : Int) = m := by omega
  split
  · refine ⟨by omega, by omega, .inr ⟨by omega, by omega⟩, ?_⟩
    rw [show E - ((0 : Nat) : Int) + (m : Int) = E + m from by omega, Int.add_emod_right, Int.emod_eq_of_lt h0 h1]
  · rename_i hn
    have hE0 : E ≠ 0 := fun e => hn (.inr (Int.dvd_of_emod_eq_zero (by rw [hE, e])))
    rw [ha]
    refine ⟨by omega, by omega, .inl ⟨by omega, by omega⟩, ?_⟩
    rw [Int.sub_add_cancel, Int.emod_eq_of_lt h0 h1]

set_option maxHeartbeats 400000 in
/-- modulo. -/
theorem implModulo (k : Int) (m : Nat) (hm : 1 ≤ m) (hmb : m ≤ 4611686018427387904) (w : World) :
    Calls Try.prog 113 #[.int .i64 k, .int .i64 (m : Nat)] w fun e w' => e = .returned (.int .i64 (((k % (m : Int)).toNat : Nat) : Int)) ∧ w = w' := by
  obtain ⟨s, hs1, hs2, r1, r2, r3, _⟩ := rem_facts k m hm
  rw [← hs2]
  obtain ⟨r, er⟩ : ∃ r, k.tmod (m : Int) = r := ⟨_, rfl⟩
  rw [er] at r1 r2 r3
  have wr : IntKind.i64.wrap r = r := by rw [IntKind.wrap_i64]; omega
  have hm0 : ¬ ((m : Int) = 0) := by omega
  clear hs2
  go_enter Try.func113, Try.ntmps113
  rcases r3 with ⟨h1, h2⟩ | ⟨h1, h2⟩
  · have d : decide (r < 0) = true := by simpa using h1
    have w2 : IntKind.i64.wrap (r + (m : Int)) = (s : Int) := by rw [IntKind.wrap_i64]; omega
    go_wp2
    go_ret
    exact ⟨rfl, rfl⟩
  · have d : decide (r < 0) = false := by simp; omega
    go_wp2
    go_ret
    exact ⟨by first | rfl | exact ret_int h2, rfl⟩
end Go.Proofs.Ytonanelghnjhpaa

/- The program's RandomMember: its draws, its choices. Conditions: at most 1048576 lists of at most 1048576 numbers. -/
namespace Go.Proofs.Ytonanelghnjhpaa
open Go.RowKit

theorem stt0 (s : Int) : stt s 0 = (((s % 999999937).toNat : Nat) : Int) := by
  obtain ⟨t, h1, h2, h3, h4, _, h5⟩ := rem_facts s 999999937 (by omega)
  show ((s.tmod 999999937) + 999999937).tmod 999999937 = _
  have h5 : (s.tmod 999999937 + 999999937) % 999999937 = (t : Int) := h5
  have h3 : -999999937 < s.tmod 999999937 := h3
  rw [Int.tmod_eq_emod_of_nonneg (by omega), h5, h2]; rfl
/-- A chain is kept where blocks turn that are set apart from it. -/
theorem Ck.side {w w' : World} {base N k : Nat} {M S : Nat → Prop} {c : Ch} {L : Nat → LK} (h : Ck w base N k M c L) (hc : Chg w w' S) (hS : ∀ b, S b → M b) (hn : ∀ b, Mu N k L b → ¬ S b) : Ck w' base N k M c L :=
  ⟨fun i a b => (h.lk i a b).keep hc (fun t b' t4 e hs => hn b' ⟨i, t, a, b, t4, e⟩ hs) hS fun _ e => .inl e, h.mm, fun b e => by have := h.mlt b e; have := hc.size; omega, h.dis⟩
theorem chg_cell1 (w : World) (b : Nat) (u : Value) : Chg w (w.setCell ⟨b, 0, none⟩ u) (fun x => x = b) := ⟨rfl, rfl, rfl, by simp, fun x hx hn => heap_setCell_other w ⟨b, 0, none⟩ _ _ fun e => hn e⟩
theorem Chg.up {w w' w2 : World} {S : Nat → Prop} (h : Chg w w' S) (hb : Below w'.heap.size w' w2) : Chg w w2 S := h.trans (.of_below (M := S) hb) fun _ e => .inl e

set_option maxHeartbeats 400000 in
/-- The next draw. -/
theorem implDraw (bs : Nat) (s : Int) (i : Nat) (w : World) (hb : Blk w bs 2 #[.int .i64 (stt s i)]) :
    Calls Try.prog 114 #[.pointer (some ⟨bs, 0, none⟩)] w fun e w' => e = .returned (.int .i64 (stt s (i + 1))) ∧ Blk w' bs 2 #[.int .i64 (stt s (i + 1))] ∧ Chg w w' (fun x => x = bs) := by
  have e1 : stt s (i + 1) = (48271 * stt s i + 11).tmod 999999937 := by rw [Int.mul_comm]; rfl
  rw [e1]
  have hbd := stt_b s i
  obtain ⟨x, hx⟩ : ∃ x, stt s i = x := ⟨_, rfl⟩
  rw [hx] at hbd hb ⊢
  obtain ⟨y, hy⟩ : ∃ y, (48271 * x + 11).tmod 999999937 = y := ⟨_, rfl⟩
  have hb2 := tmod_b (48271 * x + 11)
  rw [hy] at hb2 ⊢
  have w1 : IntKind.i64.wrap (48271 * x) = 48271 * x := by rw [IntKind.wrap_i64]; omega
  have w2 : IntKind.i64.wrap (48271 * x + 11) = 48271 * x + 11 := by rw [IntKind.wrap_i64]; omega
  have w3 : IntKind.i64.wrap y = y := by rw [IntKind.wrap_i64]; omega
  have c0 : w.cell? ⟨bs, 0, none⟩ = some (.int .i64 x) := hb.cell 0
  have f0 := hb.frozen 0
  have Fin : Hid (Blk (w.setCell ⟨bs, 0, none⟩ (.int .i64 y)) bs 2 #[.int .i64 y] ∧ Chg w (w.setCell ⟨bs, 0, none⟩ (.int .i64 y)) (fun x => x = bs)) := Lib.hid ⟨by simpa using hb.set_ 0 (.int .i64 y), chg_cell1 _ _ _⟩
  have c1 : (w.setCell ⟨bs, 0, none⟩ (.int .i64 y)).cell? ⟨bs, 0, none⟩ = some (.int .i64 y) := Fin.out.1.cell 0
  clear hb
  go_enter Try.func114, Try.ntmps114
  go_wp2
  go_ret
  exact ⟨rfl, Fin.out⟩

set_option maxHeartbeats 400000 in
/-- drawsFrom. -/
theorem implDrawsFrom (s : Int) (w : World) :
    Calls Try.prog 79 #[.int .i64 s] w fun e w' => ∃ bs, e = .returned (.func (.func 114) #[] #[.pointer (some ⟨bs, 0, none⟩)]) ∧ w.heap.size ≤ bs ∧ Blk w' bs 2 #[.int .i64 (stt s 0)] ∧ Below w.heap.size w w' := by
  have hmf : ∀ (fn : Fn) (first cap : Array Value) (w : World), (Instr.makeFunc fn first cap).run Try.prog w = .ok (.func fn first cap) w := fun _ _ _ _ => rfl
  rw [stt0]
  have K := implModulo s 999999937 (by omega) (by omega) w
  obtain ⟨r, hr⟩ : ∃ r, (s % ((999999937 : Nat) : Int)).toNat = r := ⟨_, rfl⟩
  rw [hr] at K
  rw [show (s % 999999937).toNat = r from hr]
  have Kh := Lib.hid K
  clear hr K
  go_enter Try.func79, Try.ntmps79
  go_wp2_with fail
  refine Kh.out.mono ?_
  rintro e w1 ⟨rfl, rfl⟩
  go_wp2_with fail
  go_ret
  exact ⟨w.heap.size, rfl, Nat.le_refl _, Blk.new w _ _, (Below.refl _ _).alloc (Nat.le_refl _) _⟩

/-- What holds ahead of the draw for entry i. -/
def RdInv (base N bs bd : Nat) (gs : List (List Int)) (s : Int) (M : Nat → Prop) (ch : Ch) (L : Nat → LK) (i : Nat) (m : List Int) (w : World) : Prop :=
  Ck w base N 0 M ch L ∧ Blk w bs 2 #[.int .i64 (stt s i)] ∧ Blk w bd 55 #[.func (.func 114) #[] #[.pointer (some ⟨bs, 0, none⟩)]] ∧ Sel N gs s m i
set_option maxHeartbeats 2000000 in
set_option maxRecDepth 100000 in
theorem randPick (base N bs bd : Nat) (gs : List (List Int)) (s : Int) (M : Nat → Prop) (ch : Ch) (L : Nat → LK) (h1 : 1 ≤ N) (h2 : N ≤ 20) (hg : Hid (∀ g ∈ gs, Pn N g)) (hM : Hid (M bs)) (hL : Hid (∀ b, Mu N 0 L b → b ≠ bs)) (hne : bd ≠ bs) :
    PickOK base N gs 81 (.pointer (some ⟨bd, 0, none⟩)) M ch L (fun b => b = bs) (RdInv base N bs bd gs s M ch L) := by
  refine ⟨enters_of Try.func81 (by kernel_rfl) rfl, fun i m w h => h.1, fun i m w w' h hb => ⟨h.1.up hb, h.2.1.below hb h.2.1.lt, h.2.2.1.below hb h.2.2.1.lt, h.2.2.2⟩, ?_⟩
  intro i m zs A n c w hi hinv hmb hz hrd hn1 hn20
  have In := Lib.hid hinv
  have cb : w.cell? ⟨bd, 0, none⟩ = some (.func (.func 114) #[] #[.pointer (some ⟨bs, 0, none⟩)]) := hinv.2.2.1.cell 0
  have Hz := Lib.hid hz
  have Lz : Hid (zs.length = n) := Lib.hid hrd.len
  have HR := Lib.hid hrd
  have Mb0 := Lib.hid hmb
  clear hinv hz hrd hmb
  go_enter Try.func81, Try.ntmps81
  go_wp2_with fail
  refine (implDraw bs s i w In.out.2.1).mono ?_
  rintro e w1 ⟨rfl, bk1, hc1⟩
  obtain ⟨st, hst⟩ : ∃ st : Nat, stt s (i + 1) = (st : Int) := ⟨(stt s (i + 1)).toNat, by have := (stt_b s (i + 1)).1; omega⟩
  have hstb : st < 999999937 := by have := (stt_b s (i + 1)).2; omega
  have Hst := Lib.hid hst
  obtain ⟨j, hj⟩ : ∃ j, st % n = j := ⟨_, rfl⟩
  have hjm : j < n := by rw [← hj]; exact Nat.mod_lt _ (by omega)
  have hjs : j ≤ st := by rw [← hj]; exact Nat.mod_le _ _
  have e2 : (st : Int).tmod (n : Int) = (j : Int) := by rw [← hj]; exact (Int.ofNat_tmod st n).symm
  have w2' : IntKind.i64.wrap (j : Int) = (j : Int) := by rw [IntKind.wrap_i64]; omega
  have hc0 : ¬ ((n : Int) = 0) := by omega
  have hzm : zs.getD j 0 ∈ zs := by rw [gdx' (by rw [Lz.out]; exact hjm)]; exact List.getElem_mem _
  obtain ⟨v, hv, _⟩ := Hz.out.bnd hg.out h1 h2 hi hzm
  have Rd1 : Hid (RI w1 w1.heap.size A zs) := Lib.hid (HR.out.keep (M' := fun b => b = bs) hc1 (fun _ e => e) fun _ e => .inl e).ri
  obtain ⟨zb, zo, rfl, hzb, hzc⟩ := Rd1.out (by rw [Lz.out]; omega)
  have x9 := hzc j (by rw [Lz.out]; exact hjm)
  rw [hv] at x9
  have Fin : Hid ((v : Int) ∈ zs ∧ Chg w w1 (fun b => b = bs) ∧ ∀ m', Mb gs N m' → Ag i m' m → nx m' i = v → RdInv base N bs bd gs s M ch L (i + 1) m' w1) := Lib.hid (by
    refine ⟨by rw [← hv]; exact hzm, hc1, fun m' hm' ha hv' => ⟨In.out.1.side hc1 (fun b e => e ▸ hM.out) (fun b hb => hL.out b hb), bk1, In.out.2.2.1.chg hc1 hne, fun t ht ys hys => ?_⟩⟩
    by_cases e : t = i
    · subst e
      obtain rfl : ys = zs := (hys.ag ha).uniq Hz.out
      rw [hv', ← hv, Hst.out, Lz.out, e2, Int.toNat_natCast]
    · rw [ha t (by omega)]
      exact In.out.2.2.2 t (by omega) ys (hys.ag (ha.mono (by omega))))
  have z0 : (0 : Int) ≤ j := by omega
  have z1 : (j : Int) < n := by omega
  rw [hst]
  clear hst hj hjs hzb hzc hzm hv bk1 hc1 cb
  go_wp2_with fail
  go_ret
  exact ⟨v, rfl, Fin.out⟩

set_option maxHeartbeats 4000000 in
set_option maxRecDepth 100000 in
/-- RandomMember. -/
theorem implRandomMember : CtImiP 34 IsRnd := by
  intro a A n c vs xss sd w g _ _
  have hmf : ∀ (fn : Fn) (first cap : Array Value) (w : World), (Instr.makeFunc fn first cap).run Try.prog w = .ok (.func fn first cap) w := fun _ _ _ _ => rfl
  have HX := Lib.hid g.rr
  have hlx : Hid (xss.length = n) := Lib.hid g.rr.lx
  have hn := g.hn
  have hl := Lib.hid g.hl
  clear g
  go_enter Try.func34, Try.ntmps34
  go_wp2_with fail
  refine (implGS a A n c vs xss w HX.out hn hl).mono ?_
  rintro e w1 ⟨rfl, b1⟩
  have B1 := Lib.hid b1
  have X1 := Lib.hid (HX.out.up b1)
  clear b1
  rcases hs : gB a xss with _ | _
  · have Fin : Hid (IsRnd a xss sd [] false) := Lib.hid (.inr ⟨hs, rfl, rfl⟩)
    clear hs
    go_wp2_with fail
    go_ret2
    exact ⟨_, _, _, _, _, rfl, Slc.nil_, Fin.out, B1.out⟩
  · obtain ⟨N, rfl, hN1, hN2, hg8, hpm, hok⟩ := gB_pm hs
    have Hs := Lib.hid hs
    have Ok := Lib.hid hok
    have hn8 : n ≤ 8 := by rw [← hlx.out]; exact hg8
    clear hs hpm hok hg8
    go_wp2_with fail
    refine (implDrawsFrom sd w1).mono ?_
    rintro e w2 ⟨bs, rfl, hbs, bk2, b2⟩
    have hbs2 := bk2.lt
    have hz12 := b2.size
    obtain ⟨w3, hw3⟩ : ∃ w3, w3 = w2.alloc (.cells #[.func (.func 114) #[] #[.pointer (some ⟨bs, 0, none⟩)]] 55) := ⟨_, rfl⟩
    have B3 : Hid (Below w1.heap.size w1 w3) := Lib.hid (by rw [hw3]; exact b2.alloc b2.size _)
    have Bd3 : Hid (Blk w3 w2.heap.size 55 #[.func (.func 114) #[] #[.pointer (some ⟨bs, 0, none⟩)]]) := Lib.hid (by rw [hw3]; exact Blk.new w2 _ _)
    have Bs3 : Hid (Blk w3 bs 2 #[.int .i64 (stt sd 0)]) := Lib.hid (by rw [hw3]; exact bk2.alloc _)
    have hz3 : w3.heap.size = w2.heap.size + 1 := by rw [hw3]; simp
    have Hw3 := Lib.hid hw3
    clear bk2 b2 hw3
    go_wp2_with fail
    rw [← Hw3.out]
    refine (implChainOfX w1.heap.size N n c (fun b => b = bs ∨ b = w2.heap.size) A vs xss w3 (X1.out.below B3.out (Nat.le_refl _)) B3.out.size (Lib.hid fun b hb => by rcases hb with rfl | rfl <;> omega) hN1 hN2 hn8 Ok).mono ?_
    rintro e w4 ⟨ch, L, M, rfl, hc, ho, hw, hxm, hmu, b4⟩
    have W4 := Lib.hid hw
    have O4 := Lib.hid ho
    have HM : Hid (M bs) := Lib.hid (hxm bs (.inl rfl))
    have HL : Hid (∀ b, Mu N 0 L b → b ≠ bs) := Lib.hid fun b hb => by have := hmu b hb; omega
    have I4 : Hid (RdInv w1.heap.size N bs w2.heap.size xss sd M ch L 0 (idL N) w4) := Lib.hid ⟨hc, Bs3.out.below b4 Bs3.out.lt, Bd3.out.below b4 Bd3.out.lt, fun t ht => absurd ht (Nat.not_lt_zero _)⟩
    have B4 : Hid (Below w1.heap.size w1 w4) := Lib.hid (btr B3.out b4)
    have hz4 := b4.size
    have Pk := Lib.hid (randPick w1.heap.size N bs w2.heap.size xss sd M ch L hN1 hN2 (Lib.hid Ok.out) HM HL (by omega))
    clear hc ho hw hxm hmu b4
    go_wp2_with fail
    refine (implMemberOf w1.heap.size N _ _ xss M ch L _ _ w4 Pk O4.out W4 hN1 hN2 (Lib.hid Ok.out) I4.out (Lib.hid fun b e => by have e : b = bs := e; omega)).mono ?_
    rintro e w5 ⟨A5, c5, m5, rfl, s5, mb5, in5, cg5⟩
    have S5 : Hid (Slc w5 w.heap.size A5 N c5 m5) := Lib.hid (s5.mono (by have := B1.out.size; have := B4.out.size; omega))
    have B5 : Hid (Below w.heap.size w w5) := Lib.hid (btr B1.out (B4.out.trans (cg5.below (fun b e => by have e : b = bs := e; omega) (by have := B4.out.size; omega))))
    have Fin : Hid (IsRnd (N : Int) xss sd m5 true) := Lib.hid (.inl ⟨Hs.out, rfl, by rw [Int.toNat_natCast]; exact mb5, by rw [Int.toNat_natCast]; exact in5.2.2.2⟩)
    clear s5 mb5 in5 cg5
    go_wp2_with fail
    go_ret2
    exact ⟨_, _, _, _, _, rfl, S5.out, Fin.out, B5.out⟩
end Go.Proofs.Ytonanelghnjhpaa

/- The walk of the law FnExactCountMembersOfType: it returns true at every input, and writes nothing that was there. No condition but the program's own contract. -/
namespace Go.Proofs.Ytonanelghnjhpaa
open Go.RowKit

set_option maxHeartbeats 4000000 in
set_option maxRecDepth 100000 in
/-- The law FnExactCountMembersOfType. -/
theorem lawCountMembersOfType (IM : CtImsI 38 IsCty) (i0 : Int) (g1A : Option Addr) (g1n g1c : Nat) (g1v : List SV) (g1x : List (List Int)) (s2A : Option Addr) (s2n s2c : Nat) (s2x : List Int) (w : World) (wfi0 : I64 i0) (hg1 : RR w w.heap.size g1A g1n g1v g1x) (hmg1 : g1n ≤ maxLen) (hkg1 : Hid (∀ i, i < g1n → (g1v.getD i sd0).2.1 ≤ maxLen)) (hs2 : RI w w.heap.size s2A s2x) (ls2 : Hid (s2x.length = s2n)) :
    Calls Try.prog 14 #[.int .i64 i0, .slice g1A g1n g1c, .slice s2A s2n s2c] w fun e w' => e = .returned (.bool true) ∧ Below w.heap.size w w' := by
  have Hg1 := Lib.hid hg1
  have hlxg1 := Lib.hid hg1.lx
  have hllg1 := Lib.hid hg1.lens
  have Hs2 := Lib.hid hs2
  clear hg1 hs2
  by_cases hns2 : s2n ≤ 1048576
  · skip
    by_cases hT0 : ((g1n + tot g1v g1n : Nat) : Int) ≤ (1048576 : Int)
    · skip
      have HT0 := Lib.hid hT0
      obtain ⟨LE, eLE⟩ : ∃ L : Int, (1048576 : Int) - ((g1n + tot g1v g1n : Nat) : Int) = L := ⟨_, rfl⟩
      have hLE : ¬ LE < 0 := by omega
      have dLE : decide (LE < 0) = false := by simp; omega
      have ELE := Lib.hid eLE
      clear eLE
      have hng1 : g1n ≤ 1048576 := by omega
      have KTg1 : Hid (tot g1v g1n ≤ 1048576) := Lib.hid (by omega)
      have hlg1 : Hid (∀ i, i < g1n → (g1v.getD i sd0).2.1 ≤ 1048576) := Lib.hid fun i hi => by have := tot_row (vs := g1v) hi; have := KTg1.out; omega
      have hylg1 : Hid (∀ i, i < g1n → (g1x.getD i []).length ≤ 1048576) := Lib.hid fun i hi => by rw [hllg1.out i hi]; exact hlg1.out i hi
      clear hT0 
      go_enter Try.func14, Try.ntmps14
      go_wp2_with fail
      have K0 := szSS2 g1A g1n g1c 1048576 g1v g1x w Hg1.out hmg1 hkg1 (by decide) (by decide)
      refine K0.mono ?_
      rintro e w0 ⟨rfl, rfl⟩
      clear K0
      rw [if_pos HT0.out]
      rw [ELE.out]
      go_wp2_with fail
      refine (toSS g1A g1n g1c g1v g1x w Hg1.out hng1 hlg1).mono ?_
      rintro e w1 ⟨A1, c1, us1, rfl, s1, q1, b1⟩
      have Z1 : Hid (w.heap.size ≤ w1.heap.size) := Lib.hid b1.size
      have B1 : Hid (Below w.heap.size w w1) := Lib.hid b1
      have Ftg1_1 := Lib.hid s1
      have Ltg1 : Hid (Lies A1 g1n c1 w.heap.size w1.heap.size) := Lib.hid s1.lt_
      have Itg1 : Hid (∀ t, t < g1n → ∀ k, (sval (us1.getD t sd0)).ownBlock = some k → w.heap.size ≤ k ∧ k < w1.heap.size) := Lib.hid fun t ht => (s1.row t ht).lt_
      have Qtg1 := Lib.hid q1
      have hltg1 : Hid (∀ i, i < g1n → (us1.getD i sd0).2.1 ≤ 1048576) := Lib.hid fun i hi => by rw [q1 i hi]; exact hlg1.out i hi
      clear s1 b1 q1
      go_wp2_with fail
      refine (toS_any s2A s2c s2n s2x w1 (Hs2.out.up B1.out) ls2 (by omega)).mono ?_
      rintro e w2 ⟨A2, c2, rfl, s2, b2⟩
      have Z2 : Hid (w1.heap.size ≤ w2.heap.size) := Lib.hid b2.size
      have B2 : Hid (Below w.heap.size w w2) := Lib.hid (btr B1.out b2)
      have Ftg1_2 := Lib.hid (Ftg1_1.out.up b2)
      clear Ftg1_1
      have Fts2_2 := Lib.hid s2
      have Lts2 : Hid (Lies A2 s2n c2 w1.heap.size w2.heap.size) := Lib.hid s2.lies
      have lets2 := s2.le.1
      clear s2 b2
      go_wp2_with fail
      have K3 := ctCty i0 A1 g1n c1 us1 g1x A2 s2n c2 s2x w2 ⟨Ftg1_2.out.rr, hng1, hltg1.out⟩ ⟨Fts2_2.out.ri_, ls2.out, hns2, lets2⟩ wfi0
      refine K3.mono ?_
      clear K3
      rintro e w3 ⟨v3, rfl, r3, b3⟩
      have Z3 : Hid (w2.heap.size ≤ w3.heap.size) := Lib.hid b3.size
      have B3 : Hid (Below w.heap.size w w3) := Lib.hid (btr B2.out b3)
      have Ftg1_3 := Lib.hid (Ftg1_2.out.up b3)
      clear Ftg1_2
      have Fts2_3 := Lib.hid (Fts2_2.out.up b3)
      clear Fts2_2
      have HR := Lib.hid r3
      clear r3
      clear b3
      clear Ftg1_3
      clear Fts2_3
      go_wp2_with fail
      refine (toSS g1A g1n g1c g1v g1x w3 (Hg1.out.up B3.out) hng1 hlg1).mono ?_
      rintro e w4 ⟨A4, c4, us4, rfl, s4, q4, b4⟩
      have Z4 : Hid (w3.heap.size ≤ w4.heap.size) := Lib.hid b4.size
      have B4 : Hid (Below w.heap.size w w4) := Lib.hid (btr B3.out b4)
      have Fxg1_4 := Lib.hid s4
      have Lxg1 : Hid (Lies A4 g1n c4 w3.heap.size w4.heap.size) := Lib.hid s4.lt_
      have Ixg1 : Hid (∀ t, t < g1n → ∀ k, (sval (us4.getD t sd0)).ownBlock = some k → w3.heap.size ≤ k ∧ k < w4.heap.size) := Lib.hid fun t ht => (s4.row t ht).lt_
      have Qxg1 := Lib.hid q4
      have hlxg1 : Hid (∀ i, i < g1n → (us4.getD i sd0).2.1 ≤ 1048576) := Lib.hid fun i hi => by rw [q4 i hi]; exact hlg1.out i hi
      clear s4 b4 q4
      go_wp2_with fail
      refine (toS_any s2A s2c s2n s2x w4 (Hs2.out.up B4.out) ls2 (by omega)).mono ?_
      rintro e w5 ⟨A5, c5, rfl, s5, b5⟩
      have Z5 : Hid (w4.heap.size ≤ w5.heap.size) := Lib.hid b5.size
      have B5 : Hid (Below w.heap.size w w5) := Lib.hid (btr B4.out b5)
      have Fxg1_5 := Lib.hid (Fxg1_4.out.up b5)
      clear Fxg1_4
      have Fxs2_5 := Lib.hid s5
      have Lxs2 : Hid (Lies A5 s2n c5 w4.heap.size w5.heap.size) := Lib.hid s5.lies
      have lexs2 := s5.le.1
      clear s5 b5
      go_wp2_with fail
      have K6 := IM i0 A4 g1n c4 us4 g1x A5 s2n c5 s2x w5 ⟨Fxg1_5.out.rr, hng1, hlxg1.out⟩ ⟨Fxs2_5.out.ri_, ls2.out, hns2, lexs2⟩ wfi0
      refine K6.mono ?_
      clear K6
      rintro e w6 ⟨v6, rfl, r6, b6⟩
      have Z6 : Hid (w5.heap.size ≤ w6.heap.size) := Lib.hid b6.size
      have B6 : Hid (Below w.heap.size w w6) := Lib.hid (btr B5.out b6)
      have Fxg1_6 := Lib.hid (Fxg1_5.out.up b6)
      clear Fxg1_5
      have Fxs2_6 := Lib.hid (Fxs2_5.out.up b6)
      clear Fxs2_5
      have e6 := HR.out.uniq r6
      subst e6
      clear r6
      clear b6
      go_wp2_with fail
      refine (toSS g1A g1n g1c g1v g1x w6 (Hg1.out.up B6.out) hng1 hlg1).mono ?_
      rintro e w7 ⟨A7, c7, us7, rfl, s7, q7, b7⟩
      have Z7 : Hid (w6.heap.size ≤ w7.heap.size) := Lib.hid b7.size
      have B7 : Hid (Below w.heap.size w w7) := Lib.hid (btr B6.out b7)
      have Fxg1_7 := Lib.hid (Fxg1_6.out.up b7)
      clear Fxg1_6
      have Fxs2_7 := Lib.hid (Fxs2_6.out.up b7)
      clear Fxs2_6
      have Fyg1_7 := Lib.hid s7
      have Lyg1 : Hid (Lies A7 g1n c7 w6.heap.size w7.heap.size) := Lib.hid s7.lt_
      have Iyg1 : Hid (∀ t, t < g1n → ∀ k, (sval (us7.getD t sd0)).ownBlock = some k → w6.heap.size ≤ k ∧ k < w7.heap.size) := Lib.hid fun t ht => (s7.row t ht).lt_
      have Qyg1 := Lib.hid q7
      have hlyg1 : Hid (∀ i, i < g1n → (us7.getD i sd0).2.1 ≤ 1048576) := Lib.hid fun i hi => by rw [q7 i hi]; exact hlg1.out i hi
      clear s7 b7 q7
      go_wp2_with fail
      refine (eqRR_same A4 A7 g1n c4 g1n c7 us4 us7 _ w7 Fxg1_7.out.rr Fyg1_7.out.rr (by omega) hylg1).mono ?_
      rintro e w8 ⟨rfl, b8⟩
      have Z8 : Hid (w7.heap.size ≤ w8.heap.size) := Lib.hid b8.size
      have B8 : Hid (Below w.heap.size w w8) := Lib.hid (btr B7.out b8)
      have Fxg1_8 := Lib.hid (Fxg1_7.out.up b8)
      clear Fxg1_7
      have Fxs2_8 := Lib.hid (Fxs2_7.out.up b8)
      clear Fxs2_7
      have Fyg1_8 := Lib.hid (Fyg1_7.out.up b8)
      clear Fyg1_7
      clear b8
      clear Fyg1_8
      go_wp2_with fail
      refine (toS_any s2A s2c s2n s2x w8 (Hs2.out.up B8.out) ls2 (by omega)).mono ?_
      rintro e w9 ⟨A9, c9, rfl, s9, b9⟩
      have Z9 : Hid (w8.heap.size ≤ w9.heap.size) := Lib.hid b9.size
      have B9 : Hid (Below w.heap.size w w9) := Lib.hid (btr B8.out b9)
      have Fxg1_9 := Lib.hid (Fxg1_8.out.up b9)
      clear Fxg1_8
      have Fxs2_9 := Lib.hid (Fxs2_8.out.up b9)
      clear Fxs2_8
      have Fys2_9 := Lib.hid s9
      have Lys2 : Hid (Lies A9 s2n c9 w8.heap.size w9.heap.size) := Lib.hid s9.lies
      have leys2 := s9.le.1
      clear s9 b9
      go_wp2_with fail
      refine (eqS_same _ _ A5 A9 s2n c5 s2n c9 w9 Fxs2_9.out Fys2_9.out (by omega)).mono ?_
      rintro e w10 ⟨rfl, b10⟩
      have Z10 : Hid (w9.heap.size ≤ w10.heap.size) := Lib.hid b10.size
      have B10 : Hid (Below w.heap.size w w10) := Lib.hid (btr B9.out b10)
      have Fxg1_10 := Lib.hid (Fxg1_9.out.up b10)
      clear Fxg1_9
      have Fxs2_10 := Lib.hid (Fxs2_9.out.up b10)
      clear Fxs2_9
      have Fys2_10 := Lib.hid (Fys2_9.out.up b10)
      clear Fys2_9
      clear b10
      clear Fys2_10
      go_wp2_with fail
      go_ret
      exact ⟨rfl, B10.out⟩
    · skip
      have HT0 := Lib.hid hT0
      clear hT0
      go_enter Try.func14, Try.ntmps14
      go_wp2_with fail
      have K0 := szSS2 g1A g1n g1c 1048576 g1v g1x w Hg1.out hmg1 hkg1 (by decide) (by decide)
      refine K0.mono ?_
      rintro e w0 ⟨rfl, rfl⟩
      clear K0
      rw [if_neg (Int.not_le.2 HT0.out)]
      go_wp2
      go_ret
      exact ⟨rfl, Below.refl _ _⟩
  · skip
    have d1 : decide ((1048576 : Int) < s2n) = true := by simp; omega
    go_enter Try.func14, Try.ntmps14
    go_wp2
    go_ret
    exact ⟨rfl, Below.refl _ _⟩
end Go.Proofs.Ytonanelghnjhpaa

/- CycleType and SameCycleType, of the program and of the model. No condition but lengths. -/
namespace Go.Proofs.Ytonanelghnjhpaa
open Go.RowKit


set_option maxHeartbeats 800000 in
/-- The program's CycleType. -/
theorem implCycleType (A : Option Addr) (c n : Nat) (p : List Int) (w : World) (hp : RI w w.heap.size A p) (lp : Hid (p.length = n)) (hn : n ≤ 2097152) :
    Calls Try.prog 87 #[.slice A n c] w fun e w' => ∃ A' n' c', e = .returned (.slice A' n' c') ∧ Slc w' w.heap.size A' n' c' (ctypeL p) ∧ n' ≤ 20 ∧ Below w.heap.size w w' := by
  rcases hs : isP p with _ | _
  · have Fin : Hid (ctypeL p = []) := Lib.hid (if_neg (by rw [hs]; decide))
    go_enter Try.func87, Try.ntmps87
    go_wp2_with fail
    refine (implIsP A c n p w hp lp hn).mono ?_
    rintro e w1 ⟨rfl, b1⟩
    have B1 := Lib.hid b1
    clear b1
    go_wp2_with fail
    go_ret
    exact ⟨_, _, _, rfl, by rw [Fin.out]; exact Slc.nil_, Nat.zero_le _, B1.out⟩
  · have Ip := Lib.hid (isP_iff.1 hs)
    have Fin : Hid (ctypeL p = (((lens p).map Int.ofNat).mergeSort fun x y => decide (x ≤ y)).reverse) := Lib.hid ((if_pos hs).trans (ctype_sort Ip.out).symm)
    have hn20 : n ≤ 20 := by rw [← lp.out]; exact Ip.out.le
    go_enter Try.func87, Try.ntmps87
    go_wp2_with fail
    refine (implIsP A c n p w hp lp hn).mono ?_
    rintro e w0 ⟨rfl, b0⟩
    have B0 := Lib.hid b0
    clear b0
    go_wp2_with fail
    refine (implAll A c n p w0 (hp.up B0.out) lp Ip hn20).mono ?_
    rintro e w1 ⟨A1, M, c1, vs, rfl, s1, hm, b1⟩
    have S1 := Lib.hid s1
    have B1 : Hid (Below w.heap.size w w1) := Lib.hid (btr B0.out b1)
    have LM : Hid ((lens p).length = M) := Lib.hid ((lens_len p).trans s1.lx)
    have h1M : 1 ≤ M := by have := cycs_pos Ip.out; rw [s1.lx] at this; exact this
    clear s1 b1
    go_wp2_with fail
    clear hs
    go_loopw [3, 5, 12] (fun v _ i wr => ∃ k A' c', k ≤ M ∧ i = .int .i64 (k : Nat) ∧ v = .slice A' k c' ∧ Slc wr w1.heap.size A' k c' (lensI p k) ∧ Below w1.heap.size w1 wr) (fun _ _ i _ => M - (intOf i).toNat)
    case atStart => exact ⟨0, _, _, Nat.zero_le _, rfl, rfl, Slc.nil_, Below.refl _ _⟩
    case round =>
      obtain ⟨k, A', c', hk, rfl, rfl, ss, bel⟩ := hrel
      have Ss := Lib.hid ss
      have Bel := Lib.hid bel
      clear ss bel
      by_cases hlt : k < M
      · obtain ⟨g, rfl, hg1, hg2, hc⟩ := S1.out.at_ (by omega)
        have c0 := (Bel.out.cell (p := ⟨g, k, none⟩) hg2).trans (hc k hlt)
        have hrow := S1.out.row k hlt
        obtain ⟨l, el⟩ : ∃ l, (vs.getD k sd0).2.1 = l := ⟨_, rfl⟩
        obtain ⟨A5, e5⟩ : ∃ A5, (vs.getD k sd0).1 = A5 := ⟨_, rfl⟩
        obtain ⟨c5, ec5⟩ : ∃ c5, (vs.getD k sd0).2.2 = c5 := ⟨_, rfl⟩
        rw [e5, el, ec5] at c0 hrow
        have Lk : Hid (lensI p (k + 1) = lensI p k ++ [(l : Int)]) := Lib.hid (lensI_succ (by rw [LM.out]; exact hlt) (by
          have := hrow.1
          rw [List.getD_eq_getElem?_getD, List.getElem?_eq_getElem (by rw [S1.out.lx]; exact hlt)] at this
          rw [← this]; simp [lens]))
        have hll := (hrow.le).2
        unfold maxLen at hll
        clear hrow el e5 ec5 hc
        go_wp2_with (first | (at_builtin; refine wpList_app1 rfl _ _ rfl w1.heap.size A' k c' _ rfl (Ss.out.alloc _) wr.heap.size (l : Int) rfl (by rw [World.cell?_alloc_at _ _ _ _ rfl]; rfl) (by omega) (by have := Bel.out.size; simp; omega) ?_; intro A3 c3 w3 ss3 hg3))
        have Ss3 := Lib.hid ss3
        have Bel3 : Hid (Below w1.heap.size w1 w3) := Lib.hid ((Bel.out.alloc Bel.out.size _).grown hg3 (by have := Bel.out.size; simp; omega) (fun j hj => (Ss.out.lt_ j hj).1))
        clear ss3 hg3
        go_wp2
        go_roundw
        case rel => exact ⟨k + 1, A3, c3, by omega, by go_num, rfl, by rw [Lk.out]; exact Ss3.out, Bel3.out⟩
        case measure => simp [intOf]; omega
      · have hkm : k = M := by omega
        subst hkm
        have Fq : Hid (lensI p k = (lens p).map Int.ofNat) := Lib.hid (by unfold lensI; rw [List.take_of_length_le (by rw [LM.out]; exact Nat.le_refl _)])
        go_wp2_with fail
        refine (sortT w1.heap.size A' k c' _ wr Ss.out h1M (by omega)).mono ?_
        rintro e w4 ⟨rfl, s4, g4⟩
        have S4 := Lib.hid s4
        have Bel4 : Hid (Below w1.heap.size w1 w4) := Lib.hid (Bel.out.grown g4 Bel.out.size (fun j hj => (Ss.out.lt_ j hj).1))
        clear s4 g4
        go_wp2_with fail
        refine (revT w1.heap.size A' k c' _ w4 S4.out h1M (by omega)).mono ?_
        rintro e w5 ⟨rfl, s5, g5⟩
        have S5 := Lib.hid s5
        have Bel5 : Hid (Below w.heap.size w w5) := Lib.hid (btr B1.out (Bel4.out.grown g5 Bel4.out.size (fun j hj => (S4.out.lt_ j hj).1)))
        clear s5 g5
        go_wp2_with fail
        go_ret
        exact ⟨_, _, _, rfl, by rw [Fin.out, ← Fq.out]; exact S5.out.mono B1.out.size, by omega, Bel5.out⟩

end Go.Proofs.Ytonanelghnjhpaa

/- The program's CountMembersOfType. Conditions: at most 1048576 lists of at most 1048576 numbers. -/
namespace Go.Proofs.Ytonanelghnjhpaa
open Go.RowKit

set_option maxHeartbeats 400000 in
/-- slices.Equal of two lists that can be read. -/
theorem sEq_core (A B : Option Addr) (c d n : Nat) (xs ys : List Int) (w : World) (hx : RI w w.heap.size A xs) (hy : RI w w.heap.size B ys) (lx : Hid (xs.length = n)) (ly : Hid (ys.length = n)) (hn : n ≤ 2097152) :
    Calls Try.prog 86 #[.slice A n c, .slice B n d] w fun e w' => e = .returned (.bool (decide (xs = ys))) ∧ ∃ m, w' = w.drewN m := by
  go_enter Try.func86, Try.ntmps86
  go_wp2
  go_loopw [5, 13] (fun _ i wr => ∃ k : Nat, k ≤ n ∧ i = .int .i64 k ∧ (∀ j, j < k → xs.getD j 0 = ys.getD j 0) ∧ ∃ m, wr = w.drewN m) (fun _ i _ => n - (intOf i).toNat)
  case atStart => exact ⟨0, Nat.zero_le _, rfl, fun j h => absurd h (by omega), 0, rfl⟩
  case round =>
    obtain ⟨k, hk, rfl, heq, m, rfl⟩ := hrel
    have Heq := Lib.hid heq
    clear heq
    by_cases hlt : k < n
    · obtain ⟨b, off, rfl, hb, hc⟩ := hx (by rw [lx.out]; omega)
      obtain ⟨b', off', rfl, hb', hc'⟩ := hy (by rw [ly.out]; omega)
      have c1 := hc k (by rw [lx.out]; omega)
      have c2 := hc' k (by rw [ly.out]; omega)
      obtain ⟨x, ex⟩ : ∃ x, xs.getD k 0 = x := ⟨_, rfl⟩
      obtain ⟨y, ey⟩ : ∃ y, ys.getD k 0 = y := ⟨_, rfl⟩
      rw [ex] at c1
      rw [ey] at c2
      have Ex := Lib.hid ex
      have Ey := Lib.hid ey
      clear ex ey hc hc' hx hy
      have p1 : (0 : Int) ≤ k := by omega
      have p2 : (k : Int) < n := by omega
      by_cases hxy : x = y
      · subst hxy
        go_wp2
        go_quiet (fail)
        go_wp2
        go_roundw
        case rel => exact ⟨k + 1, by omega, by go_num, fun j hj => by
          by_cases e : j = k
          · subst e; rw [Ex.out, Ey.out]
          · exact Heq.out j (by omega), _, rfl⟩
        case measure => simp [intOf]; omega
      · have hd : (x != y) = true := by simpa using hxy
        have hd' : (x == y) = false := by simpa using hxy
        go_wp2
        go_quiet (fail)
        go_wp2
        go_ret
        refine ⟨ret_bool (Eq.symm (decide_eq_false fun e => hxy ?_)), _, World.drewN_drewN _ _ _⟩
        rw [← Ex.out, ← Ey.out, e]
    · go_wp2
      go_ret
      have : k = n := by omega
      subst this
      exact ⟨ret_bool (Eq.symm (decide_eq_true (ext_getD lx.out ly.out Heq.out))), _, rfl⟩
theorem sEq (A B : Option Addr) (c d n m : Nat) (xs ys : List Int) (w : World) (hx : RI w w.heap.size A xs) (hy : RI w w.heap.size B ys) (lx : Hid (xs.length = n)) (ly : Hid (ys.length = m)) (hn : n ≤ 2097152) (hm : m ≤ 2097152) :
    Calls Try.prog 86 #[.slice A n c, .slice B m d] w fun e w' => e = .returned (.bool (decide (xs = ys))) ∧ ∃ m, w' = w.drewN m := by
  by_cases hl : n = m
  · subst hl
    exact sEq_core A B c d n xs ys w hx hy lx ly hn
  · have hd : ((n : Int) != (m : Int)) = true := by rw [bne_iff_ne]; omega
    have hd' : ((n : Int) == (m : Int)) = false := by rw [beq_eq_false_iff_ne]; omega
    go_enter Try.func86, Try.ntmps86
    go_wp2
    go_ret
    refine ⟨ret_bool (Eq.symm (decide_eq_false fun e => hl ?_)), 0, rfl⟩
    rw [← lx.out, ← ly.out, e]

set_option maxHeartbeats 4000000 in
set_option maxRecDepth 100000 in
/-- CountMembersOfType. -/
theorem implCountMembersOfType : CtImsI 38 IsCty := by
  intro a A n c vs xss P np cp p w hG hS ha
  have q24 : ∀ (w : World) (a : Option Addr) (n c n' c' : Nat), (binOp .eql 24 (.slice a n c) (.slice none n' c')).run Try.prog w = .ok (.bool a.isNone) w := fun w a n c n' c' => Lib.run_eql_slice_nil w _ _ a n c n' c' Try.underlying24
  have HG := Lib.hid hG
  have HS := Lib.hid hS
  have lp : Hid (p.length = np) := Lib.hid hS.lp
  have hnp := hS.hn
  clear hG hS
  go_enter Try.func38, Try.ntmps38
  go_wp2_with fail
  refine (implMembersN a A n c vs xss w HG.out).mono ?_
  rintro e w2 ⟨A2, m2, c2, us, l, rfl, s2, r2, hnil, b2⟩
  have R2 := Lib.hid r2
  have L2 : Hid (l.length = m2) := Lib.hid s2.lx
  have hm3 : m2 ≤ 3000 := by rw [← s2.lx]; exact r2.len.1
  have S2 := Lib.hid s2.rr
  have P2 := Lib.hid (HS.out.ri.up b2)
  have B2 := Lib.hid b2
  clear s2 r2 b2
  by_cases hm0 : m2 = 0
  · have hl : l = [] := List.eq_nil_of_length_eq_zero (by rw [L2.out]; exact hm0)
    obtain rfl : A2 = none := hnil hl
    have Fin : Hid (IsCty a xss p (-1)) := Lib.hid (.inr ⟨fun hf => by
      rcases R2.out with ⟨_, _, hm⟩ | ⟨hn, _⟩
      · have := (hm (idL a.toNat)).2 .one
        rw [hl] at this; cases this
      · exact hn hf, rfl⟩)
    clear hnil hl
    go_wp2_with fail
    go_ret
    exact ⟨_, rfl, Fin.out, B2.out⟩
  · have hf : Few a xss := by
      rcases R2.out with ⟨hf, _⟩ | ⟨_, e⟩
      · exact hf
      · exact absurd (by rw [← L2.out, e]; rfl) hm0
    have Fin : Hid (IsCty a xss p (cty p l l.length : Nat)) := Lib.hid (R2.out.cty hf)
    obtain ⟨b0, off0, rfl, _, _⟩ := S2.out.cells (by omega)
    rename_i hx1 hx2
    clear hf hnil hx1 hx2
    go_wp2_with fail
    go_loopw [8, 10, 18] (fun v _ i wr => ∃ k : Nat, k ≤ m2 ∧ i = .int .i64 (k : Nat) ∧ v = .int .i64 (cty p l k : Nat) ∧ Below w2.heap.size w2 wr) (fun _ _ i _ => m2 - (intOf i).toNat)
    case atStart => exact ⟨0, Nat.zero_le _, rfl, rfl, Below.refl _ _⟩
    case round =>
      obtain ⟨k, hk, rfl, rfl, bel⟩ := hrel
      have Be := Lib.hid bel
      clear bel
      by_cases hlt : k < m2
      · obtain ⟨b, off, A5, lz, c5, y, e0, hb, ev, ey, hc0, hr0, hy, hlc⟩ := S2.out.at_ hlt
        injection e0 with e0
        injection e0 with f1 f2 _
        subst f1 f2
        have hyl : y.length ≤ 20 := R2.out.len.2 y (getD_of (by rw [L2.out]; exact hlt) ey)
        have Cs := Lib.hid (cty_succ (kd := p) (by rw [L2.out]; exact hlt) ey)
        have x1 := (Be.out.cell (p := ⟨b0, off0 + k, none⟩) hb).trans hc0
        have Ry := Lib.hid (hr0.up Be.out)
        have Hy : Hid (y.length = lz) := Lib.hid hy
        have z0 : (0 : Int) ≤ k := by omega
        have z1 : (k : Int) < m2 := by omega
        have hcl := cty_le p l k
        rw [L2.out] at hcl
        clear ev ey hr0 hb hc0
        go_wp2_with fail
        refine (implCycleType A5 c5 lz y wr Ry.out Hy (by omega)).mono ?_
        rintro e w3 ⟨A3, m3, c3, rfl, s3, hm3', b3⟩
        have S3 := Lib.hid s3
        have P3 := Lib.hid ((P2.out.up Be.out).up b3)
        have B3 : Hid (Below w2.heap.size w2 w3) := Lib.hid (btr Be.out b3)
        clear s3 b3
        obtain ⟨t, ht⟩ : ∃ t, decide (ctypeL y = p) = t := ⟨_, rfl⟩
        rw [ht] at Cs
        have K := (quiet_below (sEq A3 P c3 cp m3 np (ctypeL y) p w3 S3.out.ri_ P3.out S3.out.hid lp (by omega) (by omega)))
        rw [ht] at K
        go_wp2_with fail
        refine K.mono ?_
        rintro e w4 ⟨rfl, b4⟩
        have B4 : Hid (Below w2.heap.size w2 w4) := Lib.hid (btr B3.out b4)
        clear K b4 ht
        obtain ⟨s, hs⟩ : ∃ s, cty p l k = s := ⟨_, rfl⟩
        rw [hs] at hcl Cs ⊢
        rcases t with _ | _
        · have C2 : Hid (cty p l (k + 1) = s) := Lib.hid (by rw [Cs.out]; simp)
          go_wp2_with fail
          go_roundw
          case rel => exact ⟨k + 1, by omega, by go_num, by rw [C2.out], B4.out⟩
          case measure => simp [intOf]; omega
        · have C2 : Hid (cty p l (k + 1) = s + 1) := Lib.hid (by rw [Cs.out]; simp)
          have hw1 : IntKind.i64.wrap ((s : Int) + 1) = (s : Int) + 1 := by rw [IntKind.wrap_i64]; omega
          go_wp2_with fail
          go_roundw
          case rel => exact ⟨k + 1, by omega, by go_num, by rw [C2.out]; go_num, B4.out⟩
          case measure => simp [intOf]; omega
      · obtain rfl : k = m2 := by omega
        have B3 : Hid (Below w.heap.size w wr) := Lib.hid (btr B2.out Be.out)
        go_wp2_with fail
        go_ret
        exact ⟨_, rfl, by have := Fin.out; rwa [L2.out] at this, B3.out⟩
end Go.Proofs.Ytonanelghnjhpaa
