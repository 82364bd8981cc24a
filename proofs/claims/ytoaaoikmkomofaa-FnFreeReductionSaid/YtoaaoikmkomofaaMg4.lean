/- Part 4 of the texts: WalkD8, WsE, WpD, WalkE8, WalkG8, WalkH8, WsL, WpE, Sz2, Hel4, WalkB8, WsO, WpL. No condition of its own: each text tells its own. -/
import Derived.Test.YtoaaoikmkomofaaMg3
import Derived.Test.YtoaaoikmkomofaaMg1
import Derived.Test.YtoaaoikmkomofaaMg2
import Derived.Deep.QuietTactic
import Derived.BigQuiet
set_option linter.unusedVariables false
set_option linter.unusedSimpArgs false

/- The walk of the law FnExactFreeReduce: it returns true at every input, and writes nothing that was there. No condition. -/
namespace Go.Proofs.Ytoaaoikmkomofaa
open Go.RowKit

set_option maxHeartbeats 4000000 in
set_option maxRecDepth 100000 in
/-- The law FnExactFreeReduce. -/
theorem lawFreeReduce (s0A : Option Addr) (s0n s0c : Nat) (s0x : List Int) (w : World) (hs0 : RI w w.heap.size s0A s0x) (ls0 : Hid (s0x.length = s0n)) (vs0 : Hid (VI s0x)) :
    Calls Try.prog 9 #[.slice s0A s0n s0c] w fun e w' => e = .returned (.bool true) ∧ Below w.heap.size w w' := by
  have Hs0 := Lib.hid hs0
  clear hs0
  by_cases hns0 : s0n ≤ 1048576
  · skip
    go_enter Try.func9, Try.ntmps9
    go_wp2_with fail
    refine (toS_any s0A s0c s0n s0x w Hs0.out ls0 (by omega)).mono ?_
    rintro e w1 ⟨A1, c1, rfl, s1, b1⟩
    have B1 : Hid (Below w.heap.size w w1) := Lib.hid b1
    have Fts0_1 := Lib.hid s1
    have Lts0 := Lib.hid s1.lies
    have lets0 := s1.le.1
    clear s1 b1
    go_wp2_with fail
    refine (specFreeReduce _ _ _ s0x w1 Fts0_1.out.ri_ ls0 (by omega)).mono ?_
    rintro e w2 ⟨A2, n2, c2, rfl, s2, m2, b2⟩
    have B1_2 : Hid (Below w1.heap.size w1 w2) := Lib.hid b2
    have B2 : Hid (Below w.heap.size w w2) := Lib.hid (btr B1.out b2)
    have Fts0_2 := Lib.hid (Fts0_1.out.up b2)
    clear Fts0_1
    have FW_2 := Lib.hid s2
    have LW := Lib.hid s2.lies
    clear s2 b2
    clear Fts0_2
    go_wp2_with fail
    refine (toS_any s0A s0c s0n s0x w2 (Hs0.out.up B2.out) ls0 (by omega)).mono ?_
    rintro e w3 ⟨A3, c3, rfl, s3, b3⟩
    have B1_3 : Hid (Below w1.heap.size w1 w3) := Lib.hid (btr B1_2.out b3)
    have B2_3 : Hid (Below w2.heap.size w2 w3) := Lib.hid b3
    have B3 : Hid (Below w.heap.size w w3) := Lib.hid (btr B2.out b3)
    have FW_3 := Lib.hid (FW_2.out.up b3)
    clear FW_2
    have Fxs0_3 := Lib.hid s3
    have Lxs0 := Lib.hid s3.lies
    have lexs0 := s3.le.1
    clear s3 b3
    go_wp2_with fail
    refine (implFreeReduce _ _ _ s0x w3 Fxs0_3.out.ri_ ls0 (by omega) vs0).mono ?_
    rintro e w4 ⟨A4, n4, c4, rfl, s4, m4, b4⟩
    have B1_4 : Hid (Below w1.heap.size w1 w4) := Lib.hid (btr B1_3.out b4)
    have B2_4 : Hid (Below w2.heap.size w2 w4) := Lib.hid (btr B2_3.out b4)
    have B3_4 : Hid (Below w3.heap.size w3 w4) := Lib.hid b4
    have B4 : Hid (Below w.heap.size w w4) := Lib.hid (btr B3.out b4)
    have FW_4 := Lib.hid (FW_3.out.up b4)
    clear FW_3
    have Fxs0_4 := Lib.hid (Fxs0_3.out.up b4)
    clear Fxs0_3
    have FG_4 := Lib.hid s4
    have LG := Lib.hid s4.lies
    clear s4 b4
    go_wp2_with fail
    refine (eqS_same _ _ A4 A2 n4 c4 n2 c2 w4 FG_4.out FW_4.out (by omega)).mono ?_
    rintro e w5 ⟨rfl, b5⟩
    have B1_5 : Hid (Below w1.heap.size w1 w5) := Lib.hid (btr B1_4.out b5)
    have B2_5 : Hid (Below w2.heap.size w2 w5) := Lib.hid (btr B2_4.out b5)
    have B3_5 : Hid (Below w3.heap.size w3 w5) := Lib.hid (btr B3_4.out b5)
    have B4_5 : Hid (Below w4.heap.size w4 w5) := Lib.hid b5
    have B5 : Hid (Below w.heap.size w w5) := Lib.hid (btr B4.out b5)
    have FW_5 := Lib.hid (FW_4.out.up b5)
    clear FW_4
    have Fxs0_5 := Lib.hid (Fxs0_4.out.up b5)
    clear Fxs0_4
    have FG_5 := Lib.hid (FG_4.out.up b5)
    clear FG_4
    clear b5
    go_wp2_with fail
    refine (toS_any s0A s0c s0n s0x w5 (Hs0.out.up B5.out) ls0 (by omega)).mono ?_
    rintro e w6 ⟨A6, c6, rfl, s6, b6⟩
    have B1_6 : Hid (Below w1.heap.size w1 w6) := Lib.hid (btr B1_5.out b6)
    have B2_6 : Hid (Below w2.heap.size w2 w6) := Lib.hid (btr B2_5.out b6)
    have B3_6 : Hid (Below w3.heap.size w3 w6) := Lib.hid (btr B3_5.out b6)
    have B4_6 : Hid (Below w4.heap.size w4 w6) := Lib.hid (btr B4_5.out b6)
    have B5_6 : Hid (Below w5.heap.size w5 w6) := Lib.hid b6
    have B6 : Hid (Below w.heap.size w w6) := Lib.hid (btr B5.out b6)
    have FW_6 := Lib.hid (FW_5.out.up b6)
    clear FW_5
    have Fxs0_6 := Lib.hid (Fxs0_5.out.up b6)
    clear Fxs0_5
    have FG_6 := Lib.hid (FG_5.out.up b6)
    clear FG_5
    have Fys0_6 := Lib.hid s6
    have Lys0 := Lib.hid s6.lies
    have leys0 := s6.le.1
    clear s6 b6
    go_wp2_with fail
    refine (eqS_same _ _ A3 A6 s0n c3 s0n c6 w6 Fxs0_6.out Fys0_6.out (by omega)).mono ?_
    rintro e w7 ⟨rfl, b7⟩
    have B1_7 : Hid (Below w1.heap.size w1 w7) := Lib.hid (btr B1_6.out b7)
    have B2_7 : Hid (Below w2.heap.size w2 w7) := Lib.hid (btr B2_6.out b7)
    have B3_7 : Hid (Below w3.heap.size w3 w7) := Lib.hid (btr B3_6.out b7)
    have B4_7 : Hid (Below w4.heap.size w4 w7) := Lib.hid (btr B4_6.out b7)
    have B5_7 : Hid (Below w5.heap.size w5 w7) := Lib.hid (btr B5_6.out b7)
    have B6_7 : Hid (Below w6.heap.size w6 w7) := Lib.hid b7
    have B7 : Hid (Below w.heap.size w w7) := Lib.hid (btr B6.out b7)
    have FW_7 := Lib.hid (FW_6.out.up b7)
    clear FW_6
    have Fxs0_7 := Lib.hid (Fxs0_6.out.up b7)
    clear Fxs0_6
    have FG_7 := Lib.hid (FG_6.out.up b7)
    clear FG_6
    have Fys0_7 := Lib.hid (Fys0_6.out.up b7)
    clear Fys0_6
    clear b7
    clear Fys0_7
    go_wp2_with fail
    refine (markK _ (1) _ A3 s0n c3 _ w7 Fxs0_7.out (by omega) (by omega) (by omega)).mono ?_
    rintro e w8 ⟨rfl, s8, g8⟩
    have B8 : Hid (Below w.heap.size w w8) := Lib.hid (B7.out.trans (below_mark g8 Lxs0.out B2.out.size B7.out.size))
    have FW_8 := Lib.hid (FW_7.out.far g8 LW.out Lxs0.out (.inl (Nat.le_refl _)))
    clear FW_7
    have Fxs0_8 := Lib.hid s8
    clear Fxs0_7
    have FG_8 := Lib.hid (FG_7.out.far g8 LG.out Lxs0.out (.inr (Nat.le_refl _)))
    clear FG_7
    clear s8 g8
    go_wp2_with fail
    refine (eqS_same _ _ A4 A2 n4 c4 n2 c2 w8 FG_8.out FW_8.out (by omega)).mono ?_
    rintro e w9 ⟨rfl, b9⟩
    have B9 : Hid (Below w.heap.size w w9) := Lib.hid (btr B8.out b9)
    have FW_9 := Lib.hid (FW_8.out.up b9)
    clear FW_8
    have Fxs0_9 := Lib.hid (Fxs0_8.out.up b9)
    clear Fxs0_8
    have FG_9 := Lib.hid (FG_8.out.up b9)
    clear FG_8
    clear b9
    clear Fxs0_9
    go_wp2_with fail
    refine (markK _ (1) _ A4 n4 c4 _ w9 FG_9.out (by omega) (by omega) (by omega)).mono ?_
    rintro e w10 ⟨rfl, s10, g10⟩
    have B10 : Hid (Below w.heap.size w w10) := Lib.hid (B9.out.trans (below_mark g10 LG.out B3.out.size B9.out.size))
    have FW_10 := Lib.hid (FW_9.out.far g10 LW.out LG.out (.inl (B2_3.out.size)))
    clear FW_9
    have FG_10 := Lib.hid s10
    clear FG_9
    clear s10 g10
    go_wp2_with fail
    refine (held1 _ A4 n4 c4 w10 FG_10.out (by omega)).mono ?_
    rintro e w' ⟨rfl, rfl⟩
    go_wp2_with fail
    refine (toS_any s0A s0c s0n s0x w10 (Hs0.out.up B10.out) ls0 (by omega)).mono ?_
    rintro e w11 ⟨A11, c11, rfl, s11, b11⟩
    have B11 : Hid (Below w.heap.size w w11) := Lib.hid (btr B10.out b11)
    have FW_11 := Lib.hid (FW_10.out.up b11)
    clear FW_10
    have FG_11 := Lib.hid (FG_10.out.up b11)
    clear FG_10
    have Fzs0_11 := Lib.hid s11
    have Lzs0 := Lib.hid s11.lies
    have lezs0 := s11.le.1
    clear s11 b11
    go_wp2_with fail
    refine (implFreeReduce _ _ _ s0x w11 Fzs0_11.out.ri_ ls0 (by omega) vs0).mono ?_
    rintro e w12 ⟨A12, n12, c12, rfl, s12, m12, b12⟩
    have B11_12 : Hid (Below w11.heap.size w11 w12) := Lib.hid b12
    have B12 : Hid (Below w.heap.size w w12) := Lib.hid (btr B11.out b12)
    have FW_12 := Lib.hid (FW_11.out.up b12)
    clear FW_11
    have FG_12 := Lib.hid (FG_11.out.up b12)
    clear FG_11
    have Fzs0_12 := Lib.hid (Fzs0_11.out.up b12)
    clear Fzs0_11
    have FH_12 := Lib.hid s12
    have LH := Lib.hid s12.lies
    clear s12 b12
    clear Fzs0_12
    go_wp2_with fail
    refine (eqS_same _ _ A12 A2 n12 c12 n2 c2 w12 FH_12.out FW_12.out (by omega)).mono ?_
    rintro e w13 ⟨rfl, b13⟩
    have B11_13 : Hid (Below w11.heap.size w11 w13) := Lib.hid (btr B11_12.out b13)
    have B12_13 : Hid (Below w12.heap.size w12 w13) := Lib.hid b13
    have B13 : Hid (Below w.heap.size w w13) := Lib.hid (btr B12.out b13)
    have FW_13 := Lib.hid (FW_12.out.up b13)
    clear FW_12
    have FG_13 := Lib.hid (FG_12.out.up b13)
    clear FG_12
    have FH_13 := Lib.hid (FH_12.out.up b13)
    clear FH_12
    clear b13
    go_wp2_with fail
    refine (held1 _ A4 n4 c4 w13 FG_13.out (by omega)).mono ?_
    rintro e w' ⟨rfl, rfl⟩
    go_wp2_with fail
    go_ret
    exact ⟨rfl, B13.out⟩
  · have d1 : decide ((1048576 : Int) < s0n) = true := by simp; omega
    go_enter Try.func9, Try.ntmps9
    go_wp2
    go_ret
    exact ⟨rfl, Below.refl _ _⟩
end Go.Proofs.Ytoaaoikmkomofaa

/- The model's Commutator and ConjugateWord. Condition: at most 2097152 letters in a word. -/
namespace Go.Proofs.Ytoaaoikmkomofaa
open Go.RowKit

set_option maxHeartbeats 1600000 in
set_option maxRecDepth 100000 in
theorem specCommutator (A B : Option Addr) (c d n m : Nat) (a b : List Int) (w : World) (hx : RI w w.heap.size A a) (hy : RI w w.heap.size B b) (la : Hid (a.length = n)) (lb : Hid (b.length = m)) (hn : n ≤ 2097152) (hm : m ≤ 2097152) (hc : n ≤ c) (hd : m ≤ d) :
    Calls Try.prog 34 #[.slice A n c, .slice B m d] w fun e w' => ∃ A' n' c', e = .returned (.tuple #[.slice A' n' c', .bool (okF (comF a b))]) ∧ Slc w' w.heap.size A' n' c' (catF (comF a b)) ∧ n' ≤ 200 ∧ Below w.heap.size w w' := by
  have HX := Lib.hid hx
  have HY := Lib.hid hy
  clear hx hy
  rcases ha : vW 8 a with _ | _
  · have Ha := Lib.hid ha
    have Bad : Hid (okF (comF a b) = false) := Lib.hid (okF_no (y := a) (by simp [comF]) ha)
    have Fin := Lib.hid (catF_no Bad.out)
    clear ha
    go_enter Try.func34, Try.ntmps34
    go_wp2_with fail
    refine (specIsWd A n c a w HX.out la hn).mono ?_
    rintro e w' ⟨rfl, rfl⟩
    rw [Ha.out]
    go_wp2_with fail
    go_ret2
    exact ⟨_, 0, _, by rw [Bad.out]; try rfl, by rw [Fin.out]; exact Slc.lit0 w _ (Nat.le_refl _), by omega, (Below.refl _ _).alloc (Nat.le_refl _) _⟩
  · have Ha := Lib.hid ha
    have hsa := small_of ha la.out
    have hna := hsa.1
    have Hla := Lib.hid hsa.2
    clear ha hsa
    rcases hb : vW 8 b with _ | _
    · have Hb := Lib.hid hb
      have Bad : Hid (okF (comF a b) = false) := Lib.hid (okF_no (y := b) (by simp [comF]) hb)
      have Fin := Lib.hid (catF_no Bad.out)
      clear hb
      go_enter Try.func34, Try.ntmps34
      go_wp2_with fail
      refine (specIsWd A n c a w HX.out la hn).mono ?_
      rintro e w' ⟨rfl, rfl⟩
      rw [Ha.out]
      go_wp2_with fail
      refine (specIsWd B m d b w HY.out lb hm).mono ?_
      rintro e w' ⟨rfl, rfl⟩
      rw [Hb.out]
      go_wp2_with fail
      go_ret2
      exact ⟨_, 0, _, by rw [Bad.out]; try rfl, by rw [Fin.out]; exact Slc.lit0 w _ (Nat.le_refl _), by omega, (Below.refl _ _).alloc (Nat.le_refl _) _⟩
    · have Hb := Lib.hid hb
      have hsb := small_of hb lb.out
      have hnb := hsb.1
      have Hlb := Lib.hid hsb.2
      clear hb hsb
      go_enter Try.func34, Try.ntmps34
      go_wp2_with fail
      refine (specIsWd A n c a w HX.out la hn).mono ?_
      rintro e w' ⟨rfl, rfl⟩
      rw [Ha.out]
      go_wp2_with fail
      refine (specIsWd B m d b w HY.out lb hm).mono ?_
      rintro e w' ⟨rfl, rfl⟩
      rw [Hb.out]
      go_wp2_with fail
      refine (specInvW A n c a w HX.out la hna Hla).mono ?_
      rintro e w1 ⟨A1, c1, rfl, s1, b1⟩
      have S1 := Lib.hid s1
      have le1 := s1.le.1
      have B1 := Lib.hid b1
      clear s1 b1
      go_wp2_with fail
      refine (specInvW B m d b w1 (HY.out.up B1.out) lb hnb Hlb).mono ?_
      rintro e w2 ⟨A2, c2, rfl, s2, b2⟩
      have S2 := Lib.hid s2
      have le2 := s2.le.1
      have T1 := Lib.hid (S1.out.up b2)
      have B2 : Hid (Below w.heap.size w w2) := Lib.hid (btr B1.out b2)
      clear s2 b2
      have RL : Hid (RR (w2.alloc (.cells #[.slice A n c, .slice B m d, .slice A1 n c1, .slice A2 m c2] 25)) (w2.alloc (.cells #[.slice A n c, .slice B m d, .slice A1 n c1, .slice A2 m c2] 25)).heap.size (some ⟨w2.heap.size, 0, none⟩) 4 [(A, n, c), (B, m, d), (A1, n, c1), (A2, m, c2)] (comF a b)) := Lib.hid (rrLit w2 25 [(A, n, c), (B, m, d), (A1, n, c1), (A2, m, c2)] (comF a b) rfl
        (fun j hj => match j, hj with | 0, _ => HX.out.up B2.out | 1, _ => HY.out.up B2.out | 2, _ => T1.out.ri_ | 3, _ => S2.out.ri_) (fun j hj => match j, hj with | 0, _ => la.out | 1, _ => lb.out | 2, _ => T1.out.1 | 3, _ => S2.out.1) (fun j hj => match j, hj with | 0, _ => hc | 1, _ => hd | 2, _ => le1 | 3, _ => le2))
      have Ll : Hid (∀ i, i < 4 → (([(A, n, c), (B, m, d), (A1, n, c1), (A2, m, c2)] : List SV).getD i sd0).2.1 ≤ 2097152) := Lib.hid fun j hj => match j, hj with | 0, _ => hn | 1, _ => hm | 2, _ => hn | 3, _ => hm
      have hz := B2.out.size
      go_wp2_with fail
      refine (specConcat _ 4 4 _ _ _ RL.out (by omega) Ll).mono ?_
      rintro e w3 ⟨A3, n3, c3, rfl, s3, h3, b3⟩
      have S3 : Hid (Slc w3 w.heap.size A3 n3 c3 (catF (comF a b))) := Lib.hid (s3.mono (by simp; omega))
      have B3 : Hid (Below w.heap.size w w3) := Lib.hid (btr (B2.out.alloc hz _) b3)
      clear s3 b3
      go_wp2_with fail
      go_ret2
      exact ⟨A3, n3, c3, rfl, S3.out, h3, B3.out⟩

set_option maxHeartbeats 1600000 in
set_option maxRecDepth 100000 in
theorem specConjugateWord (A B : Option Addr) (c d n m : Nat) (a b : List Int) (w : World) (hx : RI w w.heap.size A a) (hy : RI w w.heap.size B b) (la : Hid (a.length = n)) (lb : Hid (b.length = m)) (hn : n ≤ 2097152) (hm : m ≤ 2097152) (hc : n ≤ c) (hd : m ≤ d) :
    Calls Try.prog 35 #[.slice A n c, .slice B m d] w fun e w' => ∃ A' n' c', e = .returned (.tuple #[.slice A' n' c', .bool (okF (cjgF a b))]) ∧ Slc w' w.heap.size A' n' c' (catF (cjgF a b)) ∧ n' ≤ 200 ∧ Below w.heap.size w w' := by
  have HX := Lib.hid hx
  have HY := Lib.hid hy
  clear hx hy
  rcases ha : vW 8 a with _ | _
  · have Ha := Lib.hid ha
    have Bad : Hid (okF (cjgF a b) = false) := Lib.hid (okF_no (y := a) (by simp [cjgF]) ha)
    have Fin := Lib.hid (catF_no Bad.out)
    clear ha
    go_enter Try.func35, Try.ntmps35
    go_wp2_with fail
    refine (specIsWd A n c a w HX.out la hn).mono ?_
    rintro e w' ⟨rfl, rfl⟩
    rw [Ha.out]
    go_wp2_with fail
    go_ret2
    exact ⟨_, 0, _, by rw [Bad.out]; try rfl, by rw [Fin.out]; exact Slc.lit0 w _ (Nat.le_refl _), by omega, (Below.refl _ _).alloc (Nat.le_refl _) _⟩
  · have Ha := Lib.hid ha
    have hsa := small_of ha la.out
    have hna := hsa.1
    have Hla := Lib.hid hsa.2
    clear ha hsa
    rcases hb : vW 8 b with _ | _
    · have Hb := Lib.hid hb
      have Bad : Hid (okF (cjgF a b) = false) := Lib.hid (okF_no (y := b) (by simp [cjgF]) hb)
      have Fin := Lib.hid (catF_no Bad.out)
      clear hb
      go_enter Try.func35, Try.ntmps35
      go_wp2_with fail
      refine (specIsWd A n c a w HX.out la hn).mono ?_
      rintro e w' ⟨rfl, rfl⟩
      rw [Ha.out]
      go_wp2_with fail
      refine (specIsWd B m d b w HY.out lb hm).mono ?_
      rintro e w' ⟨rfl, rfl⟩
      rw [Hb.out]
      go_wp2_with fail
      go_ret2
      exact ⟨_, 0, _, by rw [Bad.out]; try rfl, by rw [Fin.out]; exact Slc.lit0 w _ (Nat.le_refl _), by omega, (Below.refl _ _).alloc (Nat.le_refl _) _⟩
    · have Hb := Lib.hid hb
      have hsb := small_of hb lb.out
      have hnb := hsb.1
      have Hlb := Lib.hid hsb.2
      clear hb hsb
      go_enter Try.func35, Try.ntmps35
      go_wp2_with fail
      refine (specIsWd A n c a w HX.out la hn).mono ?_
      rintro e w' ⟨rfl, rfl⟩
      rw [Ha.out]
      go_wp2_with fail
      refine (specIsWd B m d b w HY.out lb hm).mono ?_
      rintro e w' ⟨rfl, rfl⟩
      rw [Hb.out]
      go_wp2_with fail
      refine (specInvW A n c a w HX.out la hna Hla).mono ?_
      rintro e w1 ⟨A1, c1, rfl, s1, b1⟩
      have S1 := Lib.hid s1
      have le1 := s1.le.1
      have B1 := Lib.hid b1
      clear s1 b1
      have B2 := Lib.hid B1.out
      have RL : Hid (RR (w1.alloc (.cells #[.slice A n c, .slice B m d, .slice A1 n c1] 25)) (w1.alloc (.cells #[.slice A n c, .slice B m d, .slice A1 n c1] 25)).heap.size (some ⟨w1.heap.size, 0, none⟩) 3 [(A, n, c), (B, m, d), (A1, n, c1)] (cjgF a b)) := Lib.hid (rrLit w1 25 [(A, n, c), (B, m, d), (A1, n, c1)] (cjgF a b) rfl
        (fun j hj => match j, hj with | 0, _ => HX.out.up B2.out | 1, _ => HY.out.up B2.out | 2, _ => S1.out.ri_) (fun j hj => match j, hj with | 0, _ => la.out | 1, _ => lb.out | 2, _ => S1.out.1) (fun j hj => match j, hj with | 0, _ => hc | 1, _ => hd | 2, _ => le1))
      have Ll : Hid (∀ i, i < 3 → (([(A, n, c), (B, m, d), (A1, n, c1)] : List SV).getD i sd0).2.1 ≤ 2097152) := Lib.hid fun j hj => match j, hj with | 0, _ => hn | 1, _ => hm | 2, _ => hn
      have hz := B2.out.size
      go_wp2_with fail
      refine (specConcat _ 3 3 _ _ _ RL.out (by omega) Ll).mono ?_
      rintro e w3 ⟨A3, n3, c3, rfl, s3, h3, b3⟩
      have S3 : Hid (Slc w3 w.heap.size A3 n3 c3 (catF (cjgF a b))) := Lib.hid (s3.mono (by simp; omega))
      have B3 : Hid (Below w.heap.size w w3) := Lib.hid (btr (B2.out.alloc hz _) b3)
      clear s3 b3
      go_wp2_with fail
      go_ret2
      exact ⟨A3, n3, c3, rfl, S3.out, h3, B3.out⟩

end Go.Proofs.Ytoaaoikmkomofaa

/- The program's ConcatWords, Commutator, ConjugateWord. Condition: at most 2097152 letters in a word, numbers of 64 bits. -/
namespace Go.Proofs.Ytoaaoikmkomofaa
open Go.RowKit

theorem VI.of_vW {g : Int} {w : List Int} (h : vW g w = true) : VI w := fun x hx => by have := (vW_iff.1 h).2 x hx; omega
theorem VI.invF (w : List Int) : VI (invF w) := by
  unfold Go.Proofs.Ytoaaoikmkomofaa.invF
  split
  · rename_i h; exact VI.of_vW (vW_iv h)
  · exact VI.nil_
theorem VI.redF (w : List Int) : VI (redF w) := by
  unfold Go.Proofs.Ytoaaoikmkomofaa.redF
  split
  · rename_i h; exact VI.of_vW (vW_red h)
  · exact VI.nil_
theorem VI.catF (xss : List (List Int)) : VI (catF xss) := by
  unfold Go.Proofs.Ytoaaoikmkomofaa.catF
  split
  · rename_i h
    unfold okF at h
    rw [Bool.and_eq_true, List.all_eq_true] at h
    intro x hx
    obtain ⟨y, hy, hxy⟩ := List.mem_flatten.1 hx
    exact VI.of_vW (h.1 y hy) x hxy
  · exact VI.nil_
/-- With the inverse of a word that is not valid in a list, another such word stands in it: the answer is the same. -/
theorem inv_com (a b : List Int) : okF [a, b, invF a, invF b] = okF (comF a b) ∧ catF [a, b, invF a, invF b] = catF (comF a b) := by
  rcases ha : vW 8 a with _ | _
  · have h1 : okF [a, b, invF a, invF b] = false := okF_no (y := a) (by simp) ha
    have h2 : okF (comF a b) = false := okF_no (y := a) (by simp [comF]) ha
    exact ⟨h1.trans h2.symm, (catF_no h1).trans (catF_no h2).symm⟩
  · rcases hb : vW 8 b with _ | _
    · have h1 : okF [a, b, invF a, invF b] = false := okF_no (y := b) (by simp) hb
      have h2 : okF (comF a b) = false := okF_no (y := b) (by simp [comF]) hb
      exact ⟨h1.trans h2.symm, (catF_no h1).trans (catF_no h2).symm⟩
    · unfold invF comF; rw [if_pos ha, if_pos hb]; exact ⟨rfl, rfl⟩
theorem inv_cjg (a b : List Int) : okF [a, b, invF a] = okF (cjgF a b) ∧ catF [a, b, invF a] = catF (cjgF a b) := by
  rcases ha : vW 8 a with _ | _
  · have h1 : okF [a, b, invF a] = false := okF_no (y := a) (by simp) ha
    have h2 : okF (cjgF a b) = false := okF_no (y := a) (by simp [cjgF]) ha
    exact ⟨h1.trans h2.symm, (catF_no h1).trans (catF_no h2).symm⟩
  · unfold invF cjgF; rw [if_pos ha]; exact ⟨rfl, rfl⟩

theorem implConcatWords (A B : Option Addr) (c d n m : Nat) (a b : List Int) (w : World) (hx : RI w w.heap.size A a) (hy : RI w w.heap.size B b) (la : Hid (a.length = n)) (lb : Hid (b.length = m)) (hn : n ≤ 2097152) (hm : m ≤ 2097152) (hc : n ≤ c) (hd : m ≤ d) (va : Hid (VI a)) (vb : Hid (VI b)) :
    Calls Try.prog 27 #[.slice A n c, .slice B m d] w fun e w' => ∃ A' n' c', e = .returned (.tuple #[.slice A' n' c', .bool (okF [a, b])]) ∧ Slc w' w.heap.size A' n' c' (catF [a, b]) ∧ n' ≤ 200 ∧ Below w.heap.size w w' := by
  have RL : Hid (RR (w.alloc (.cells #[.slice A n c, .slice B m d] 25)) (w.alloc (.cells #[.slice A n c, .slice B m d] 25)).heap.size (some ⟨w.heap.size, 0, none⟩) 2 [(A, n, c), (B, m, d)] [a, b]) := Lib.hid (rrLit w 25 [(A, n, c), (B, m, d)] [a, b] rfl
    (fun j hj => match j, hj with | 0, _ => hx | 1, _ => hy) (fun j hj => match j, hj with | 0, _ => la.out | 1, _ => lb.out) (fun j hj => match j, hj with | 0, _ => hc | 1, _ => hd))
  have Ll : Hid (∀ i, i < 2 → (([(A, n, c), (B, m, d)] : List SV).getD i sd0).2.1 ≤ 2097152) := Lib.hid fun j hj => match j, hj with | 0, _ => hn | 1, _ => hm
  have Lv : Hid (∀ i, i < 2 → VI (([a, b] : List (List Int)).getD i [])) := Lib.hid fun j hj => match j, hj with | 0, _ => va.out | 1, _ => vb.out
  clear hx hy
  go_enter Try.func27, Try.ntmps27
  go_wp2_with fail
  refine (implCat _ 2 2 _ _ _ RL.out (by omega) Ll Lv).mono ?_
  rintro e w1 ⟨A1, n1, c1, rfl, s1, h1, b1⟩
  have S1 : Hid (Slc w1 w.heap.size A1 n1 c1 (catF [a, b])) := Lib.hid (s1.mono (by simp))
  have B1 : Hid (Below w.heap.size w w1) := Lib.hid (btr ((Below.refl _ _).alloc (Nat.le_refl _) _) b1)
  clear s1 b1
  go_wp2_with fail
  go_ret2
  exact ⟨A1, n1, c1, rfl, S1.out, h1, B1.out⟩

set_option maxHeartbeats 1600000 in
set_option maxRecDepth 100000 in
theorem implCommutator (A B : Option Addr) (c d n m : Nat) (a b : List Int) (w : World) (hx : RI w w.heap.size A a) (hy : RI w w.heap.size B b) (la : Hid (a.length = n)) (lb : Hid (b.length = m)) (hn : n ≤ 2097152) (hm : m ≤ 2097152) (hc : n ≤ c) (hd : m ≤ d) (va : Hid (VI a)) (vb : Hid (VI b)) :
    Calls Try.prog 32 #[.slice A n c, .slice B m d] w fun e w' => ∃ A' n' c', e = .returned (.tuple #[.slice A' n' c', .bool (okF (comF a b))]) ∧ Slc w' w.heap.size A' n' c' (catF (comF a b)) ∧ n' ≤ 200 ∧ Below w.heap.size w w' := by
  rw [← (inv_com a b).1, ← (inv_com a b).2]
  have HX := Lib.hid hx
  have HY := Lib.hid hy
  clear hx hy
  go_enter Try.func32, Try.ntmps32
  go_wp2_with fail
  refine (implInvertWord A n c a w HX.out la hn va).mono ?_
  rintro e w1 ⟨A1, n1, c1, rfl, s1, h1, b1⟩
  have S1 := Lib.hid s1
  have le1 := s1.le.1
  have B1 := Lib.hid b1
  clear s1 b1
  go_wp2_with fail
  refine (implInvertWord B m d b w1 (HY.out.up B1.out) lb hm vb).mono ?_
  rintro e w2 ⟨A2, n2, c2, rfl, s2, h2, b2⟩
  have S2 := Lib.hid s2
  have le2 := s2.le.1
  have T1 := Lib.hid (S1.out.up b2)
  have B2 : Hid (Below w.heap.size w w2) := Lib.hid (btr B1.out b2)
  clear s2 b2
  have RL : Hid (RR (w2.alloc (.cells #[.slice A n c, .slice B m d, .slice A1 n1 c1, .slice A2 n2 c2] 25)) (w2.alloc (.cells #[.slice A n c, .slice B m d, .slice A1 n1 c1, .slice A2 n2 c2] 25)).heap.size (some ⟨w2.heap.size, 0, none⟩) 4 [(A, n, c), (B, m, d), (A1, n1, c1), (A2, n2, c2)] [a, b, invF a, invF b]) := Lib.hid (rrLit w2 25 [(A, n, c), (B, m, d), (A1, n1, c1), (A2, n2, c2)] [a, b, invF a, invF b] rfl (fun j hj => match j, hj with | 0, _ => HX.out.up B2.out | 1, _ => HY.out.up B2.out | 2, _ => T1.out.ri_ | 3, _ => S2.out.ri_) (fun j hj => match j, hj with | 0, _ => la.out | 1, _ => lb.out | 2, _ => T1.out.1 | 3, _ => S2.out.1) (fun j hj => match j, hj with | 0, _ => hc | 1, _ => hd | 2, _ => le1 | 3, _ => le2))
  have Ll : Hid (∀ i, i < 4 → (([(A, n, c), (B, m, d), (A1, n1, c1), (A2, n2, c2)] : List SV).getD i sd0).2.1 ≤ 2097152) := Lib.hid (fun j hj => match j, hj with | 0, _ => hn | 1, _ => hm | 2, _ => (by show n1 ≤ 2097152; omega) | 3, _ => (by show n2 ≤ 2097152; omega))
  have Lv : Hid (∀ i, i < 4 → VI (([a, b, invF a, invF b] : List (List Int)).getD i [])) := Lib.hid (fun j hj => match j, hj with | 0, _ => va.out | 1, _ => vb.out | 2, _ => VI.invF a | 3, _ => VI.invF b)
  have hz := B2.out.size
  go_wp2_with fail
  refine (implCat _ 4 4 _ _ _ RL.out (by omega) Ll Lv).mono ?_
  rintro e w3 ⟨A3, n3, c3, rfl, s3, h3, b3⟩
  have S3 : Hid (Slc w3 w.heap.size A3 n3 c3 (catF [a, b, invF a, invF b])) := Lib.hid (s3.mono (by simp; omega))
  have B3 : Hid (Below w.heap.size w w3) := Lib.hid (btr (B2.out.alloc hz _) b3)
  clear s3 b3
  go_wp2_with fail
  go_ret2
  exact ⟨A3, n3, c3, rfl, S3.out, h3, B3.out⟩

set_option maxHeartbeats 1600000 in
set_option maxRecDepth 100000 in
theorem implConjugateWord (A B : Option Addr) (c d n m : Nat) (a b : List Int) (w : World) (hx : RI w w.heap.size A a) (hy : RI w w.heap.size B b) (la : Hid (a.length = n)) (lb : Hid (b.length = m)) (hn : n ≤ 2097152) (hm : m ≤ 2097152) (hc : n ≤ c) (hd : m ≤ d) (va : Hid (VI a)) (vb : Hid (VI b)) :
    Calls Try.prog 33 #[.slice A n c, .slice B m d] w fun e w' => ∃ A' n' c', e = .returned (.tuple #[.slice A' n' c', .bool (okF (cjgF a b))]) ∧ Slc w' w.heap.size A' n' c' (catF (cjgF a b)) ∧ n' ≤ 200 ∧ Below w.heap.size w w' := by
  rw [← (inv_cjg a b).1, ← (inv_cjg a b).2]
  have HX := Lib.hid hx
  have HY := Lib.hid hy
  clear hx hy
  go_enter Try.func33, Try.ntmps33
  go_wp2_with fail
  refine (implInvertWord A n c a w HX.out la hn va).mono ?_
  rintro e w1 ⟨A1, n1, c1, rfl, s1, h1, b1⟩
  have S1 := Lib.hid s1
  have le1 := s1.le.1
  have B1 := Lib.hid b1
  clear s1 b1
  have B2 := Lib.hid B1.out
  have RL : Hid (RR (w1.alloc (.cells #[.slice A n c, .slice B m d, .slice A1 n1 c1] 25)) (w1.alloc (.cells #[.slice A n c, .slice B m d, .slice A1 n1 c1] 25)).heap.size (some ⟨w1.heap.size, 0, none⟩) 3 [(A, n, c), (B, m, d), (A1, n1, c1)] [a, b, invF a]) := Lib.hid (rrLit w1 25 [(A, n, c), (B, m, d), (A1, n1, c1)] [a, b, invF a] rfl (fun j hj => match j, hj with | 0, _ => HX.out.up B2.out | 1, _ => HY.out.up B2.out | 2, _ => S1.out.ri_) (fun j hj => match j, hj with | 0, _ => la.out | 1, _ => lb.out | 2, _ => S1.out.1) (fun j hj => match j, hj with | 0, _ => hc | 1, _ => hd | 2, _ => le1))
  have Ll : Hid (∀ i, i < 3 → (([(A, n, c), (B, m, d), (A1, n1, c1)] : List SV).getD i sd0).2.1 ≤ 2097152) := Lib.hid (fun j hj => match j, hj with | 0, _ => hn | 1, _ => hm | 2, _ => (by show n1 ≤ 2097152; omega))
  have Lv : Hid (∀ i, i < 3 → VI (([a, b, invF a] : List (List Int)).getD i [])) := Lib.hid (fun j hj => match j, hj with | 0, _ => va.out | 1, _ => vb.out | 2, _ => VI.invF a)
  have hz := B2.out.size
  go_wp2_with fail
  refine (implCat _ 3 3 _ _ _ RL.out (by omega) Ll Lv).mono ?_
  rintro e w3 ⟨A3, n3, c3, rfl, s3, h3, b3⟩
  have S3 : Hid (Slc w3 w.heap.size A3 n3 c3 (catF [a, b, invF a])) := Lib.hid (s3.mono (by simp; omega))
  have B3 : Hid (Below w.heap.size w w3) := Lib.hid (btr (B2.out.alloc hz _) b3)
  clear s3 b3
  go_wp2_with fail
  go_ret2
  exact ⟨A3, n3, c3, rfl, S3.out, h3, B3.out⟩

end Go.Proofs.Ytoaaoikmkomofaa

/- The walk of the law FnExactConcatWords: it returns true at every input, and writes nothing that was there. No condition. -/
namespace Go.Proofs.Ytoaaoikmkomofaa
open Go.RowKit

set_option maxHeartbeats 4000000 in
set_option maxRecDepth 100000 in
/-- The law FnExactConcatWords. -/
theorem lawConcatWords (s0A : Option Addr) (s0n s0c : Nat) (s0x : List Int) (s1A : Option Addr) (s1n s1c : Nat) (s1x : List Int) (w : World) (hs0 : RI w w.heap.size s0A s0x) (ls0 : Hid (s0x.length = s0n)) (vs0 : Hid (VI s0x)) (hs1 : RI w w.heap.size s1A s1x) (ls1 : Hid (s1x.length = s1n)) (vs1 : Hid (VI s1x)) :
    Calls Try.prog 10 #[.slice s0A s0n s0c, .slice s1A s1n s1c] w fun e w' => e = .returned (.bool true) ∧ Below w.heap.size w w' := by
  have Hs0 := Lib.hid hs0
  have Hs1 := Lib.hid hs1
  clear hs0 hs1
  by_cases hns0 : s0n ≤ 1048576
  · skip
    by_cases hns1 : s1n ≤ 1048576
    · skip
      go_enter Try.func10, Try.ntmps10
      go_wp2_with fail
      refine (toS_any s0A s0c s0n s0x w Hs0.out ls0 (by omega)).mono ?_
      rintro e w1 ⟨A1, c1, rfl, s1, b1⟩
      have B1 : Hid (Below w.heap.size w w1) := Lib.hid b1
      have Fts0_1 := Lib.hid s1
      have Lts0 := Lib.hid s1.lies
      have lets0 := s1.le.1
      clear s1 b1
      go_wp2_with fail
      refine (toS_any s1A s1c s1n s1x w1 (Hs1.out.up B1.out) ls1 (by omega)).mono ?_
      rintro e w2 ⟨A2, c2, rfl, s2, b2⟩
      have B1_2 : Hid (Below w1.heap.size w1 w2) := Lib.hid b2
      have B2 : Hid (Below w.heap.size w w2) := Lib.hid (btr B1.out b2)
      have Fts0_2 := Lib.hid (Fts0_1.out.up b2)
      clear Fts0_1
      have Fts1_2 := Lib.hid s2
      have Lts1 := Lib.hid s2.lies
      have lets1 := s2.le.1
      clear s2 b2
      go_wp2_with fail
      refine (specConcatWords _ _ _ _ _ _ s0x s1x w2 Fts0_2.out.ri_ Fts1_2.out.ri_ ls0 ls1 (by omega) (by omega) lets0 lets1).mono ?_
      rintro e w3 ⟨A3, n3, c3, rfl, s3, m3, b3⟩
      have B1_3 : Hid (Below w1.heap.size w1 w3) := Lib.hid (btr B1_2.out b3)
      have B2_3 : Hid (Below w2.heap.size w2 w3) := Lib.hid b3
      have B3 : Hid (Below w.heap.size w w3) := Lib.hid (btr B2.out b3)
      have Fts0_3 := Lib.hid (Fts0_2.out.up b3)
      clear Fts0_2
      have Fts1_3 := Lib.hid (Fts1_2.out.up b3)
      clear Fts1_2
      have FW_3 := Lib.hid s3
      have LW := Lib.hid s3.lies
      clear s3 b3
      clear Fts0_3
      clear Fts1_3
      go_wp2_with fail
      refine (toS_any s0A s0c s0n s0x w3 (Hs0.out.up B3.out) ls0 (by omega)).mono ?_
      rintro e w4 ⟨A4, c4, rfl, s4, b4⟩
      have B1_4 : Hid (Below w1.heap.size w1 w4) := Lib.hid (btr B1_3.out b4)
      have B2_4 : Hid (Below w2.heap.size w2 w4) := Lib.hid (btr B2_3.out b4)
      have B3_4 : Hid (Below w3.heap.size w3 w4) := Lib.hid b4
      have B4 : Hid (Below w.heap.size w w4) := Lib.hid (btr B3.out b4)
      have FW_4 := Lib.hid (FW_3.out.up b4)
      clear FW_3
      have Fxs0_4 := Lib.hid s4
      have Lxs0 := Lib.hid s4.lies
      have lexs0 := s4.le.1
      clear s4 b4
      go_wp2_with fail
      refine (toS_any s1A s1c s1n s1x w4 (Hs1.out.up B4.out) ls1 (by omega)).mono ?_
      rintro e w5 ⟨A5, c5, rfl, s5, b5⟩
      have B1_5 : Hid (Below w1.heap.size w1 w5) := Lib.hid (btr B1_4.out b5)
      have B2_5 : Hid (Below w2.heap.size w2 w5) := Lib.hid (btr B2_4.out b5)
      have B3_5 : Hid (Below w3.heap.size w3 w5) := Lib.hid (btr B3_4.out b5)
      have B4_5 : Hid (Below w4.heap.size w4 w5) := Lib.hid b5
      have B5 : Hid (Below w.heap.size w w5) := Lib.hid (btr B4.out b5)
      have FW_5 := Lib.hid (FW_4.out.up b5)
      clear FW_4
      have Fxs0_5 := Lib.hid (Fxs0_4.out.up b5)
      clear Fxs0_4
      have Fxs1_5 := Lib.hid s5
      have Lxs1 := Lib.hid s5.lies
      have lexs1 := s5.le.1
      clear s5 b5
      go_wp2_with fail
      refine (implConcatWords _ _ _ _ _ _ s0x s1x w5 Fxs0_5.out.ri_ Fxs1_5.out.ri_ ls0 ls1 (by omega) (by omega) lexs0 lexs1 vs0 vs1).mono ?_
      rintro e w6 ⟨A6, n6, c6, rfl, s6, m6, b6⟩
      have B1_6 : Hid (Below w1.heap.size w1 w6) := Lib.hid (btr B1_5.out b6)
      have B2_6 : Hid (Below w2.heap.size w2 w6) := Lib.hid (btr B2_5.out b6)
      have B3_6 : Hid (Below w3.heap.size w3 w6) := Lib.hid (btr B3_5.out b6)
      have B4_6 : Hid (Below w4.heap.size w4 w6) := Lib.hid (btr B4_5.out b6)
      have B5_6 : Hid (Below w5.heap.size w5 w6) := Lib.hid b6
      have B6 : Hid (Below w.heap.size w w6) := Lib.hid (btr B5.out b6)
      have FW_6 := Lib.hid (FW_5.out.up b6)
      clear FW_5
      have Fxs0_6 := Lib.hid (Fxs0_5.out.up b6)
      clear Fxs0_5
      have Fxs1_6 := Lib.hid (Fxs1_5.out.up b6)
      clear Fxs1_5
      have FG_6 := Lib.hid s6
      have LG := Lib.hid s6.lies
      clear s6 b6
      go_wp2_with fail
      refine (eqS_same _ _ A6 A3 n6 c6 n3 c3 w6 FG_6.out FW_6.out (by omega)).mono ?_
      rintro e w7 ⟨rfl, b7⟩
      have B1_7 : Hid (Below w1.heap.size w1 w7) := Lib.hid (btr B1_6.out b7)
      have B2_7 : Hid (Below w2.heap.size w2 w7) := Lib.hid (btr B2_6.out b7)
      have B3_7 : Hid (Below w3.heap.size w3 w7) := Lib.hid (btr B3_6.out b7)
      have B4_7 : Hid (Below w4.heap.size w4 w7) := Lib.hid (btr B4_6.out b7)
      have B5_7 : Hid (Below w5.heap.size w5 w7) := Lib.hid (btr B5_6.out b7)
      have B6_7 : Hid (Below w6.heap.size w6 w7) := Lib.hid b7
      have B7 : Hid (Below w.heap.size w w7) := Lib.hid (btr B6.out b7)
      have FW_7 := Lib.hid (FW_6.out.up b7)
      clear FW_6
      have Fxs0_7 := Lib.hid (Fxs0_6.out.up b7)
      clear Fxs0_6
      have Fxs1_7 := Lib.hid (Fxs1_6.out.up b7)
      clear Fxs1_6
      have FG_7 := Lib.hid (FG_6.out.up b7)
      clear FG_6
      clear b7
      go_wp2_with fail
      refine (toS_any s0A s0c s0n s0x w7 (Hs0.out.up B7.out) ls0 (by omega)).mono ?_
      rintro e w8 ⟨A8, c8, rfl, s8, b8⟩
      have B1_8 : Hid (Below w1.heap.size w1 w8) := Lib.hid (btr B1_7.out b8)
      have B2_8 : Hid (Below w2.heap.size w2 w8) := Lib.hid (btr B2_7.out b8)
      have B3_8 : Hid (Below w3.heap.size w3 w8) := Lib.hid (btr B3_7.out b8)
      have B4_8 : Hid (Below w4.heap.size w4 w8) := Lib.hid (btr B4_7.out b8)
      have B5_8 : Hid (Below w5.heap.size w5 w8) := Lib.hid (btr B5_7.out b8)
      have B6_8 : Hid (Below w6.heap.size w6 w8) := Lib.hid (btr B6_7.out b8)
      have B7_8 : Hid (Below w7.heap.size w7 w8) := Lib.hid b8
      have B8 : Hid (Below w.heap.size w w8) := Lib.hid (btr B7.out b8)
      have FW_8 := Lib.hid (FW_7.out.up b8)
      clear FW_7
      have Fxs0_8 := Lib.hid (Fxs0_7.out.up b8)
      clear Fxs0_7
      have Fxs1_8 := Lib.hid (Fxs1_7.out.up b8)
      clear Fxs1_7
      have FG_8 := Lib.hid (FG_7.out.up b8)
      clear FG_7
      have Fys0_8 := Lib.hid s8
      have Lys0 := Lib.hid s8.lies
      have leys0 := s8.le.1
      clear s8 b8
      go_wp2_with fail
      refine (eqS_same _ _ A4 A8 s0n c4 s0n c8 w8 Fxs0_8.out Fys0_8.out (by omega)).mono ?_
      rintro e w9 ⟨rfl, b9⟩
      have B1_9 : Hid (Below w1.heap.size w1 w9) := Lib.hid (btr B1_8.out b9)
      have B2_9 : Hid (Below w2.heap.size w2 w9) := Lib.hid (btr B2_8.out b9)
      have B3_9 : Hid (Below w3.heap.size w3 w9) := Lib.hid (btr B3_8.out b9)
      have B4_9 : Hid (Below w4.heap.size w4 w9) := Lib.hid (btr B4_8.out b9)
      have B5_9 : Hid (Below w5.heap.size w5 w9) := Lib.hid (btr B5_8.out b9)
      have B6_9 : Hid (Below w6.heap.size w6 w9) := Lib.hid (btr B6_8.out b9)
      have B7_9 : Hid (Below w7.heap.size w7 w9) := Lib.hid (btr B7_8.out b9)
      have B8_9 : Hid (Below w8.heap.size w8 w9) := Lib.hid b9
      have B9 : Hid (Below w.heap.size w w9) := Lib.hid (btr B8.out b9)
      have FW_9 := Lib.hid (FW_8.out.up b9)
      clear FW_8
      have Fxs0_9 := Lib.hid (Fxs0_8.out.up b9)
      clear Fxs0_8
      have Fxs1_9 := Lib.hid (Fxs1_8.out.up b9)
      clear Fxs1_8
      have FG_9 := Lib.hid (FG_8.out.up b9)
      clear FG_8
      have Fys0_9 := Lib.hid (Fys0_8.out.up b9)
      clear Fys0_8
      clear b9
      clear Fys0_9
      go_wp2_with fail
      refine (toS_any s1A s1c s1n s1x w9 (Hs1.out.up B9.out) ls1 (by omega)).mono ?_
      rintro e w10 ⟨A10, c10, rfl, s10, b10⟩
      have B1_10 : Hid (Below w1.heap.size w1 w10) := Lib.hid (btr B1_9.out b10)
      have B2_10 : Hid (Below w2.heap.size w2 w10) := Lib.hid (btr B2_9.out b10)
      have B3_10 : Hid (Below w3.heap.size w3 w10) := Lib.hid (btr B3_9.out b10)
      have B4_10 : Hid (Below w4.heap.size w4 w10) := Lib.hid (btr B4_9.out b10)
      have B5_10 : Hid (Below w5.heap.size w5 w10) := Lib.hid (btr B5_9.out b10)
      have B6_10 : Hid (Below w6.heap.size w6 w10) := Lib.hid (btr B6_9.out b10)
      have B7_10 : Hid (Below w7.heap.size w7 w10) := Lib.hid (btr B7_9.out b10)
      have B8_10 : Hid (Below w8.heap.size w8 w10) := Lib.hid (btr B8_9.out b10)
      have B9_10 : Hid (Below w9.heap.size w9 w10) := Lib.hid b10
      have B10 : Hid (Below w.heap.size w w10) := Lib.hid (btr B9.out b10)
      have FW_10 := Lib.hid (FW_9.out.up b10)
      clear FW_9
      have Fxs0_10 := Lib.hid (Fxs0_9.out.up b10)
      clear Fxs0_9
      have Fxs1_10 := Lib.hid (Fxs1_9.out.up b10)
      clear Fxs1_9
      have FG_10 := Lib.hid (FG_9.out.up b10)
      clear FG_9
      have Fys1_10 := Lib.hid s10
      have Lys1 := Lib.hid s10.lies
      have leys1 := s10.le.1
      clear s10 b10
      go_wp2_with fail
      refine (eqS_same _ _ A5 A10 s1n c5 s1n c10 w10 Fxs1_10.out Fys1_10.out (by omega)).mono ?_
      rintro e w11 ⟨rfl, b11⟩
      have B1_11 : Hid (Below w1.heap.size w1 w11) := Lib.hid (btr B1_10.out b11)
      have B2_11 : Hid (Below w2.heap.size w2 w11) := Lib.hid (btr B2_10.out b11)
      have B3_11 : Hid (Below w3.heap.size w3 w11) := Lib.hid (btr B3_10.out b11)
      have B4_11 : Hid (Below w4.heap.size w4 w11) := Lib.hid (btr B4_10.out b11)
      have B5_11 : Hid (Below w5.heap.size w5 w11) := Lib.hid (btr B5_10.out b11)
      have B6_11 : Hid (Below w6.heap.size w6 w11) := Lib.hid (btr B6_10.out b11)
      have B7_11 : Hid (Below w7.heap.size w7 w11) := Lib.hid (btr B7_10.out b11)
      have B8_11 : Hid (Below w8.heap.size w8 w11) := Lib.hid (btr B8_10.out b11)
      have B9_11 : Hid (Below w9.heap.size w9 w11) := Lib.hid (btr B9_10.out b11)
      have B10_11 : Hid (Below w10.heap.size w10 w11) := Lib.hid b11
      have B11 : Hid (Below w.heap.size w w11) := Lib.hid (btr B10.out b11)
      have FW_11 := Lib.hid (FW_10.out.up b11)
      clear FW_10
      have Fxs0_11 := Lib.hid (Fxs0_10.out.up b11)
      clear Fxs0_10
      have Fxs1_11 := Lib.hid (Fxs1_10.out.up b11)
      clear Fxs1_10
      have FG_11 := Lib.hid (FG_10.out.up b11)
      clear FG_10
      have Fys1_11 := Lib.hid (Fys1_10.out.up b11)
      clear Fys1_10
      clear b11
      clear Fys1_11
      go_wp2_with fail
      refine (markK _ (1) _ A4 s0n c4 _ w11 Fxs0_11.out (by omega) (by omega) (by omega)).mono ?_
      rintro e w12 ⟨rfl, s12, g12⟩
      have B12 : Hid (Below w.heap.size w w12) := Lib.hid (B11.out.trans (below_mark g12 Lxs0.out B3.out.size B11.out.size))
      have FW_12 := Lib.hid (FW_11.out.far g12 LW.out Lxs0.out (.inl (Nat.le_refl _)))
      clear FW_11
      have Fxs0_12 := Lib.hid s12
      clear Fxs0_11
      have Fxs1_12 := Lib.hid (Fxs1_11.out.far g12 Lxs1.out Lxs0.out (.inr (Nat.le_refl _)))
      clear Fxs1_11
      have FG_12 := Lib.hid (FG_11.out.far g12 LG.out Lxs0.out (.inr (B4_5.out.size)))
      clear FG_11
      clear s12 g12
      go_wp2_with fail
      refine (markK _ (1 + s0n) _ A5 s1n c5 _ w12 Fxs1_12.out (by omega) (by omega) (by omega)).mono ?_
      rintro e w13 ⟨rfl, s13, g13⟩
      have B13 : Hid (Below w.heap.size w w13) := Lib.hid (B12.out.trans (below_mark g13 Lxs1.out B4.out.size B12.out.size))
      have FW_13 := Lib.hid (FW_12.out.far g13 LW.out Lxs1.out (.inl (B3_4.out.size)))
      clear FW_12
      have Fxs0_13 := Lib.hid (Fxs0_12.out.far g13 Lxs0.out Lxs1.out (.inl (Nat.le_refl _)))
      clear Fxs0_12
      have Fxs1_13 := Lib.hid s13
      clear Fxs1_12
      have FG_13 := Lib.hid (FG_12.out.far g13 LG.out Lxs1.out (.inr (Nat.le_refl _)))
      clear FG_12
      clear s13 g13
      go_wp2_with fail
      refine (eqS_same _ _ A6 A3 n6 c6 n3 c3 w13 FG_13.out FW_13.out (by omega)).mono ?_
      rintro e w14 ⟨rfl, b14⟩
      have B14 : Hid (Below w.heap.size w w14) := Lib.hid (btr B13.out b14)
      have FW_14 := Lib.hid (FW_13.out.up b14)
      clear FW_13
      have Fxs0_14 := Lib.hid (Fxs0_13.out.up b14)
      clear Fxs0_13
      have Fxs1_14 := Lib.hid (Fxs1_13.out.up b14)
      clear Fxs1_13
      have FG_14 := Lib.hid (FG_13.out.up b14)
      clear FG_13
      clear b14
      clear Fxs0_14
      clear Fxs1_14
      go_wp2_with fail
      refine (markK _ (1) _ A6 n6 c6 _ w14 FG_14.out (by omega) (by omega) (by omega)).mono ?_
      rintro e w15 ⟨rfl, s15, g15⟩
      have B15 : Hid (Below w.heap.size w w15) := Lib.hid (B14.out.trans (below_mark g15 LG.out B5.out.size B14.out.size))
      have FW_15 := Lib.hid (FW_14.out.far g15 LW.out LG.out (.inl (B3_5.out.size)))
      clear FW_14
      have FG_15 := Lib.hid s15
      clear FG_14
      clear s15 g15
      go_wp2_with fail
      refine (held1 _ A6 n6 c6 w15 FG_15.out (by omega)).mono ?_
      rintro e w' ⟨rfl, rfl⟩
      go_wp2_with fail
      refine (toS_any s0A s0c s0n s0x w15 (Hs0.out.up B15.out) ls0 (by omega)).mono ?_
      rintro e w16 ⟨A16, c16, rfl, s16, b16⟩
      have B16 : Hid (Below w.heap.size w w16) := Lib.hid (btr B15.out b16)
      have FW_16 := Lib.hid (FW_15.out.up b16)
      clear FW_15
      have FG_16 := Lib.hid (FG_15.out.up b16)
      clear FG_15
      have Fzs0_16 := Lib.hid s16
      have Lzs0 := Lib.hid s16.lies
      have lezs0 := s16.le.1
      clear s16 b16
      go_wp2_with fail
      refine (toS_any s1A s1c s1n s1x w16 (Hs1.out.up B16.out) ls1 (by omega)).mono ?_
      rintro e w17 ⟨A17, c17, rfl, s17, b17⟩
      have B16_17 : Hid (Below w16.heap.size w16 w17) := Lib.hid b17
      have B17 : Hid (Below w.heap.size w w17) := Lib.hid (btr B16.out b17)
      have FW_17 := Lib.hid (FW_16.out.up b17)
      clear FW_16
      have FG_17 := Lib.hid (FG_16.out.up b17)
      clear FG_16
      have Fzs0_17 := Lib.hid (Fzs0_16.out.up b17)
      clear Fzs0_16
      have Fzs1_17 := Lib.hid s17
      have Lzs1 := Lib.hid s17.lies
      have lezs1 := s17.le.1
      clear s17 b17
      go_wp2_with fail
      refine (implConcatWords _ _ _ _ _ _ s0x s1x w17 Fzs0_17.out.ri_ Fzs1_17.out.ri_ ls0 ls1 (by omega) (by omega) lezs0 lezs1 vs0 vs1).mono ?_
      rintro e w18 ⟨A18, n18, c18, rfl, s18, m18, b18⟩
      have B16_18 : Hid (Below w16.heap.size w16 w18) := Lib.hid (btr B16_17.out b18)
      have B17_18 : Hid (Below w17.heap.size w17 w18) := Lib.hid b18
      have B18 : Hid (Below w.heap.size w w18) := Lib.hid (btr B17.out b18)
      have FW_18 := Lib.hid (FW_17.out.up b18)
      clear FW_17
      have FG_18 := Lib.hid (FG_17.out.up b18)
      clear FG_17
      have Fzs0_18 := Lib.hid (Fzs0_17.out.up b18)
      clear Fzs0_17
      have Fzs1_18 := Lib.hid (Fzs1_17.out.up b18)
      clear Fzs1_17
      have FH_18 := Lib.hid s18
      have LH := Lib.hid s18.lies
      clear s18 b18
      clear Fzs0_18
      clear Fzs1_18
      go_wp2_with fail
      refine (eqS_same _ _ A18 A3 n18 c18 n3 c3 w18 FH_18.out FW_18.out (by omega)).mono ?_
      rintro e w19 ⟨rfl, b19⟩
      have B16_19 : Hid (Below w16.heap.size w16 w19) := Lib.hid (btr B16_18.out b19)
      have B17_19 : Hid (Below w17.heap.size w17 w19) := Lib.hid (btr B17_18.out b19)
      have B18_19 : Hid (Below w18.heap.size w18 w19) := Lib.hid b19
      have B19 : Hid (Below w.heap.size w w19) := Lib.hid (btr B18.out b19)
      have FW_19 := Lib.hid (FW_18.out.up b19)
      clear FW_18
      have FG_19 := Lib.hid (FG_18.out.up b19)
      clear FG_18
      have FH_19 := Lib.hid (FH_18.out.up b19)
      clear FH_18
      clear b19
      go_wp2_with fail
      refine (held1 _ A6 n6 c6 w19 FG_19.out (by omega)).mono ?_
      rintro e w' ⟨rfl, rfl⟩
      go_wp2_with fail
      go_ret
      exact ⟨rfl, B19.out⟩
    · have d1 : decide ((1048576 : Int) < s1n) = true := by simp; omega
      go_enter Try.func10, Try.ntmps10
      go_wp2
      go_ret
      exact ⟨rfl, Below.refl _ _⟩
  · have d1 : decide ((1048576 : Int) < s0n) = true := by simp; omega
    go_enter Try.func10, Try.ntmps10
    go_wp2
    go_ret
    exact ⟨rfl, Below.refl _ _⟩
end Go.Proofs.Ytoaaoikmkomofaa

/- The walk of the law FnExactCommutator: it returns true at every input, and writes nothing that was there. No condition. -/
namespace Go.Proofs.Ytoaaoikmkomofaa
open Go.RowKit

set_option maxHeartbeats 4000000 in
set_option maxRecDepth 100000 in
/-- The law FnExactCommutator. -/
theorem lawCommutator (s0A : Option Addr) (s0n s0c : Nat) (s0x : List Int) (s1A : Option Addr) (s1n s1c : Nat) (s1x : List Int) (w : World) (hs0 : RI w w.heap.size s0A s0x) (ls0 : Hid (s0x.length = s0n)) (vs0 : Hid (VI s0x)) (hs1 : RI w w.heap.size s1A s1x) (ls1 : Hid (s1x.length = s1n)) (vs1 : Hid (VI s1x)) :
    Calls Try.prog 12 #[.slice s0A s0n s0c, .slice s1A s1n s1c] w fun e w' => e = .returned (.bool true) ∧ Below w.heap.size w w' := by
  have Hs0 := Lib.hid hs0
  have Hs1 := Lib.hid hs1
  clear hs0 hs1
  by_cases hns0 : s0n ≤ 1048576
  · skip
    by_cases hns1 : s1n ≤ 1048576
    · skip
      go_enter Try.func12, Try.ntmps12
      go_wp2_with fail
      refine (toS_any s0A s0c s0n s0x w Hs0.out ls0 (by omega)).mono ?_
      rintro e w1 ⟨A1, c1, rfl, s1, b1⟩
      have B1 : Hid (Below w.heap.size w w1) := Lib.hid b1
      have Fts0_1 := Lib.hid s1
      have Lts0 := Lib.hid s1.lies
      have lets0 := s1.le.1
      clear s1 b1
      go_wp2_with fail
      refine (toS_any s1A s1c s1n s1x w1 (Hs1.out.up B1.out) ls1 (by omega)).mono ?_
      rintro e w2 ⟨A2, c2, rfl, s2, b2⟩
      have B1_2 : Hid (Below w1.heap.size w1 w2) := Lib.hid b2
      have B2 : Hid (Below w.heap.size w w2) := Lib.hid (btr B1.out b2)
      have Fts0_2 := Lib.hid (Fts0_1.out.up b2)
      clear Fts0_1
      have Fts1_2 := Lib.hid s2
      have Lts1 := Lib.hid s2.lies
      have lets1 := s2.le.1
      clear s2 b2
      go_wp2_with fail
      refine (specCommutator _ _ _ _ _ _ s0x s1x w2 Fts0_2.out.ri_ Fts1_2.out.ri_ ls0 ls1 (by omega) (by omega) lets0 lets1).mono ?_
      rintro e w3 ⟨A3, n3, c3, rfl, s3, m3, b3⟩
      have B1_3 : Hid (Below w1.heap.size w1 w3) := Lib.hid (btr B1_2.out b3)
      have B2_3 : Hid (Below w2.heap.size w2 w3) := Lib.hid b3
      have B3 : Hid (Below w.heap.size w w3) := Lib.hid (btr B2.out b3)
      have Fts0_3 := Lib.hid (Fts0_2.out.up b3)
      clear Fts0_2
      have Fts1_3 := Lib.hid (Fts1_2.out.up b3)
      clear Fts1_2
      have FW_3 := Lib.hid s3
      have LW := Lib.hid s3.lies
      clear s3 b3
      clear Fts0_3
      clear Fts1_3
      go_wp2_with fail
      refine (toS_any s0A s0c s0n s0x w3 (Hs0.out.up B3.out) ls0 (by omega)).mono ?_
      rintro e w4 ⟨A4, c4, rfl, s4, b4⟩
      have B1_4 : Hid (Below w1.heap.size w1 w4) := Lib.hid (btr B1_3.out b4)
      have B2_4 : Hid (Below w2.heap.size w2 w4) := Lib.hid (btr B2_3.out b4)
      have B3_4 : Hid (Below w3.heap.size w3 w4) := Lib.hid b4
      have B4 : Hid (Below w.heap.size w w4) := Lib.hid (btr B3.out b4)
      have FW_4 := Lib.hid (FW_3.out.up b4)
      clear FW_3
      have Fxs0_4 := Lib.hid s4
      have Lxs0 := Lib.hid s4.lies
      have lexs0 := s4.le.1
      clear s4 b4
      go_wp2_with fail
      refine (toS_any s1A s1c s1n s1x w4 (Hs1.out.up B4.out) ls1 (by omega)).mono ?_
      rintro e w5 ⟨A5, c5, rfl, s5, b5⟩
      have B1_5 : Hid (Below w1.heap.size w1 w5) := Lib.hid (btr B1_4.out b5)
      have B2_5 : Hid (Below w2.heap.size w2 w5) := Lib.hid (btr B2_4.out b5)
      have B3_5 : Hid (Below w3.heap.size w3 w5) := Lib.hid (btr B3_4.out b5)
      have B4_5 : Hid (Below w4.heap.size w4 w5) := Lib.hid b5
      have B5 : Hid (Below w.heap.size w w5) := Lib.hid (btr B4.out b5)
      have FW_5 := Lib.hid (FW_4.out.up b5)
      clear FW_4
      have Fxs0_5 := Lib.hid (Fxs0_4.out.up b5)
      clear Fxs0_4
      have Fxs1_5 := Lib.hid s5
      have Lxs1 := Lib.hid s5.lies
      have lexs1 := s5.le.1
      clear s5 b5
      go_wp2_with fail
      refine (implCommutator _ _ _ _ _ _ s0x s1x w5 Fxs0_5.out.ri_ Fxs1_5.out.ri_ ls0 ls1 (by omega) (by omega) lexs0 lexs1 vs0 vs1).mono ?_
      rintro e w6 ⟨A6, n6, c6, rfl, s6, m6, b6⟩
      have B1_6 : Hid (Below w1.heap.size w1 w6) := Lib.hid (btr B1_5.out b6)
      have B2_6 : Hid (Below w2.heap.size w2 w6) := Lib.hid (btr B2_5.out b6)
      have B3_6 : Hid (Below w3.heap.size w3 w6) := Lib.hid (btr B3_5.out b6)
      have B4_6 : Hid (Below w4.heap.size w4 w6) := Lib.hid (btr B4_5.out b6)
      have B5_6 : Hid (Below w5.heap.size w5 w6) := Lib.hid b6
      have B6 : Hid (Below w.heap.size w w6) := Lib.hid (btr B5.out b6)
      have FW_6 := Lib.hid (FW_5.out.up b6)
      clear FW_5
      have Fxs0_6 := Lib.hid (Fxs0_5.out.up b6)
      clear Fxs0_5
      have Fxs1_6 := Lib.hid (Fxs1_5.out.up b6)
      clear Fxs1_5
      have FG_6 := Lib.hid s6
      have LG := Lib.hid s6.lies
      clear s6 b6
      go_wp2_with fail
      refine (eqS_same _ _ A6 A3 n6 c6 n3 c3 w6 FG_6.out FW_6.out (by omega)).mono ?_
      rintro e w7 ⟨rfl, b7⟩
      have B1_7 : Hid (Below w1.heap.size w1 w7) := Lib.hid (btr B1_6.out b7)
      have B2_7 : Hid (Below w2.heap.size w2 w7) := Lib.hid (btr B2_6.out b7)
      have B3_7 : Hid (Below w3.heap.size w3 w7) := Lib.hid (btr B3_6.out b7)
      have B4_7 : Hid (Below w4.heap.size w4 w7) := Lib.hid (btr B4_6.out b7)
      have B5_7 : Hid (Below w5.heap.size w5 w7) := Lib.hid (btr B5_6.out b7)
      have B6_7 : Hid (Below w6.heap.size w6 w7) := Lib.hid b7
      have B7 : Hid (Below w.heap.size w w7) := Lib.hid (btr B6.out b7)
      have FW_7 := Lib.hid (FW_6.out.up b7)
      clear FW_6
      have Fxs0_7 := Lib.hid (Fxs0_6.out.up b7)
      clear Fxs0_6
      have Fxs1_7 := Lib.hid (Fxs1_6.out.up b7)
      clear Fxs1_6
      have FG_7 := Lib.hid (FG_6.out.up b7)
      clear FG_6
      clear b7
      go_wp2_with fail
      refine (toS_any s0A s0c s0n s0x w7 (Hs0.out.up B7.out) ls0 (by omega)).mono ?_
      rintro e w8 ⟨A8, c8, rfl, s8, b8⟩
      have B1_8 : Hid (Below w1.heap.size w1 w8) := Lib.hid (btr B1_7.out b8)
      have B2_8 : Hid (Below w2.heap.size w2 w8) := Lib.hid (btr B2_7.out b8)
      have B3_8 : Hid (Below w3.heap.size w3 w8) := Lib.hid (btr B3_7.out b8)
      have B4_8 : Hid (Below w4.heap.size w4 w8) := Lib.hid (btr B4_7.out b8)
      have B5_8 : Hid (Below w5.heap.size w5 w8) := Lib.hid (btr B5_7.out b8)
      have B6_8 : Hid (Below w6.heap.size w6 w8) := Lib.hid (btr B6_7.out b8)
      have B7_8 : Hid (Below w7.heap.size w7 w8) := Lib.hid b8
      have B8 : Hid (Below w.heap.size w w8) := Lib.hid (btr B7.out b8)
      have FW_8 := Lib.hid (FW_7.out.up b8)
      clear FW_7
      have Fxs0_8 := Lib.hid (Fxs0_7.out.up b8)
      clear Fxs0_7
      have Fxs1_8 := Lib.hid (Fxs1_7.out.up b8)
      clear Fxs1_7
      have FG_8 := Lib.hid (FG_7.out.up b8)
      clear FG_7
      have Fys0_8 := Lib.hid s8
      have Lys0 := Lib.hid s8.lies
      have leys0 := s8.le.1
      clear s8 b8
      go_wp2_with fail
      refine (eqS_same _ _ A4 A8 s0n c4 s0n c8 w8 Fxs0_8.out Fys0_8.out (by omega)).mono ?_
      rintro e w9 ⟨rfl, b9⟩
      have B1_9 : Hid (Below w1.heap.size w1 w9) := Lib.hid (btr B1_8.out b9)
      have B2_9 : Hid (Below w2.heap.size w2 w9) := Lib.hid (btr B2_8.out b9)
      have B3_9 : Hid (Below w3.heap.size w3 w9) := Lib.hid (btr B3_8.out b9)
      have B4_9 : Hid (Below w4.heap.size w4 w9) := Lib.hid (btr B4_8.out b9)
      have B5_9 : Hid (Below w5.heap.size w5 w9) := Lib.hid (btr B5_8.out b9)
      have B6_9 : Hid (Below w6.heap.size w6 w9) := Lib.hid (btr B6_8.out b9)
      have B7_9 : Hid (Below w7.heap.size w7 w9) := Lib.hid (btr B7_8.out b9)
      have B8_9 : Hid (Below w8.heap.size w8 w9) := Lib.hid b9
      have B9 : Hid (Below w.heap.size w w9) := Lib.hid (btr B8.out b9)
      have FW_9 := Lib.hid (FW_8.out.up b9)
      clear FW_8
      have Fxs0_9 := Lib.hid (Fxs0_8.out.up b9)
      clear Fxs0_8
      have Fxs1_9 := Lib.hid (Fxs1_8.out.up b9)
      clear Fxs1_8
      have FG_9 := Lib.hid (FG_8.out.up b9)
      clear FG_8
      have Fys0_9 := Lib.hid (Fys0_8.out.up b9)
      clear Fys0_8
      clear b9
      clear Fys0_9
      go_wp2_with fail
      refine (toS_any s1A s1c s1n s1x w9 (Hs1.out.up B9.out) ls1 (by omega)).mono ?_
      rintro e w10 ⟨A10, c10, rfl, s10, b10⟩
      have B1_10 : Hid (Below w1.heap.size w1 w10) := Lib.hid (btr B1_9.out b10)
      have B2_10 : Hid (Below w2.heap.size w2 w10) := Lib.hid (btr B2_9.out b10)
      have B3_10 : Hid (Below w3.heap.size w3 w10) := Lib.hid (btr B3_9.out b10)
      have B4_10 : Hid (Below w4.heap.size w4 w10) := Lib.hid (btr B4_9.out b10)
      have B5_10 : Hid (Below w5.heap.size w5 w10) := Lib.hid (btr B5_9.out b10)
      have B6_10 : Hid (Below w6.heap.size w6 w10) := Lib.hid (btr B6_9.out b10)
      have B7_10 : Hid (Below w7.heap.size w7 w10) := Lib.hid (btr B7_9.out b10)
      have B8_10 : Hid (Below w8.heap.size w8 w10) := Lib.hid (btr B8_9.out b10)
      have B9_10 : Hid (Below w9.heap.size w9 w10) := Lib.hid b10
      have B10 : Hid (Below w.heap.size w w10) := Lib.hid (btr B9.out b10)
      have FW_10 := Lib.hid (FW_9.out.up b10)
      clear FW_9
      have Fxs0_10 := Lib.hid (Fxs0_9.out.up b10)
      clear Fxs0_9
      have Fxs1_10 := Lib.hid (Fxs1_9.out.up b10)
      clear Fxs1_9
      have FG_10 := Lib.hid (FG_9.out.up b10)
      clear FG_9
      have Fys1_10 := Lib.hid s10
      have Lys1 := Lib.hid s10.lies
      have leys1 := s10.le.1
      clear s10 b10
      go_wp2_with fail
      refine (eqS_same _ _ A5 A10 s1n c5 s1n c10 w10 Fxs1_10.out Fys1_10.out (by omega)).mono ?_
      rintro e w11 ⟨rfl, b11⟩
      have B1_11 : Hid (Below w1.heap.size w1 w11) := Lib.hid (btr B1_10.out b11)
      have B2_11 : Hid (Below w2.heap.size w2 w11) := Lib.hid (btr B2_10.out b11)
      have B3_11 : Hid (Below w3.heap.size w3 w11) := Lib.hid (btr B3_10.out b11)
      have B4_11 : Hid (Below w4.heap.size w4 w11) := Lib.hid (btr B4_10.out b11)
      have B5_11 : Hid (Below w5.heap.size w5 w11) := Lib.hid (btr B5_10.out b11)
      have B6_11 : Hid (Below w6.heap.size w6 w11) := Lib.hid (btr B6_10.out b11)
      have B7_11 : Hid (Below w7.heap.size w7 w11) := Lib.hid (btr B7_10.out b11)
      have B8_11 : Hid (Below w8.heap.size w8 w11) := Lib.hid (btr B8_10.out b11)
      have B9_11 : Hid (Below w9.heap.size w9 w11) := Lib.hid (btr B9_10.out b11)
      have B10_11 : Hid (Below w10.heap.size w10 w11) := Lib.hid b11
      have B11 : Hid (Below w.heap.size w w11) := Lib.hid (btr B10.out b11)
      have FW_11 := Lib.hid (FW_10.out.up b11)
      clear FW_10
      have Fxs0_11 := Lib.hid (Fxs0_10.out.up b11)
      clear Fxs0_10
      have Fxs1_11 := Lib.hid (Fxs1_10.out.up b11)
      clear Fxs1_10
      have FG_11 := Lib.hid (FG_10.out.up b11)
      clear FG_10
      have Fys1_11 := Lib.hid (Fys1_10.out.up b11)
      clear Fys1_10
      clear b11
      clear Fys1_11
      go_wp2_with fail
      refine (markK _ (1) _ A4 s0n c4 _ w11 Fxs0_11.out (by omega) (by omega) (by omega)).mono ?_
      rintro e w12 ⟨rfl, s12, g12⟩
      have B12 : Hid (Below w.heap.size w w12) := Lib.hid (B11.out.trans (below_mark g12 Lxs0.out B3.out.size B11.out.size))
      have FW_12 := Lib.hid (FW_11.out.far g12 LW.out Lxs0.out (.inl (Nat.le_refl _)))
      clear FW_11
      have Fxs0_12 := Lib.hid s12
      clear Fxs0_11
      have Fxs1_12 := Lib.hid (Fxs1_11.out.far g12 Lxs1.out Lxs0.out (.inr (Nat.le_refl _)))
      clear Fxs1_11
      have FG_12 := Lib.hid (FG_11.out.far g12 LG.out Lxs0.out (.inr (B4_5.out.size)))
      clear FG_11
      clear s12 g12
      go_wp2_with fail
      refine (markK _ (1 + s0n) _ A5 s1n c5 _ w12 Fxs1_12.out (by omega) (by omega) (by omega)).mono ?_
      rintro e w13 ⟨rfl, s13, g13⟩
      have B13 : Hid (Below w.heap.size w w13) := Lib.hid (B12.out.trans (below_mark g13 Lxs1.out B4.out.size B12.out.size))
      have FW_13 := Lib.hid (FW_12.out.far g13 LW.out Lxs1.out (.inl (B3_4.out.size)))
      clear FW_12
      have Fxs0_13 := Lib.hid (Fxs0_12.out.far g13 Lxs0.out Lxs1.out (.inl (Nat.le_refl _)))
      clear Fxs0_12
      have Fxs1_13 := Lib.hid s13
      clear Fxs1_12
      have FG_13 := Lib.hid (FG_12.out.far g13 LG.out Lxs1.out (.inr (Nat.le_refl _)))
      clear FG_12
      clear s13 g13
      go_wp2_with fail
      refine (eqS_same _ _ A6 A3 n6 c6 n3 c3 w13 FG_13.out FW_13.out (by omega)).mono ?_
      rintro e w14 ⟨rfl, b14⟩
      have B14 : Hid (Below w.heap.size w w14) := Lib.hid (btr B13.out b14)
      have FW_14 := Lib.hid (FW_13.out.up b14)
      clear FW_13
      have Fxs0_14 := Lib.hid (Fxs0_13.out.up b14)
      clear Fxs0_13
      have Fxs1_14 := Lib.hid (Fxs1_13.out.up b14)
      clear Fxs1_13
      have FG_14 := Lib.hid (FG_13.out.up b14)
      clear FG_13
      clear b14
      clear Fxs0_14
      clear Fxs1_14
      go_wp2_with fail
      refine (markK _ (1) _ A6 n6 c6 _ w14 FG_14.out (by omega) (by omega) (by omega)).mono ?_
      rintro e w15 ⟨rfl, s15, g15⟩
      have B15 : Hid (Below w.heap.size w w15) := Lib.hid (B14.out.trans (below_mark g15 LG.out B5.out.size B14.out.size))
      have FW_15 := Lib.hid (FW_14.out.far g15 LW.out LG.out (.inl (B3_5.out.size)))
      clear FW_14
      have FG_15 := Lib.hid s15
      clear FG_14
      clear s15 g15
      go_wp2_with fail
      refine (held1 _ A6 n6 c6 w15 FG_15.out (by omega)).mono ?_
      rintro e w' ⟨rfl, rfl⟩
      go_wp2_with fail
      refine (toS_any s0A s0c s0n s0x w15 (Hs0.out.up B15.out) ls0 (by omega)).mono ?_
      rintro e w16 ⟨A16, c16, rfl, s16, b16⟩
      have B16 : Hid (Below w.heap.size w w16) := Lib.hid (btr B15.out b16)
      have FW_16 := Lib.hid (FW_15.out.up b16)
      clear FW_15
      have FG_16 := Lib.hid (FG_15.out.up b16)
      clear FG_15
      have Fzs0_16 := Lib.hid s16
      have Lzs0 := Lib.hid s16.lies
      have lezs0 := s16.le.1
      clear s16 b16
      go_wp2_with fail
      refine (toS_any s1A s1c s1n s1x w16 (Hs1.out.up B16.out) ls1 (by omega)).mono ?_
      rintro e w17 ⟨A17, c17, rfl, s17, b17⟩
      have B16_17 : Hid (Below w16.heap.size w16 w17) := Lib.hid b17
      have B17 : Hid (Below w.heap.size w w17) := Lib.hid (btr B16.out b17)
      have FW_17 := Lib.hid (FW_16.out.up b17)
      clear FW_16
      have FG_17 := Lib.hid (FG_16.out.up b17)
      clear FG_16
      have Fzs0_17 := Lib.hid (Fzs0_16.out.up b17)
      clear Fzs0_16
      have Fzs1_17 := Lib.hid s17
      have Lzs1 := Lib.hid s17.lies
      have lezs1 := s17.le.1
      clear s17 b17
      go_wp2_with fail
      refine (implCommutator _ _ _ _ _ _ s0x s1x w17 Fzs0_17.out.ri_ Fzs1_17.out.ri_ ls0 ls1 (by omega) (by omega) lezs0 lezs1 vs0 vs1).mono ?_
      rintro e w18 ⟨A18, n18, c18, rfl, s18, m18, b18⟩
      have B16_18 : Hid (Below w16.heap.size w16 w18) := Lib.hid (btr B16_17.out b18)
      have B17_18 : Hid (Below w17.heap.size w17 w18) := Lib.hid b18
      have B18 : Hid (Below w.heap.size w w18) := Lib.hid (btr B17.out b18)
      have FW_18 := Lib.hid (FW_17.out.up b18)
      clear FW_17
      have FG_18 := Lib.hid (FG_17.out.up b18)
      clear FG_17
      have Fzs0_18 := Lib.hid (Fzs0_17.out.up b18)
      clear Fzs0_17
      have Fzs1_18 := Lib.hid (Fzs1_17.out.up b18)
      clear Fzs1_17
      have FH_18 := Lib.hid s18
      have LH := Lib.hid s18.lies
      clear s18 b18
      clear Fzs0_18
      clear Fzs1_18
      go_wp2_with fail
      refine (eqS_same _ _ A18 A3 n18 c18 n3 c3 w18 FH_18.out FW_18.out (by omega)).mono ?_
      rintro e w19 ⟨rfl, b19⟩
      have B16_19 : Hid (Below w16.heap.size w16 w19) := Lib.hid (btr B16_18.out b19)
      have B17_19 : Hid (Below w17.heap.size w17 w19) := Lib.hid (btr B17_18.out b19)
      have B18_19 : Hid (Below w18.heap.size w18 w19) := Lib.hid b19
      have B19 : Hid (Below w.heap.size w w19) := Lib.hid (btr B18.out b19)
      have FW_19 := Lib.hid (FW_18.out.up b19)
      clear FW_18
      have FG_19 := Lib.hid (FG_18.out.up b19)
      clear FG_18
      have FH_19 := Lib.hid (FH_18.out.up b19)
      clear FH_18
      clear b19
      go_wp2_with fail
      refine (held1 _ A6 n6 c6 w19 FG_19.out (by omega)).mono ?_
      rintro e w' ⟨rfl, rfl⟩
      go_wp2_with fail
      go_ret
      exact ⟨rfl, B19.out⟩
    · have d1 : decide ((1048576 : Int) < s1n) = true := by simp; omega
      go_enter Try.func12, Try.ntmps12
      go_wp2
      go_ret
      exact ⟨rfl, Below.refl _ _⟩
  · have d1 : decide ((1048576 : Int) < s0n) = true := by simp; omega
    go_enter Try.func12, Try.ntmps12
    go_wp2
    go_ret
    exact ⟨rfl, Below.refl _ _⟩
end Go.Proofs.Ytoaaoikmkomofaa

/- The walk of the law FnExactConjugateWord: it returns true at every input, and writes nothing that was there. No condition. -/
namespace Go.Proofs.Ytoaaoikmkomofaa
open Go.RowKit

set_option maxHeartbeats 4000000 in
set_option maxRecDepth 100000 in
/-- The law FnExactConjugateWord. -/
theorem lawConjugateWord (s0A : Option Addr) (s0n s0c : Nat) (s0x : List Int) (s1A : Option Addr) (s1n s1c : Nat) (s1x : List Int) (w : World) (hs0 : RI w w.heap.size s0A s0x) (ls0 : Hid (s0x.length = s0n)) (vs0 : Hid (VI s0x)) (hs1 : RI w w.heap.size s1A s1x) (ls1 : Hid (s1x.length = s1n)) (vs1 : Hid (VI s1x)) :
    Calls Try.prog 13 #[.slice s0A s0n s0c, .slice s1A s1n s1c] w fun e w' => e = .returned (.bool true) ∧ Below w.heap.size w w' := by
  have Hs0 := Lib.hid hs0
  have Hs1 := Lib.hid hs1
  clear hs0 hs1
  by_cases hns0 : s0n ≤ 1048576
  · skip
    by_cases hns1 : s1n ≤ 1048576
    · skip
      go_enter Try.func13, Try.ntmps13
      go_wp2_with fail
      refine (toS_any s0A s0c s0n s0x w Hs0.out ls0 (by omega)).mono ?_
      rintro e w1 ⟨A1, c1, rfl, s1, b1⟩
      have B1 : Hid (Below w.heap.size w w1) := Lib.hid b1
      have Fts0_1 := Lib.hid s1
      have Lts0 := Lib.hid s1.lies
      have lets0 := s1.le.1
      clear s1 b1
      go_wp2_with fail
      refine (toS_any s1A s1c s1n s1x w1 (Hs1.out.up B1.out) ls1 (by omega)).mono ?_
      rintro e w2 ⟨A2, c2, rfl, s2, b2⟩
      have B1_2 : Hid (Below w1.heap.size w1 w2) := Lib.hid b2
      have B2 : Hid (Below w.heap.size w w2) := Lib.hid (btr B1.out b2)
      have Fts0_2 := Lib.hid (Fts0_1.out.up b2)
      clear Fts0_1
      have Fts1_2 := Lib.hid s2
      have Lts1 := Lib.hid s2.lies
      have lets1 := s2.le.1
      clear s2 b2
      go_wp2_with fail
      refine (specConjugateWord _ _ _ _ _ _ s0x s1x w2 Fts0_2.out.ri_ Fts1_2.out.ri_ ls0 ls1 (by omega) (by omega) lets0 lets1).mono ?_
      rintro e w3 ⟨A3, n3, c3, rfl, s3, m3, b3⟩
      have B1_3 : Hid (Below w1.heap.size w1 w3) := Lib.hid (btr B1_2.out b3)
      have B2_3 : Hid (Below w2.heap.size w2 w3) := Lib.hid b3
      have B3 : Hid (Below w.heap.size w w3) := Lib.hid (btr B2.out b3)
      have Fts0_3 := Lib.hid (Fts0_2.out.up b3)
      clear Fts0_2
      have Fts1_3 := Lib.hid (Fts1_2.out.up b3)
      clear Fts1_2
      have FW_3 := Lib.hid s3
      have LW := Lib.hid s3.lies
      clear s3 b3
      clear Fts0_3
      clear Fts1_3
      go_wp2_with fail
      refine (toS_any s0A s0c s0n s0x w3 (Hs0.out.up B3.out) ls0 (by omega)).mono ?_
      rintro e w4 ⟨A4, c4, rfl, s4, b4⟩
      have B1_4 : Hid (Below w1.heap.size w1 w4) := Lib.hid (btr B1_3.out b4)
      have B2_4 : Hid (Below w2.heap.size w2 w4) := Lib.hid (btr B2_3.out b4)
      have B3_4 : Hid (Below w3.heap.size w3 w4) := Lib.hid b4
      have B4 : Hid (Below w.heap.size w w4) := Lib.hid (btr B3.out b4)
      have FW_4 := Lib.hid (FW_3.out.up b4)
      clear FW_3
      have Fxs0_4 := Lib.hid s4
      have Lxs0 := Lib.hid s4.lies
      have lexs0 := s4.le.1
      clear s4 b4
      go_wp2_with fail
      refine (toS_any s1A s1c s1n s1x w4 (Hs1.out.up B4.out) ls1 (by omega)).mono ?_
      rintro e w5 ⟨A5, c5, rfl, s5, b5⟩
      have B1_5 : Hid (Below w1.heap.size w1 w5) := Lib.hid (btr B1_4.out b5)
      have B2_5 : Hid (Below w2.heap.size w2 w5) := Lib.hid (btr B2_4.out b5)
      have B3_5 : Hid (Below w3.heap.size w3 w5) := Lib.hid (btr B3_4.out b5)
      have B4_5 : Hid (Below w4.heap.size w4 w5) := Lib.hid b5
      have B5 : Hid (Below w.heap.size w w5) := Lib.hid (btr B4.out b5)
      have FW_5 := Lib.hid (FW_4.out.up b5)
      clear FW_4
      have Fxs0_5 := Lib.hid (Fxs0_4.out.up b5)
      clear Fxs0_4
      have Fxs1_5 := Lib.hid s5
      have Lxs1 := Lib.hid s5.lies
      have lexs1 := s5.le.1
      clear s5 b5
      go_wp2_with fail
      refine (implConjugateWord _ _ _ _ _ _ s0x s1x w5 Fxs0_5.out.ri_ Fxs1_5.out.ri_ ls0 ls1 (by omega) (by omega) lexs0 lexs1 vs0 vs1).mono ?_
      rintro e w6 ⟨A6, n6, c6, rfl, s6, m6, b6⟩
      have B1_6 : Hid (Below w1.heap.size w1 w6) := Lib.hid (btr B1_5.out b6)
      have B2_6 : Hid (Below w2.heap.size w2 w6) := Lib.hid (btr B2_5.out b6)
      have B3_6 : Hid (Below w3.heap.size w3 w6) := Lib.hid (btr B3_5.out b6)
      have B4_6 : Hid (Below w4.heap.size w4 w6) := Lib.hid (btr B4_5.out b6)
      have B5_6 : Hid (Below w5.heap.size w5 w6) := Lib.hid b6
      have B6 : Hid (Below w.heap.size w w6) := Lib.hid (btr B5.out b6)
      have FW_6 := Lib.hid (FW_5.out.up b6)
      clear FW_5
      have Fxs0_6 := Lib.hid (Fxs0_5.out.up b6)
      clear Fxs0_5
      have Fxs1_6 := Lib.hid (Fxs1_5.out.up b6)
      clear Fxs1_5
      have FG_6 := Lib.hid s6
      have LG := Lib.hid s6.lies
      clear s6 b6
      go_wp2_with fail
      refine (eqS_same _ _ A6 A3 n6 c6 n3 c3 w6 FG_6.out FW_6.out (by omega)).mono ?_
      rintro e w7 ⟨rfl, b7⟩
      have B1_7 : Hid (Below w1.heap.size w1 w7) := Lib.hid (btr B1_6.out b7)
      have B2_7 : Hid (Below w2.heap.size w2 w7) := Lib.hid (btr B2_6.out b7)
      have B3_7 : Hid (Below w3.heap.size w3 w7) := Lib.hid (btr B3_6.out b7)
      have B4_7 : Hid (Below w4.heap.size w4 w7) := Lib.hid (btr B4_6.out b7)
      have B5_7 : Hid (Below w5.heap.size w5 w7) := Lib.hid (btr B5_6.out b7)
      have B6_7 : Hid (Below w6.heap.size w6 w7) := Lib.hid b7
      have B7 : Hid (Below w.heap.size w w7) := Lib.hid (btr B6.out b7)
      have FW_7 := Lib.hid (FW_6.out.up b7)
      clear FW_6
      have Fxs0_7 := Lib.hid (Fxs0_6.out.up b7)
      clear Fxs0_6
      have Fxs1_7 := Lib.hid (Fxs1_6.out.up b7)
      clear Fxs1_6
      have FG_7 := Lib.hid (FG_6.out.up b7)
      clear FG_6
      clear b7
      go_wp2_with fail
      refine (toS_any s0A s0c s0n s0x w7 (Hs0.out.up B7.out) ls0 (by omega)).mono ?_
      rintro e w8 ⟨A8, c8, rfl, s8, b8⟩
      have B1_8 : Hid (Below w1.heap.size w1 w8) := Lib.hid (btr B1_7.out b8)
      have B2_8 : Hid (Below w2.heap.size w2 w8) := Lib.hid (btr B2_7.out b8)
      have B3_8 : Hid (Below w3.heap.size w3 w8) := Lib.hid (btr B3_7.out b8)
      have B4_8 : Hid (Below w4.heap.size w4 w8) := Lib.hid (btr B4_7.out b8)
      have B5_8 : Hid (Below w5.heap.size w5 w8) := Lib.hid (btr B5_7.out b8)
      have B6_8 : Hid (Below w6.heap.size w6 w8) := Lib.hid (btr B6_7.out b8)
      have B7_8 : Hid (Below w7.heap.size w7 w8) := Lib.hid b8
      have B8 : Hid (Below w.heap.size w w8) := Lib.hid (btr B7.out b8)
      have FW_8 := Lib.hid (FW_7.out.up b8)
      clear FW_7
      have Fxs0_8 := Lib.hid (Fxs0_7.out.up b8)
      clear Fxs0_7
      have Fxs1_8 := Lib.hid (Fxs1_7.out.up b8)
      clear Fxs1_7
      have FG_8 := Lib.hid (FG_7.out.up b8)
      clear FG_7
      have Fys0_8 := Lib.hid s8
      have Lys0 := Lib.hid s8.lies
      have leys0 := s8.le.1
      clear s8 b8
      go_wp2_with fail
      refine (eqS_same _ _ A4 A8 s0n c4 s0n c8 w8 Fxs0_8.out Fys0_8.out (by omega)).mono ?_
      rintro e w9 ⟨rfl, b9⟩
      have B1_9 : Hid (Below w1.heap.size w1 w9) := Lib.hid (btr B1_8.out b9)
      have B2_9 : Hid (Below w2.heap.size w2 w9) := Lib.hid (btr B2_8.out b9)
      have B3_9 : Hid (Below w3.heap.size w3 w9) := Lib.hid (btr B3_8.out b9)
      have B4_9 : Hid (Below w4.heap.size w4 w9) := Lib.hid (btr B4_8.out b9)
      have B5_9 : Hid (Below w5.heap.size w5 w9) := Lib.hid (btr B5_8.out b9)
      have B6_9 : Hid (Below w6.heap.size w6 w9) := Lib.hid (btr B6_8.out b9)
      have B7_9 : Hid (Below w7.heap.size w7 w9) := Lib.hid (btr B7_8.out b9)
      have B8_9 : Hid (Below w8.heap.size w8 w9) := Lib.hid b9
      have B9 : Hid (Below w.heap.size w w9) := Lib.hid (btr B8.out b9)
      have FW_9 := Lib.hid (FW_8.out.up b9)
      clear FW_8
      have Fxs0_9 := Lib.hid (Fxs0_8.out.up b9)
      clear Fxs0_8
      have Fxs1_9 := Lib.hid (Fxs1_8.out.up b9)
      clear Fxs1_8
      have FG_9 := Lib.hid (FG_8.out.up b9)
      clear FG_8
      have Fys0_9 := Lib.hid (Fys0_8.out.up b9)
      clear Fys0_8
      clear b9
      clear Fys0_9
      go_wp2_with fail
      refine (toS_any s1A s1c s1n s1x w9 (Hs1.out.up B9.out) ls1 (by omega)).mono ?_
      rintro e w10 ⟨A10, c10, rfl, s10, b10⟩
      have B1_10 : Hid (Below w1.heap.size w1 w10) := Lib.hid (btr B1_9.out b10)
      have B2_10 : Hid (Below w2.heap.size w2 w10) := Lib.hid (btr B2_9.out b10)
      have B3_10 : Hid (Below w3.heap.size w3 w10) := Lib.hid (btr B3_9.out b10)
      have B4_10 : Hid (Below w4.heap.size w4 w10) := Lib.hid (btr B4_9.out b10)
      have B5_10 : Hid (Below w5.heap.size w5 w10) := Lib.hid (btr B5_9.out b10)
      have B6_10 : Hid (Below w6.heap.size w6 w10) := Lib.hid (btr B6_9.out b10)
      have B7_10 : Hid (Below w7.heap.size w7 w10) := Lib.hid (btr B7_9.out b10)
      have B8_10 : Hid (Below w8.heap.size w8 w10) := Lib.hid (btr B8_9.out b10)
      have B9_10 : Hid (Below w9.heap.size w9 w10) := Lib.hid b10
      have B10 : Hid (Below w.heap.size w w10) := Lib.hid (btr B9.out b10)
      have FW_10 := Lib.hid (FW_9.out.up b10)
      clear FW_9
      have Fxs0_10 := Lib.hid (Fxs0_9.out.up b10)
      clear Fxs0_9
      have Fxs1_10 := Lib.hid (Fxs1_9.out.up b10)
      clear Fxs1_9
      have FG_10 := Lib.hid (FG_9.out.up b10)
      clear FG_9
      have Fys1_10 := Lib.hid s10
      have Lys1 := Lib.hid s10.lies
      have leys1 := s10.le.1
      clear s10 b10
      go_wp2_with fail
      refine (eqS_same _ _ A5 A10 s1n c5 s1n c10 w10 Fxs1_10.out Fys1_10.out (by omega)).mono ?_
      rintro e w11 ⟨rfl, b11⟩
      have B1_11 : Hid (Below w1.heap.size w1 w11) := Lib.hid (btr B1_10.out b11)
      have B2_11 : Hid (Below w2.heap.size w2 w11) := Lib.hid (btr B2_10.out b11)
      have B3_11 : Hid (Below w3.heap.size w3 w11) := Lib.hid (btr B3_10.out b11)
      have B4_11 : Hid (Below w4.heap.size w4 w11) := Lib.hid (btr B4_10.out b11)
      have B5_11 : Hid (Below w5.heap.size w5 w11) := Lib.hid (btr B5_10.out b11)
      have B6_11 : Hid (Below w6.heap.size w6 w11) := Lib.hid (btr B6_10.out b11)
      have B7_11 : Hid (Below w7.heap.size w7 w11) := Lib.hid (btr B7_10.out b11)
      have B8_11 : Hid (Below w8.heap.size w8 w11) := Lib.hid (btr B8_10.out b11)
      have B9_11 : Hid (Below w9.heap.size w9 w11) := Lib.hid (btr B9_10.out b11)
      have B10_11 : Hid (Below w10.heap.size w10 w11) := Lib.hid b11
      have B11 : Hid (Below w.heap.size w w11) := Lib.hid (btr B10.out b11)
      have FW_11 := Lib.hid (FW_10.out.up b11)
      clear FW_10
      have Fxs0_11 := Lib.hid (Fxs0_10.out.up b11)
      clear Fxs0_10
      have Fxs1_11 := Lib.hid (Fxs1_10.out.up b11)
      clear Fxs1_10
      have FG_11 := Lib.hid (FG_10.out.up b11)
      clear FG_10
      have Fys1_11 := Lib.hid (Fys1_10.out.up b11)
      clear Fys1_10
      clear b11
      clear Fys1_11
      go_wp2_with fail
      refine (markK _ (1) _ A4 s0n c4 _ w11 Fxs0_11.out (by omega) (by omega) (by omega)).mono ?_
      rintro e w12 ⟨rfl, s12, g12⟩
      have B12 : Hid (Below w.heap.size w w12) := Lib.hid (B11.out.trans (below_mark g12 Lxs0.out B3.out.size B11.out.size))
      have FW_12 := Lib.hid (FW_11.out.far g12 LW.out Lxs0.out (.inl (Nat.le_refl _)))
      clear FW_11
      have Fxs0_12 := Lib.hid s12
      clear Fxs0_11
      have Fxs1_12 := Lib.hid (Fxs1_11.out.far g12 Lxs1.out Lxs0.out (.inr (Nat.le_refl _)))
      clear Fxs1_11
      have FG_12 := Lib.hid (FG_11.out.far g12 LG.out Lxs0.out (.inr (B4_5.out.size)))
      clear FG_11
      clear s12 g12
      go_wp2_with fail
      refine (markK _ (1 + s0n) _ A5 s1n c5 _ w12 Fxs1_12.out (by omega) (by omega) (by omega)).mono ?_
      rintro e w13 ⟨rfl, s13, g13⟩
      have B13 : Hid (Below w.heap.size w w13) := Lib.hid (B12.out.trans (below_mark g13 Lxs1.out B4.out.size B12.out.size))
      have FW_13 := Lib.hid (FW_12.out.far g13 LW.out Lxs1.out (.inl (B3_4.out.size)))
      clear FW_12
      have Fxs0_13 := Lib.hid (Fxs0_12.out.far g13 Lxs0.out Lxs1.out (.inl (Nat.le_refl _)))
      clear Fxs0_12
      have Fxs1_13 := Lib.hid s13
      clear Fxs1_12
      have FG_13 := Lib.hid (FG_12.out.far g13 LG.out Lxs1.out (.inr (Nat.le_refl _)))
      clear FG_12
      clear s13 g13
      go_wp2_with fail
      refine (eqS_same _ _ A6 A3 n6 c6 n3 c3 w13 FG_13.out FW_13.out (by omega)).mono ?_
      rintro e w14 ⟨rfl, b14⟩
      have B14 : Hid (Below w.heap.size w w14) := Lib.hid (btr B13.out b14)
      have FW_14 := Lib.hid (FW_13.out.up b14)
      clear FW_13
      have Fxs0_14 := Lib.hid (Fxs0_13.out.up b14)
      clear Fxs0_13
      have Fxs1_14 := Lib.hid (Fxs1_13.out.up b14)
      clear Fxs1_13
      have FG_14 := Lib.hid (FG_13.out.up b14)
      clear FG_13
      clear b14
      clear Fxs0_14
      clear Fxs1_14
      go_wp2_with fail
      refine (markK _ (1) _ A6 n6 c6 _ w14 FG_14.out (by omega) (by omega) (by omega)).mono ?_
      rintro e w15 ⟨rfl, s15, g15⟩
      have B15 : Hid (Below w.heap.size w w15) := Lib.hid (B14.out.trans (below_mark g15 LG.out B5.out.size B14.out.size))
      have FW_15 := Lib.hid (FW_14.out.far g15 LW.out LG.out (.inl (B3_5.out.size)))
      clear FW_14
      have FG_15 := Lib.hid s15
      clear FG_14
      clear s15 g15
      go_wp2_with fail
      refine (held1 _ A6 n6 c6 w15 FG_15.out (by omega)).mono ?_
      rintro e w' ⟨rfl, rfl⟩
      go_wp2_with fail
      refine (toS_any s0A s0c s0n s0x w15 (Hs0.out.up B15.out) ls0 (by omega)).mono ?_
      rintro e w16 ⟨A16, c16, rfl, s16, b16⟩
      have B16 : Hid (Below w.heap.size w w16) := Lib.hid (btr B15.out b16)
      have FW_16 := Lib.hid (FW_15.out.up b16)
      clear FW_15
      have FG_16 := Lib.hid (FG_15.out.up b16)
      clear FG_15
      have Fzs0_16 := Lib.hid s16
      have Lzs0 := Lib.hid s16.lies
      have lezs0 := s16.le.1
      clear s16 b16
      go_wp2_with fail
      refine (toS_any s1A s1c s1n s1x w16 (Hs1.out.up B16.out) ls1 (by omega)).mono ?_
      rintro e w17 ⟨A17, c17, rfl, s17, b17⟩
      have B16_17 : Hid (Below w16.heap.size w16 w17) := Lib.hid b17
      have B17 : Hid (Below w.heap.size w w17) := Lib.hid (btr B16.out b17)
      have FW_17 := Lib.hid (FW_16.out.up b17)
      clear FW_16
      have FG_17 := Lib.hid (FG_16.out.up b17)
      clear FG_16
      have Fzs0_17 := Lib.hid (Fzs0_16.out.up b17)
      clear Fzs0_16
      have Fzs1_17 := Lib.hid s17
      have Lzs1 := Lib.hid s17.lies
      have lezs1 := s17.le.1
      clear s17 b17
      go_wp2_with fail
      refine (implConjugateWord _ _ _ _ _ _ s0x s1x w17 Fzs0_17.out.ri_ Fzs1_17.out.ri_ ls0 ls1 (by omega) (by omega) lezs0 lezs1 vs0 vs1).mono ?_
      rintro e w18 ⟨A18, n18, c18, rfl, s18, m18, b18⟩
      have B16_18 : Hid (Below w16.heap.size w16 w18) := Lib.hid (btr B16_17.out b18)
      have B17_18 : Hid (Below w17.heap.size w17 w18) := Lib.hid b18
      have B18 : Hid (Below w.heap.size w w18) := Lib.hid (btr B17.out b18)
      have FW_18 := Lib.hid (FW_17.out.up b18)
      clear FW_17
      have FG_18 := Lib.hid (FG_17.out.up b18)
      clear FG_17
      have Fzs0_18 := Lib.hid (Fzs0_17.out.up b18)
      clear Fzs0_17
      have Fzs1_18 := Lib.hid (Fzs1_17.out.up b18)
      clear Fzs1_17
      have FH_18 := Lib.hid s18
      have LH := Lib.hid s18.lies
      clear s18 b18
      clear Fzs0_18
      clear Fzs1_18
      go_wp2_with fail
      refine (eqS_same _ _ A18 A3 n18 c18 n3 c3 w18 FH_18.out FW_18.out (by omega)).mono ?_
      rintro e w19 ⟨rfl, b19⟩
      have B16_19 : Hid (Below w16.heap.size w16 w19) := Lib.hid (btr B16_18.out b19)
      have B17_19 : Hid (Below w17.heap.size w17 w19) := Lib.hid (btr B17_18.out b19)
      have B18_19 : Hid (Below w18.heap.size w18 w19) := Lib.hid b19
      have B19 : Hid (Below w.heap.size w w19) := Lib.hid (btr B18.out b19)
      have FW_19 := Lib.hid (FW_18.out.up b19)
      clear FW_18
      have FG_19 := Lib.hid (FG_18.out.up b19)
      clear FG_18
      have FH_19 := Lib.hid (FH_18.out.up b19)
      clear FH_18
      clear b19
      go_wp2_with fail
      refine (held1 _ A6 n6 c6 w19 FG_19.out (by omega)).mono ?_
      rintro e w' ⟨rfl, rfl⟩
      go_wp2_with fail
      go_ret
      exact ⟨rfl, B19.out⟩
    · have d1 : decide ((1048576 : Int) < s1n) = true := by simp; omega
      go_enter Try.func13, Try.ntmps13
      go_wp2
      go_ret
      exact ⟨rfl, Below.refl _ _⟩
  · have d1 : decide ((1048576 : Int) < s0n) = true := by simp; omega
    go_enter Try.func13, Try.ntmps13
    go_wp2
    go_ret
    exact ⟨rfl, Below.refl _ _⟩
end Go.Proofs.Ytoaaoikmkomofaa

/- The model's evaluation of words. Conditions: at most 2097152 letters in a word. -/
namespace Go.Proofs.Ytoaaoikmkomofaa
open Go.RowKit

/-- letterPermutation of a generator's own letter. -/
theorem specLtPos (j : Nat) (A : Option Addr) (n c N : Nat) (vs : List SV) (gs : List (List Int)) (w : World) (hx : RR w w.heap.size A n vs gs) (ok : Hid (∀ g ∈ gs, IsP g ∧ g.length = N)) (hj : j < n) (hn : n ≤ 8) :
    Calls Try.prog 90 #[.slice A n c, .int .i64 ((j : Int) + 1)] w fun e w' => ∃ A' c', e = .returned (.slice A' N c') ∧ RI w' w'.heap.size A' (gs.getD j []) ∧ Below w.heap.size w w' := by
  obtain ⟨b, off, A5, l, c5, y, rfl, hb, ev, ey, hc0, hr0, hy, hlc⟩ := hx.at_ hj
  have hl : l = N := by rw [← hy]; exact (ok.out y (by rw [← ey]; exact getD_memL (by rw [hx.lx]; exact hj))).2
  subst hl
  have R0 : Hid (RI w w.heap.size A5 (gs.getD j [])) := Lib.hid (by rw [ey]; exact hr0)
  have w1 : IntKind.i64.wrap ((j : Int) + 1 - 1) = (j : Int) := by rw [IntKind.wrap_i64]; omega
  have d0 : decide ((j : Int) + 1 < 0) = false := decide_eq_false (by omega)
  have p1 : (0 : Int) ≤ j := by omega
  have p2 : (j : Int) < n := by omega
  clear hx ev ey hr0 hy
  go_enter Try.func90, Try.ntmps90
  go_wp2
  go_ret
  exact ⟨_, _, rfl, R0.out, Below.refl _ _⟩
/-- letterPermutation of an inverse's letter. -/
theorem specLtNeg (j : Nat) (A : Option Addr) (n c N : Nat) (vs : List SV) (gs : List (List Int)) (w : World) (hx : RR w w.heap.size A n vs gs) (ok : Hid (∀ g ∈ gs, IsP g ∧ g.length = N)) (hN : N ≤ 20) (hj : j < n) (hn : n ≤ 8) :
    Calls Try.prog 90 #[.slice A n c, .int .i64 (-((j : Int) + 1))] w fun e w' => ∃ A' c', e = .returned (.slice A' N c') ∧ RI w' w'.heap.size A' (invL (gs.getD j []) (gs.getD j []).length) ∧ Below w.heap.size w w' := by
  obtain ⟨b, off, A5, l, c5, y, rfl, hb, ev, ey, hc0, hr0, hy, hlc⟩ := hx.at_ hj
  have hok := ok.out y (by rw [← ey]; exact getD_memL (by rw [hx.lx]; exact hj))
  have hl : l = N := by rw [← hy]; exact hok.2
  subst hl
  have Ip := Lib.hid hok.1
  have R0 := Lib.hid hr0
  have Hy := Lib.hid hy
  have Ey := Lib.hid ey
  have w1 : IntKind.i64.wrap (-(-((j : Int) + 1))) = (j : Int) + 1 := by rw [IntKind.wrap_i64]; omega
  have w2 : IntKind.i64.wrap ((j : Int) + 1 - 1) = (j : Int) := by rw [IntKind.wrap_i64]; omega
  have d0 : decide (-((j : Int) + 1) < 0) = true := decide_eq_true (by omega)
  have p1 : (0 : Int) ≤ j := by omega
  have p2 : (j : Int) < n := by omega
  clear hx ev ey hr0 hy hok
  go_enter Try.func90, Try.ntmps90
  go_wp2_with fail
  refine (specInv A5 c5 l y w R0.out Hy Ip hN).mono ?_
  rintro e w3 ⟨A3, c3, rfl, s3, b3⟩
  have R3 : Hid (RI w3 w3.heap.size A3 (invL (gs.getD j []) (gs.getD j []).length)) := Lib.hid (by rw [Ey.out, Hy.out]; exact s3.ri_)
  have B3 := Lib.hid b3
  clear s3 b3
  go_wp2
  go_ret
  exact ⟨_, _, rfl, R3.out, B3.out⟩
/-- letterPermutation. -/
theorem specLtP (l : Int) (A : Option Addr) (n c N : Nat) (vs : List SV) (gs : List (List Int)) (w : World) (hx : RR w w.heap.size A n vs gs) (ok : Hid (∀ g ∈ gs, IsP g ∧ g.length = N)) (hN : N ≤ 20) (hl : LtG gs l) (hn : n ≤ 8) :
    Calls Try.prog 90 #[.slice A n c, .int .i64 l] w fun e w' => ∃ A' c', e = .returned (.slice A' N c') ∧ RI w' w'.heap.size A' (ltM gs l) ∧ Below w.heap.size w w' := by
  have hlx := hx.lx
  obtain ⟨h0, h1, h2⟩ := hl
  unfold ltM
  by_cases h : l < 0
  · rw [if_pos h]
    have e : l = -((((-l - 1).toNat : Nat) : Int) + 1) := by omega
    have := specLtNeg (-l - 1).toNat A n c N vs gs w hx ok hN (by omega) hn
    rw [← e] at this
    exact this
  · rw [if_neg h]
    have e : l = (((l - 1).toNat : Nat) : Int) + 1 := by omega
    have := specLtPos (l - 1).toNat A n c N vs gs w hx ok (by omega) hn
    rw [← e] at this
    exact this

set_option maxHeartbeats 2000000 in
set_option maxRecDepth 100000 in
/-- evaluate. -/
theorem specEvW (N m mc n c : Nat) (G A : Option Addr) (vs : List SV) (gs : List (List Int)) (wd : List Int) (w : World) (hg : RR w w.heap.size G m vs gs) (hx : RI w w.heap.size A wd) (lx : Hid (wd.length = n)) (ok : Hid (∀ g ∈ gs, Pn N g)) (hw : Hid (∀ l ∈ wd, LtG gs l)) (h1 : 1 ≤ N) (h2 : N ≤ 20) (hm : m ≤ 8) (hn : n ≤ 200) :
    Calls Try.prog 63 #[.int .i64 (N : Nat), .slice G m mc, .slice A n c] w fun e w' => ∃ A' c', e = .returned (.slice A' N c') ∧ Slc w' w.heap.size A' N c' (evW N gs wd) ∧ Below w.heap.size w w' := by
  have HG := Lib.hid hg
  have HX := Lib.hid hx
  clear hg hx
  go_enter Try.func63, Try.ntmps63
  go_wp2_with fail
  refine (specIdent N w (by omega)).mono ?_
  rintro e w1 ⟨A1, c1, rfl, s1, b1⟩
  have S1 := Lib.hid s1
  have B1 := Lib.hid b1
  clear s1 b1
  go_wp2_with fail
  go_loopw [7, 8] (fun pv iv wr => ∃ (i cP : Nat) (P : Option Addr), i ≤ n ∧ iv = .int .i64 (i : Nat) ∧ pv = .slice P N cP ∧ Slc wr w.heap.size P N cP (evW N gs (wd.take i)) ∧ Below w.heap.size w wr) (fun _ iv _ => n - (intOf iv).toNat)
  case atStart => exact ⟨0, c1, A1, Nat.zero_le _, rfl, rfl, S1.out, B1.out⟩
  case round =>
    clear S1 B1
    obtain ⟨i, cP, P, hi, rfl, rfl, hs, bel⟩ := hrel
    have Sp := Lib.hid hs
    have Be := Lib.hid bel
    have hz := bel.size
    clear hs bel
    by_cases hlt : i < n
    · obtain ⟨b, off, rfl, hb, hc⟩ := (HX.out.up Be.out) (by rw [lx.out]; omega)
      have c0 := hc i (by rw [lx.out]; exact hlt)
      obtain ⟨l, el⟩ : ∃ l, wd.getD i 0 = l := ⟨_, rfl⟩
      rw [el] at c0
      have hl : LtG gs l := hw.out l (by rw [← el, List.getD_eq_getElem?_getD, List.getElem?_eq_getElem (by rw [lx.out]; exact hlt)]; exact List.getElem_mem _)
      have Hl := Lib.hid hl
      have Tk : Hid (evW N gs (wd.take (i + 1)) = compL (evW N gs (wd.take i)) (ltM gs l)) := Lib.hid (by rw [evW_take (by rw [lx.out]; exact hlt), el])
      have Pp : Hid (Pn N (evW N gs (wd.take i))) := Lib.hid (evW_pn ok.out h1 h2 fun x hx => hw.out x (List.mem_of_mem_take hx))
      have Pl : Hid (Pn N (ltM gs l)) := Lib.hid (ltM_pn ok.out hl)
      have OkI : Hid (∀ g ∈ gs, IsP g ∧ g.length = N) := Lib.hid ok.out
      have p0 : (0 : Int) ≤ i := by omega
      have p1 : (i : Int) < n := by omega
      clear el hc hb hl
      go_wp2_with fail
      refine (specLtP l G m mc N vs gs wr (HG.out.up Be.out) OkI h2 Hl.out hm).mono ?_
      rintro e w2 ⟨A2, c2, rfl, r2, b2⟩
      have R2 := Lib.hid r2
      have Sp2 := Lib.hid (Sp.out.up b2)
      have Be2 : Hid (Below w.heap.size w w2) := Lib.hid (btr Be.out b2)
      have hz2 := b2.size
      clear r2 b2 Sp
      go_wp2_with fail
      refine (specComp P A2 cP c2 N _ _ w2 Sp2.out.ri_ R2.out (Lib.hid Pp.out.2) (Lib.hid Pl.out.2) (Lib.hid Pp.out.1) h2).mono ?_
      rintro e w3 ⟨A3, c3, rfl, s3, b3⟩
      have S3 : Hid (Slc w3 w.heap.size A3 N c3 (evW N gs (wd.take (i + 1)))) := Lib.hid (by rw [Tk.out]; exact s3.mono (by omega))
      have B3 : Hid (Below w.heap.size w w3) := Lib.hid (btr Be2.out b3)
      clear s3 b3
      go_wp2_with fail
      go_roundw
      case rel => exact ⟨i + 1, c3, A3, by omega, by go_num, rfl, S3.out, B3.out⟩
      case measure => simp [intOf]; omega
    · obtain rfl : i = n := by omega
      have Fin : Hid (Slc wr w.heap.size P N cP (evW N gs wd)) := Lib.hid (by have := Sp.out; rwa [List.take_of_length_le (by rw [lx.out]; exact Nat.le_refl _)] at this)
      go_wp2_with fail
      go_ret
      exact ⟨P, cP, rfl, Fin.out, Be.out⟩

/-- What EvaluateWord answers. -/
def evB (a : Int) (gs : List (List Int)) (wd : List Int) : Bool := gB a gs && vW (gs.length : Int) wd
def evF (a : Int) (gs : List (List Int)) (wd : List Int) : List Int := if evB a gs wd = true then evW a.toNat gs wd else []
theorem evF_len {a : Int} {gs : List (List Int)} {wd : List Int} : (evF a gs wd).length ≤ 20 := by
  unfold evF
  split
  · rename_i h
    unfold evB at h
    rw [Bool.and_eq_true] at h
    obtain ⟨N, rfl, h1, h2, _, _, ok⟩ := gB_pm h.1
    rw [Int.toNat_natCast, (evW_pn (N := N) ok h1 h2 (vW_ltg h.2)).2]; exact h2
  · simp

abbrev IsEvw (a : Int) (gs : List (List Int)) (wd out : List Int) (ok : Bool) : Prop := out = evF a gs wd ∧ ok = evB a gs wd
theorem IsEvw.uniq {a : Int} {gs : List (List Int)} {wd o o' : List Int} {b b' : Bool} (h : IsEvw a gs wd o b) (k : IsEvw a gs wd o' b') : o = o' ∧ b = b' := ⟨h.1.trans k.1.symm, h.2.trans k.2.symm⟩
theorem IsEvw.len {a : Int} {gs : List (List Int)} {wd o : List Int} {b : Bool} (h : IsEvw a gs wd o b) : o.length ≤ 20 := by rw [h.1]; exact evF_len

set_option maxHeartbeats 1600000 in
/-- EvaluateWord: the shape CtImsP. -/
theorem ctEvw : CtImsP 19 IsEvw := by
  intro a A n c vs xss P np cp p w g s ha
  have G := Lib.hid g
  have S := Lib.hid s
  have hlx : Hid (xss.length = n) := Lib.hid g.rr.lx
  have lp := Lib.hid s.lp
  have hnp := s.hn
  clear g s
  rcases hg : gB a xss with _ | _
  · have Hg := Lib.hid hg
    have E1 : Hid (evB a xss p = false) := Lib.hid (by unfold evB; rw [hg]; rfl)
    have E2 : Hid (evF a xss p = []) := Lib.hid (by unfold evF; rw [E1.out]; rfl)
    clear hg
    go_enter Try.func19, Try.ntmps19
    go_wp2_with fail
    refine (specGS a A n c vs xss w G.out.rr G.out.hn (Lib.hid G.out.hl) ha).mono ?_
    rintro e w1 ⟨rfl, b1⟩
    have B1 := Lib.hid b1
    have hz := b1.size
    rw [Hg.out]
    clear b1
    go_wp2_with fail
    go_ret2
    exact ⟨_, 0, _, [], false, rfl, (Slc.lit0 w1 _ (Nat.le_refl _)).mono hz, ⟨E2.out.symm, E1.out.symm⟩, B1.out.alloc hz _⟩
  · obtain ⟨N, rfl, h1, h2, h8, _, ok⟩ := gB_pm hg
    have Hg := Lib.hid hg
    have Ok : Hid (∀ g ∈ xss, Pn N g) := Lib.hid ok
    have hm8 : n ≤ 8 := by rw [← hlx.out]; exact h8
    clear hg ok
    rcases hv : vW (n : Int) p with _ | _
    · have Hv := Lib.hid hv
      have E1 : Hid (evB N xss p = false) := Lib.hid (by unfold evB; rw [hlx.out, hv, Bool.and_false])
      have E2 : Hid (evF N xss p = []) := Lib.hid (by unfold evF; rw [E1.out]; rfl)
      clear hv
      go_enter Try.func19, Try.ntmps19
      go_wp2_with fail
      refine (specGS N A n c vs xss w G.out.rr G.out.hn (Lib.hid G.out.hl) ha).mono ?_
      rintro e w1 ⟨rfl, b1⟩
      have B1 := Lib.hid b1
      have hz := b1.size
      have S1 := Lib.hid (S.out.ri.up b1)
      rw [Hg.out]
      clear b1
      go_wp2_with fail
      refine (specIsWordOf n P np cp p w1 S1.out lp (by omega)).mono ?_
      rintro e w' ⟨rfl, rfl⟩
      rw [Hv.out]
      go_wp2_with fail
      go_ret2
      exact ⟨_, 0, _, [], false, rfl, (Slc.lit0 w1 _ (Nat.le_refl _)).mono hz, ⟨E2.out.symm, E1.out.symm⟩, B1.out.alloc hz _⟩
    · have Hv := Lib.hid hv
      have E1 : Hid (evB N xss p = true) := Lib.hid (by unfold evB; rw [hlx.out, hv, Hg.out]; rfl)
      have E2 : Hid (evF N xss p = evW N xss p) := Lib.hid (by unfold evF; rw [if_pos E1.out, Int.toNat_natCast])
      have Hw : Hid (∀ l ∈ p, LtG xss l) := Lib.hid (vW_ltg (by rw [hlx.out]; exact hv))
      have hp2 : np ≤ 200 := by rw [← lp.out]; exact (vW_iff.1 hv).1
      clear hv
      go_enter Try.func19, Try.ntmps19
      go_wp2_with fail
      refine (specGS N A n c vs xss w G.out.rr G.out.hn (Lib.hid G.out.hl) ha).mono ?_
      rintro e w1 ⟨rfl, b1⟩
      have B1 := Lib.hid b1
      have hz := b1.size
      have S1 := Lib.hid (S.out.ri.up b1)
      have G1 := Lib.hid (G.out.rr.up b1)
      rw [Hg.out]
      clear b1
      go_wp2_with fail
      refine (specIsWordOf n P np cp p w1 S1.out lp (by omega)).mono ?_
      rintro e w' ⟨rfl, rfl⟩
      rw [Hv.out]
      go_wp2_with fail
      refine (specEvW N n c np cp A P vs xss p w1 G1.out S1.out lp Ok Hw h1 h2 hm8 hp2).mono ?_
      rintro e w2 ⟨A2, c2, rfl, s2, b2⟩
      have S2 := Lib.hid (s2.mono hz)
      have B2 : Hid (Below w.heap.size w w2) := Lib.hid (btr B1.out b2)
      clear s2 b2
      go_wp2_with fail
      go_ret2
      exact ⟨A2, N, c2, _, true, rfl, S2.out, ⟨E2.out.symm, E1.out.symm⟩, B2.out⟩
end Go.Proofs.Ytoaaoikmkomofaa

/- The program's EvaluateWord. Conditions: numbers of 64 bits in the word. -/
namespace Go.Proofs.Ytoaaoikmkomofaa
open Go.RowKit

/-- As CtImsP, the list's numbers of 64 bits. -/
def CtImvP (F : Nat) (R : Int → List (List Int) → List Int → List Int → Bool → Prop) : Prop := ∀ (a : Int) (A : Option Addr) (n c : Nat) (vs : List SV) (xss : List (List Int)) (P : Option Addr) (np cp : Nat) (p : List Int) (w : World), GIn w A n vs xss → SIn w P np cp p → I64 a → Hid (VI p) →
  Calls Try.prog F #[.int .i64 a, .slice A n c, .slice P np cp] w fun e w' => ∃ A' m c' zs ok, e = .returned (.tuple #[.slice A' m c', .bool ok]) ∧ Slc w' w.heap.size A' m c' zs ∧ R a xss p zs ok ∧ Below w.heap.size w w'

set_option maxHeartbeats 1600000 in
/-- moveOf of a generator's own letter. -/
theorem implMvPos (j : Nat) (A : Option Addr) (n c N : Nat) (vs : List SV) (gs : List (List Int)) (w : World) (hx : RR w w.heap.size A n vs gs) (ok : Hid (∀ g ∈ gs, IsP g ∧ g.length = N)) (hj : j < n) (hn : n ≤ 8) :
    Calls Try.prog 60 #[.slice A n c, .int .i64 ((j : Int) + 1)] w fun e w' => ∃ A' c', e = .returned (.slice A' N c') ∧ RI w' w'.heap.size A' (gs.getD j []) ∧ Below w.heap.size w w' := by
  obtain ⟨b, off, A5, l, c5, y, rfl, hb, ev, ey, hc0, hr0, hy, hlc⟩ := hx.at_ hj
  have hl : l = N := by rw [← hy]; exact (ok.out y (by rw [← ey]; exact getD_memL (by rw [hx.lx]; exact hj))).2
  subst hl
  have R0 : Hid (RI w w.heap.size A5 (gs.getD j [])) := Lib.hid (by rw [ey]; exact hr0)
  have w1 : IntKind.i64.wrap ((j : Int) + 1 - 1) = (j : Int) := by rw [IntKind.wrap_i64]; omega
  have d0 : decide ((j : Int) + 1 < 0) = false := decide_eq_false (by omega)
  have K := implGen ((j : Int) + 1) w (by omega)
  rw [gnL_pos (by omega)] at K
  have p1 : (0 : Int) ≤ j := by omega
  have p2 : (j : Int) < n := by omega
  clear hx ev ey hr0 hy
  go_enter Try.func60, Try.ntmps60
  go_wp2_with fail
  refine K.mono ?_
  rintro e w' ⟨rfl, rfl⟩
  clear K
  go_wp2_with fail
  go_ret
  exact ⟨_, _, rfl, R0.out, Below.refl _ _⟩
set_option maxHeartbeats 1600000 in
/-- moveOf of an inverse's letter. -/
theorem implMvNeg (j : Nat) (A : Option Addr) (n c N : Nat) (vs : List SV) (gs : List (List Int)) (w : World) (hx : RR w w.heap.size A n vs gs) (ok : Hid (∀ g ∈ gs, IsP g ∧ g.length = N)) (hN : N ≤ 20) (hj : j < n) (hn : n ≤ 8) :
    Calls Try.prog 60 #[.slice A n c, .int .i64 (-((j : Int) + 1))] w fun e w' => ∃ A' c', e = .returned (.slice A' N c') ∧ RI w' w'.heap.size A' (invL (gs.getD j []) (gs.getD j []).length) ∧ Below w.heap.size w w' := by
  obtain ⟨b, off, A5, l, c5, y, rfl, hb, ev, ey, hc0, hr0, hy, hlc⟩ := hx.at_ hj
  have hok := ok.out y (by rw [← ey]; exact getD_memL (by rw [hx.lx]; exact hj))
  have hl : l = N := by rw [← hy]; exact hok.2
  subst hl
  have Ip := Lib.hid hok.1
  have R0 := Lib.hid hr0
  have Hy := Lib.hid hy
  have Ey := Lib.hid ey
  have w2 : IntKind.i64.wrap ((j : Int) + 1 - 1) = (j : Int) := by rw [IntKind.wrap_i64]; omega
  have d0 : decide (-((j : Int) + 1) < 0) = true := decide_eq_true (by omega)
  have K := implGen (-((j : Int) + 1)) w (by omega)
  rw [gnL_neg (by omega) (by omega), Int.neg_neg] at K
  have p1 : (0 : Int) ≤ j := by omega
  have p2 : (j : Int) < n := by omega
  clear hx ev ey hr0 hy hok
  go_enter Try.func60, Try.ntmps60
  go_wp2_with fail
  refine K.mono ?_
  rintro e w' ⟨rfl, rfl⟩
  clear K
  go_wp2_with fail
  refine (implInv A5 c5 l y w R0.out Hy Ip hN).mono ?_
  rintro e w3 ⟨A3, c3, rfl, s3, b3⟩
  have R3 : Hid (RI w3 w3.heap.size A3 (invL (gs.getD j []) (gs.getD j []).length)) := Lib.hid (by rw [Ey.out, Hy.out]; exact s3.ri_)
  have B3 := Lib.hid b3
  clear s3 b3
  go_wp2_with fail
  go_ret
  exact ⟨_, _, rfl, R3.out, B3.out⟩
/-- moveOf. -/
theorem implMv (l : Int) (A : Option Addr) (n c N : Nat) (vs : List SV) (gs : List (List Int)) (w : World) (hx : RR w w.heap.size A n vs gs) (ok : Hid (∀ g ∈ gs, IsP g ∧ g.length = N)) (hN : N ≤ 20) (hl : LtG gs l) (hn : n ≤ 8) :
    Calls Try.prog 60 #[.slice A n c, .int .i64 l] w fun e w' => ∃ A' c', e = .returned (.slice A' N c') ∧ RI w' w'.heap.size A' (ltM gs l) ∧ Below w.heap.size w w' := by
  have hlx := hx.lx
  obtain ⟨h0, h1, h2⟩ := hl
  unfold ltM
  by_cases h : l < 0
  · rw [if_pos h]
    have e : l = -((((-l - 1).toNat : Nat) : Int) + 1) := by omega
    have := implMvNeg (-l - 1).toNat A n c N vs gs w hx ok hN (by omega) hn
    rw [← e] at this
    exact this
  · rw [if_neg h]
    have e : l = (((l - 1).toNat : Nat) : Int) + 1 := by omega
    have := implMvPos (l - 1).toNat A n c N vs gs w hx ok (by omega) hn
    rw [← e] at this
    exact this

set_option maxHeartbeats 4000000 in
set_option maxRecDepth 100000 in
/-- EvaluateWord: the shape CtImvP. -/
theorem implEvaluateWord : CtImvP 18 IsEvw := by
  intro a A n c vs xss P np cp p w g s ha vi
  have G := Lib.hid g
  have S := Lib.hid s
  have hlx : Hid (xss.length = n) := Lib.hid g.rr.lx
  have lp := Lib.hid s.lp
  have hnp := s.hn
  clear g s
  rcases hg : gB a xss with _ | _
  · have Hg := Lib.hid hg
    have E1 : Hid (evB a xss p = false) := Lib.hid (by unfold evB; rw [hg]; rfl)
    have E2 : Hid (evF a xss p = []) := Lib.hid (by unfold evF; rw [E1.out]; rfl)
    clear hg
    go_enter Try.func18, Try.ntmps18
    go_wp2_with fail
    refine (implGS a A n c vs xss w G.out.rr G.out.hn (Lib.hid G.out.hl)).mono ?_
    rintro e w1 ⟨rfl, b1⟩
    have B1 := Lib.hid b1
    have hz := b1.size
    rw [Hg.out]
    clear b1
    go_wp2_with fail
    go_ret2
    exact ⟨none, 0, 0, [], false, rfl, Slc.nil_, ⟨E2.out.symm, E1.out.symm⟩, B1.out⟩
  · obtain ⟨N, rfl, h1, h2, h8, _, ok⟩ := gB_pm hg
    have Hg := Lib.hid hg
    have Ok : Hid (∀ g ∈ xss, Pn N g) := Lib.hid ok
    have hm8 : n ≤ 8 := by rw [← hlx.out]; exact h8
    clear hg ok
    rcases hv : vW (n : Int) p with _ | _
    · have Hv := Lib.hid hv
      have E1 : Hid (evB N xss p = false) := Lib.hid (by unfold evB; rw [hlx.out, hv, Bool.and_false])
      have E2 : Hid (evF N xss p = []) := Lib.hid (by unfold evF; rw [E1.out]; rfl)
      clear hv
      go_enter Try.func18, Try.ntmps18
      go_wp2_with fail
      refine (implGS N A n c vs xss w G.out.rr G.out.hn (Lib.hid G.out.hl)).mono ?_
      rintro e w1 ⟨rfl, b1⟩
      have B1 := Lib.hid b1
      have hz := b1.size
      have S1 := Lib.hid (S.out.ri.up b1)
      rw [Hg.out]
      clear b1
      go_wp2_with fail
      refine (implIsValidWord n P np cp p w1 S1.out lp (by omega) vi (by omega)).mono ?_
      rintro e w' ⟨rfl, rfl⟩
      rw [Hv.out]
      go_wp2_with fail
      go_ret2
      exact ⟨none, 0, 0, [], false, rfl, Slc.nil_, ⟨E2.out.symm, E1.out.symm⟩, B1.out⟩
    · have Hv := Lib.hid hv
      have E1 : Hid (evB N xss p = true) := Lib.hid (by unfold evB; rw [hlx.out, hv, Hg.out]; rfl)
      have E2 : Hid (evF N xss p = evW N xss p) := Lib.hid (by unfold evF; rw [if_pos E1.out, Int.toNat_natCast])
      have Hw : Hid (∀ l ∈ p, LtG xss l) := Lib.hid (vW_ltg (by rw [hlx.out]; exact hv))
      have hp2 : np ≤ 200 := by rw [← lp.out]; exact (vW_iff.1 hv).1
      clear hv
      go_enter Try.func18, Try.ntmps18
      go_wp2_with fail
      refine (implGS N A n c vs xss w G.out.rr G.out.hn (Lib.hid G.out.hl)).mono ?_
      rintro e w1 ⟨rfl, b1⟩
      have B1 := Lib.hid b1
      have hz := b1.size
      have S1 := Lib.hid (S.out.ri.up b1)
      have G1 := Lib.hid (G.out.rr.up b1)
      rw [Hg.out]
      clear b1
      go_wp2_with fail
      refine (implIsValidWord n P np cp p w1 S1.out lp (by omega) vi (by omega)).mono ?_
      rintro e w' ⟨rfl, rfl⟩
      rw [Hv.out]
      go_wp2_with fail
      refine (implId_core N w1 h1 h2).mono ?_
      rintro e w2 ⟨A2, c2, rfl, s2, b2⟩
      have S2 : Hid (Slc w2 w.heap.size A2 N c2 (evW N xss (p.take 0))) := Lib.hid (by rw [List.take_zero, evW_nil]; exact s2.mono hz)
      have B2 : Hid (Below w.heap.size w w2) := Lib.hid (btr B1.out b2)
      clear s2 b2
      go_wp2_with fail
      go_loopw [8, 26] (fun pv iv wr => ∃ (i cP : Nat) (Q : Option Addr), i ≤ np ∧ iv = .int .i64 (i : Nat) ∧ pv = .slice Q N cP ∧ Slc wr w.heap.size Q N cP (evW N xss (p.take i)) ∧ Below w.heap.size w wr) (fun _ iv _ => np - (intOf iv).toNat)
      case atStart => exact ⟨0, c2, A2, Nat.zero_le _, rfl, rfl, S2.out, B2.out⟩
      case round =>
        clear S2 B2
        obtain ⟨i, cP, Q, hi, rfl, rfl, hs, bel⟩ := hrel
        have Sp := Lib.hid hs
        have Be := Lib.hid bel
        have hz := bel.size
        clear hs bel
        by_cases hlt : i < np
        · obtain ⟨b, off, rfl, hb, hc⟩ := (S.out.ri.up Be.out) (by rw [lp.out]; omega)
          have c0 := hc i (by rw [lp.out]; exact hlt)
          obtain ⟨l, el⟩ : ∃ l, p.getD i 0 = l := ⟨_, rfl⟩
          rw [el] at c0
          have hl : LtG xss l := Hw.out l (by rw [← el, List.getD_eq_getElem?_getD, List.getElem?_eq_getElem (by rw [lp.out]; exact hlt)]; exact List.getElem_mem _)
          have Hl := Lib.hid hl
          have Tk : Hid (evW N xss (p.take (i + 1)) = compL (evW N xss (p.take i)) (ltM xss l)) := Lib.hid (by rw [evW_take (by rw [lp.out]; exact hlt), el])
          have Pp : Hid (Pn N (evW N xss (p.take i))) := Lib.hid (evW_pn Ok.out h1 h2 fun x hx => Hw.out x (List.mem_of_mem_take hx))
          have Pl : Hid (Pn N (ltM xss l)) := Lib.hid (ltM_pn Ok.out hl)
          have OkI : Hid (∀ g ∈ xss, IsP g ∧ g.length = N) := Lib.hid Ok.out
          have p0 : (0 : Int) ≤ i := by omega
          have p1 : (i : Int) < np := by omega
          clear el hc hb hl
          go_wp2_with fail
          refine (implMv l A n c N vs xss wr (G.out.rr.up Be.out) OkI h2 Hl.out hm8).mono ?_
          rintro e w2 ⟨A2, c2, rfl, r2, b2⟩
          have R2 := Lib.hid r2
          have Sp2 := Lib.hid (Sp.out.up b2)
          have Be2 : Hid (Below w.heap.size w w2) := Lib.hid (btr Be.out b2)
          have hz2 := b2.size
          clear r2 b2 Sp
          go_wp2_with fail
          refine (implThen Q A2 cP c2 N _ _ w2 Sp2.out.ri_ R2.out (Lib.hid Pp.out.2) (Lib.hid Pl.out.2) (Lib.hid Pp.out.1) h2).mono ?_
          rintro e w3 ⟨A3, c3, rfl, s3, b3⟩
          have S3 : Hid (Slc w3 w.heap.size A3 N c3 (evW N xss (p.take (i + 1)))) := Lib.hid (by rw [Tk.out]; exact s3.mono (by omega))
          have B3 : Hid (Below w.heap.size w w3) := Lib.hid (btr Be2.out b3)
          clear s3 b3
          go_wp2_with fail
          go_roundw
          case rel => exact ⟨i + 1, c3, A3, by omega, by go_num, rfl, S3.out, B3.out⟩
          case measure => simp [intOf]; omega
        · obtain rfl : i = np := by omega
          have Fin : Hid (Slc wr w.heap.size Q N cP (evW N xss p)) := Lib.hid (by have := Sp.out; rwa [List.take_of_length_le (by rw [lp.out]; exact Nat.le_refl _)] at this)
          go_wp2_with fail
          go_ret2
          exact ⟨Q, N, cP, _, true, rfl, Fin.out, ⟨E2.out.symm, E1.out.symm⟩, Be.out⟩
end Go.Proofs.Ytoaaoikmkomofaa

/- The size of a slice of slices against whatever is left. No condition. -/
namespace Go.Proofs.Ytoaaoikmkomofaa
open Go.RowKit

set_option maxHeartbeats 1000000 in
theorem szSS2 (A : Option Addr) (n c : Nat) (left : Int) (vs : List SV) (xss : List (List Int)) (w : World) (hx : RR w w.heap.size A n vs xss) (hn : n ≤ maxLen) (hl : Hid (∀ i, i < n → (vs.getD i sd0).2.1 ≤ maxLen)) (h0 : 0 ≤ left) (h1 : left ≤ 1048576) :
    Calls Try.prog 46 #[.slice A n c, .int .i64 left] w fun e w' => e = .returned (.int .i64 (if ((n + tot vs n : Nat) : Int) ≤ left then left - ((n + tot vs n : Nat) : Int) else -1)) ∧ w = w' := by
  have HX := Lib.hid hx
  clear hx
  have hn' := hn
  unfold maxLen at hn'
  obtain ⟨r, er⟩ : ∃ r : Int, (if ((n + tot vs n : Nat) : Int) ≤ left then left - ((n + tot vs n : Nat) : Int) else -1) = r := ⟨_, rfl⟩
  rw [er]
  have Er := Lib.hid er
  clear er
  by_cases h : (n : Int) ≤ left
  · have d : decide (left - (n : Int) < 0) = false := by simp; omega
    have hwl : IntKind.i64.wrap (left - (n : Int)) = left - (n : Int) := by rw [IntKind.wrap_i64]; omega
    go_enter Try.func46, Try.ntmps46
    go_wp2
    go_loop [1, 5] (fun v i => ∃ (k T : Nat), k ≤ n ∧ Hid (tot vs k = T) ∧ ((n + T : Nat) : Int) ≤ left ∧ i = .int .i64 (k : Nat) ∧ v = .int .i64 (left - ((n + T : Nat) : Int))) (fun _ i => n - (intOf i).toNat)
    case atStart => exact ⟨0, 0, Nat.zero_le _, Lib.hid rfl, by omega, rfl, by go_num⟩
    case round =>
      obtain ⟨k, T, hk, hT, hT1, rfl, rfl⟩ := hrel
      clear hwl
      by_cases hlt : k < n
      · obtain ⟨b, off, A5, l, c5, y, rfl, hb, ev, ey, hc, hr, hy, hlc⟩ := HX.out.at_ hlt
        have hl1 := hl.out k hlt
        have hT2 : Hid (tot vs (k + 1) = T + l) := Lib.hid (by rw [tot_succ, hT.out, ev])
        have hm : Hid (tot vs (k + 1) ≤ tot vs n) := Lib.hid (tot_mono hlt)
        rw [ev] at hl1
        clear ev ey hr
        by_cases hfit : ((n + T + l : Nat) : Int) ≤ left
        · have d2 : decide (left - ((n + T : Nat) : Int) - (l : Int) < 0) = false := by simp; omega
          go_wp2_with fail
          refine (szS A5 l c5 _ w (by omega) (by omega) hl1).mono ?_
          rintro e w1 ⟨rfl, rfl⟩
          rw [if_pos (by omega)]
          go_wp2
          go_round
          case rel => exact ⟨k + 1, T + l, by omega, hT2, by omega, by go_num, by go_num⟩
          case measure => simp [intOf]; omega
        · go_wp2_with fail
          refine (szS A5 l c5 _ w (by omega) (by omega) hl1).mono ?_
          rintro e w1 ⟨rfl, rfl⟩
          rw [if_neg (by omega)]
          go_wp2
          go_ret
          exact ⟨by rw [← Er.out, if_neg (by have := hm.out; rw [hT2.out] at this; omega)]; rfl, rfl⟩
      · have hkn : k = n := by omega
        subst hkn
        go_wp2
        go_ret
        exact ⟨by rw [← Er.out, hT.out, if_pos hT1]; go_num, rfl⟩
  · have d : decide (left - (n : Int) < 0) = true := by simp; omega
    have er2 : r = -1 := by rw [← Er.out, if_neg (by omega)]
    have hwl : IntKind.i64.wrap (left - (n : Int)) = left - (n : Int) := by rw [IntKind.wrap_i64]; omega
    subst er2
    go_enter Try.func46, Try.ntmps46
    go_wp2
    go_ret
    exact ⟨rfl, rfl⟩
end Go.Proofs.Ytoaaoikmkomofaa

/- Slices of slices where a row elsewhere has turned. No condition. -/
namespace Go.Proofs.Ytoaaoikmkomofaa
open Go.RowKit

theorem SS.farM {w w' : World} {bo bi n c n' c' : Nat} {A A' : Option Addr} {vs : List SV} {xss : List (List Int)} (h : SS w bo bi A n c vs xss) (hg : w.grownBy w' (Value.slice A' n' c').ownBlock)
    (hd : ∀ k, (Value.slice A n c).ownBlock = some k → (Value.slice A' n' c').ownBlock = some k → False)
    (hd2 : ∀ s, s < n → ∀ k, (sval (vs.getD s sd0)).ownBlock = some k → (Value.slice A' n' c').ownBlock = some k → False) : SS w' bo bi A n c vs xss := by
  have ap : ∀ v : Value, (∀ k, v.ownBlock = some k → (Value.slice A' n' c').ownBlock = some k → False) → v.ownBlock = none ∨ v.ownBlock ≠ (Value.slice A' n' c').ownBlock := fun v hv => by
    rcases e : v.ownBlock with _ | k
    · exact .inl rfl
    · exact .inr fun e2 => hv k e e2.symm
  refine ⟨h.own.kept hg (ap _ hd), h.lv, h.lx, fun i hi => (h.row i hi).kept hg (ap _ (hd2 i hi)), h.dis⟩
end Go.Proofs.Ytoaaoikmkomofaa

/- The walk of the law FnExactEvaluateWord: it returns true at every input, and writes nothing that was there. No condition but the program's own contract. -/
namespace Go.Proofs.Ytoaaoikmkomofaa
open Go.RowKit

set_option maxHeartbeats 4000000 in
set_option maxRecDepth 100000 in
/-- The law FnExactEvaluateWord. -/
theorem lawEvaluateWord (IM : CtImvP 18 IsEvw) (i0 : Int) (g1A : Option Addr) (g1n g1c : Nat) (g1v : List SV) (g1x : List (List Int)) (s2A : Option Addr) (s2n s2c : Nat) (s2x : List Int) (w : World) (wfi0 : I64 i0) (hg1 : RR w w.heap.size g1A g1n g1v g1x) (hmg1 : g1n ≤ maxLen) (hkg1 : Hid (∀ i, i < g1n → (g1v.getD i sd0).2.1 ≤ maxLen)) (hs2 : RI w w.heap.size s2A s2x) (ls2 : Hid (s2x.length = s2n)) (vs2 : Hid (VI s2x)) :
    Calls Try.prog 7 #[.int .i64 i0, .slice g1A g1n g1c, .slice s2A s2n s2c] w fun e w' => e = .returned (.bool true) ∧ Below w.heap.size w w' := by
  have Hg1 := Lib.hid hg1
  have hlxg1 := Lib.hid hg1.lx
  have hllg1 := Lib.hid hg1.lens
  have Hs2 := Lib.hid hs2
  clear hg1 hs2
  by_cases hns2 : s2n ≤ 1048576
  · skip
    by_cases hT0 : ((g1n + tot g1v g1n : Nat) : Int) ≤ (1048576 : Int)
    · skip
      have HT0 := Lib.hid hT0
      obtain ⟨LE, eLE⟩ : ∃ L : Int, (1048576 : Int) - ((g1n + tot g1v g1n : Nat) : Int) = L := ⟨_, rfl⟩
      have hLE : ¬ LE < 0 := by omega
      have dLE : decide (LE < 0) = false := by simp; omega
      have ELE := Lib.hid eLE
      clear eLE
      have hng1 : g1n ≤ 1048576 := by omega
      have KTg1 : Hid (tot g1v g1n ≤ 1048576) := Lib.hid (by omega)
      have hlg1 : Hid (∀ i, i < g1n → (g1v.getD i sd0).2.1 ≤ 1048576) := Lib.hid fun i hi => by have := tot_row (vs := g1v) hi; have := KTg1.out; omega
      have hylg1 : Hid (∀ i, i < g1n → (g1x.getD i []).length ≤ 1048576) := Lib.hid fun i hi => by rw [hllg1.out i hi]; exact hlg1.out i hi
      clear hT0 
      go_enter Try.func7, Try.ntmps7
      go_wp2_with fail
      have K0 := szSS2 g1A g1n g1c 1048576 g1v g1x w Hg1.out hmg1 hkg1 (by decide) (by decide)
      refine K0.mono ?_
      rintro e w0 ⟨rfl, rfl⟩
      clear K0
      rw [if_pos HT0.out]
      rw [ELE.out]
      go_wp2_with fail
      refine (toSS g1A g1n g1c g1v g1x w Hg1.out hng1 hlg1).mono ?_
      rintro e w1 ⟨A1, c1, us1, rfl, s1, q1, b1⟩
      have Z1 : Hid (w.heap.size ≤ w1.heap.size) := Lib.hid b1.size
      have B1 : Hid (Below w.heap.size w w1) := Lib.hid b1
      have Ftg1_1 := Lib.hid s1
      have Ltg1 : Hid (Lies A1 g1n c1 w.heap.size w1.heap.size) := Lib.hid s1.lt_
      have Itg1 : Hid (∀ t, t < g1n → ∀ k, (sval (us1.getD t sd0)).ownBlock = some k → w.heap.size ≤ k ∧ k < w1.heap.size) := Lib.hid fun t ht => (s1.row t ht).lt_
      have Qtg1 := Lib.hid q1
      have hltg1 : Hid (∀ i, i < g1n → (us1.getD i sd0).2.1 ≤ 1048576) := Lib.hid fun i hi => by rw [q1 i hi]; exact hlg1.out i hi
      clear s1 b1 q1
      go_wp2_with fail
      refine (toS_any s2A s2c s2n s2x w1 (Hs2.out.up B1.out) ls2 (by omega)).mono ?_
      rintro e w2 ⟨A2, c2, rfl, s2, b2⟩
      have Z2 : Hid (w1.heap.size ≤ w2.heap.size) := Lib.hid b2.size
      have B2 : Hid (Below w.heap.size w w2) := Lib.hid (btr B1.out b2)
      have Ftg1_2 := Lib.hid (Ftg1_1.out.up b2)
      clear Ftg1_1
      have Fts2_2 := Lib.hid s2
      have Lts2 : Hid (Lies A2 s2n c2 w1.heap.size w2.heap.size) := Lib.hid s2.lies
      have lets2 := s2.le.1
      clear s2 b2
      go_wp2_with fail
      have K3 := ctEvw i0 A1 g1n c1 us1 g1x A2 s2n c2 s2x w2 ⟨Ftg1_2.out.rr, hng1, hltg1.out⟩ ⟨Fts2_2.out.ri_, ls2.out, hns2, lets2⟩ wfi0
      refine K3.mono ?_
      clear K3
      rintro e w3 ⟨A3, n3, c3, z3, ok3, rfl, s3, r3, b3⟩
      have m3 : n3 ≤ 1048576 := by have := IsEvw.len r3; have := s3.1; omega
      have Z3 : Hid (w2.heap.size ≤ w3.heap.size) := Lib.hid b3.size
      have B3 : Hid (Below w.heap.size w w3) := Lib.hid (btr B2.out b3)
      have Ftg1_3 := Lib.hid (Ftg1_2.out.up b3)
      clear Ftg1_2
      have Fts2_3 := Lib.hid (Fts2_2.out.up b3)
      clear Fts2_2
      have HR := Lib.hid r3
      clear r3
      have FW_3 := Lib.hid s3
      have LW : Hid (Lies A3 n3 c3 w2.heap.size w3.heap.size) := Lib.hid s3.lies
      clear s3 b3
      clear Ftg1_3
      clear Fts2_3
      go_wp2_with fail
      refine (toSS g1A g1n g1c g1v g1x w3 (Hg1.out.up B3.out) hng1 hlg1).mono ?_
      rintro e w4 ⟨A4, c4, us4, rfl, s4, q4, b4⟩
      have Z4 : Hid (w3.heap.size ≤ w4.heap.size) := Lib.hid b4.size
      have B4 : Hid (Below w.heap.size w w4) := Lib.hid (btr B3.out b4)
      have FW_4 := Lib.hid (FW_3.out.up b4)
      clear FW_3
      have Fxg1_4 := Lib.hid s4
      have Lxg1 : Hid (Lies A4 g1n c4 w3.heap.size w4.heap.size) := Lib.hid s4.lt_
      have Ixg1 : Hid (∀ t, t < g1n → ∀ k, (sval (us4.getD t sd0)).ownBlock = some k → w3.heap.size ≤ k ∧ k < w4.heap.size) := Lib.hid fun t ht => (s4.row t ht).lt_
      have Qxg1 := Lib.hid q4
      have hlxg1 : Hid (∀ i, i < g1n → (us4.getD i sd0).2.1 ≤ 1048576) := Lib.hid fun i hi => by rw [q4 i hi]; exact hlg1.out i hi
      clear s4 b4 q4
      go_wp2_with fail
      refine (toS_any s2A s2c s2n s2x w4 (Hs2.out.up B4.out) ls2 (by omega)).mono ?_
      rintro e w5 ⟨A5, c5, rfl, s5, b5⟩
      have Z5 : Hid (w4.heap.size ≤ w5.heap.size) := Lib.hid b5.size
      have B5 : Hid (Below w.heap.size w w5) := Lib.hid (btr B4.out b5)
      have FW_5 := Lib.hid (FW_4.out.up b5)
      clear FW_4
      have Fxg1_5 := Lib.hid (Fxg1_4.out.up b5)
      clear Fxg1_4
      have Fxs2_5 := Lib.hid s5
      have Lxs2 : Hid (Lies A5 s2n c5 w4.heap.size w5.heap.size) := Lib.hid s5.lies
      have lexs2 := s5.le.1
      clear s5 b5
      go_wp2_with fail
      have K6 := IM i0 A4 g1n c4 us4 g1x A5 s2n c5 s2x w5 ⟨Fxg1_5.out.rr, hng1, hlxg1.out⟩ ⟨Fxs2_5.out.ri_, ls2.out, hns2, lexs2⟩ wfi0 vs2
      refine K6.mono ?_
      clear K6
      rintro e w6 ⟨A6, n6, c6, z6, ok6, rfl, s6, r6, b6⟩
      have m6 : n6 ≤ 1048576 := by have := IsEvw.len r6; have := s6.1; omega
      have Z6 : Hid (w5.heap.size ≤ w6.heap.size) := Lib.hid b6.size
      have B6 : Hid (Below w.heap.size w w6) := Lib.hid (btr B5.out b6)
      have FW_6 := Lib.hid (FW_5.out.up b6)
      clear FW_5
      have Fxg1_6 := Lib.hid (Fxg1_5.out.up b6)
      clear Fxg1_5
      have Fxs2_6 := Lib.hid (Fxs2_5.out.up b6)
      clear Fxs2_5
      obtain ⟨e6, f6⟩ := HR.out.uniq r6
      subst e6 f6
      clear r6
      have FG_6 := Lib.hid s6
      have LG : Hid (Lies A6 n6 c6 w5.heap.size w6.heap.size) := Lib.hid s6.lies
      clear s6 b6
      go_wp2_with fail
      refine (eqS_same _ _ A6 A3 n6 c6 n3 c3 w6 FG_6.out FW_6.out (by omega)).mono ?_
      rintro e w7 ⟨rfl, b7⟩
      have Z7 : Hid (w6.heap.size ≤ w7.heap.size) := Lib.hid b7.size
      have B7 : Hid (Below w.heap.size w w7) := Lib.hid (btr B6.out b7)
      have FW_7 := Lib.hid (FW_6.out.up b7)
      clear FW_6
      have Fxg1_7 := Lib.hid (Fxg1_6.out.up b7)
      clear Fxg1_6
      have Fxs2_7 := Lib.hid (Fxs2_6.out.up b7)
      clear Fxs2_6
      have FG_7 := Lib.hid (FG_6.out.up b7)
      clear FG_6
      clear b7
      go_wp2_with fail
      refine (toSS g1A g1n g1c g1v g1x w7 (Hg1.out.up B7.out) hng1 hlg1).mono ?_
      rintro e w8 ⟨A8, c8, us8, rfl, s8, q8, b8⟩
      have Z8 : Hid (w7.heap.size ≤ w8.heap.size) := Lib.hid b8.size
      have B8 : Hid (Below w.heap.size w w8) := Lib.hid (btr B7.out b8)
      have FW_8 := Lib.hid (FW_7.out.up b8)
      clear FW_7
      have Fxg1_8 := Lib.hid (Fxg1_7.out.up b8)
      clear Fxg1_7
      have Fxs2_8 := Lib.hid (Fxs2_7.out.up b8)
      clear Fxs2_7
      have FG_8 := Lib.hid (FG_7.out.up b8)
      clear FG_7
      have Fyg1_8 := Lib.hid s8
      have Lyg1 : Hid (Lies A8 g1n c8 w7.heap.size w8.heap.size) := Lib.hid s8.lt_
      have Iyg1 : Hid (∀ t, t < g1n → ∀ k, (sval (us8.getD t sd0)).ownBlock = some k → w7.heap.size ≤ k ∧ k < w8.heap.size) := Lib.hid fun t ht => (s8.row t ht).lt_
      have Qyg1 := Lib.hid q8
      have hlyg1 : Hid (∀ i, i < g1n → (us8.getD i sd0).2.1 ≤ 1048576) := Lib.hid fun i hi => by rw [q8 i hi]; exact hlg1.out i hi
      clear s8 b8 q8
      go_wp2_with fail
      refine (eqRR_same A4 A8 g1n c4 g1n c8 us4 us8 _ w8 Fxg1_8.out.rr Fyg1_8.out.rr (by omega) hylg1).mono ?_
      rintro e w9 ⟨rfl, b9⟩
      have Z9 : Hid (w8.heap.size ≤ w9.heap.size) := Lib.hid b9.size
      have B9 : Hid (Below w.heap.size w w9) := Lib.hid (btr B8.out b9)
      have FW_9 := Lib.hid (FW_8.out.up b9)
      clear FW_8
      have Fxg1_9 := Lib.hid (Fxg1_8.out.up b9)
      clear Fxg1_8
      have Fxs2_9 := Lib.hid (Fxs2_8.out.up b9)
      clear Fxs2_8
      have FG_9 := Lib.hid (FG_8.out.up b9)
      clear FG_8
      have Fyg1_9 := Lib.hid (Fyg1_8.out.up b9)
      clear Fyg1_8
      clear b9
      clear Fyg1_9
      go_wp2_with fail
      refine (toS_any s2A s2c s2n s2x w9 (Hs2.out.up B9.out) ls2 (by omega)).mono ?_
      rintro e w10 ⟨A10, c10, rfl, s10, b10⟩
      have Z10 : Hid (w9.heap.size ≤ w10.heap.size) := Lib.hid b10.size
      have B10 : Hid (Below w.heap.size w w10) := Lib.hid (btr B9.out b10)
      have FW_10 := Lib.hid (FW_9.out.up b10)
      clear FW_9
      have Fxg1_10 := Lib.hid (Fxg1_9.out.up b10)
      clear Fxg1_9
      have Fxs2_10 := Lib.hid (Fxs2_9.out.up b10)
      clear Fxs2_9
      have FG_10 := Lib.hid (FG_9.out.up b10)
      clear FG_9
      have Fys2_10 := Lib.hid s10
      have Lys2 : Hid (Lies A10 s2n c10 w9.heap.size w10.heap.size) := Lib.hid s10.lies
      have leys2 := s10.le.1
      clear s10 b10
      go_wp2_with fail
      refine (eqS_same _ _ A5 A10 s2n c5 s2n c10 w10 Fxs2_10.out Fys2_10.out (by omega)).mono ?_
      rintro e w11 ⟨rfl, b11⟩
      have Z11 : Hid (w10.heap.size ≤ w11.heap.size) := Lib.hid b11.size
      have B11 : Hid (Below w.heap.size w w11) := Lib.hid (btr B10.out b11)
      have FW_11 := Lib.hid (FW_10.out.up b11)
      clear FW_10
      have Fxg1_11 := Lib.hid (Fxg1_10.out.up b11)
      clear Fxg1_10
      have Fxs2_11 := Lib.hid (Fxs2_10.out.up b11)
      clear Fxs2_10
      have FG_11 := Lib.hid (FG_10.out.up b11)
      clear FG_10
      have Fys2_11 := Lib.hid (Fys2_10.out.up b11)
      clear Fys2_10
      clear b11
      clear Fys2_11
      have KTx : Hid (tot us4 g1n ≤ 1048576) := Lib.hid (by rw [tot_eq g1n Qxg1.out]; exact KTg1.out)
      go_wp2_with fail
      refine (markSS A4 g1n c4 _ _ us4 _ w11 Fxg1_11.out (by omega) KTx).mono ?_
      rintro e w12 ⟨rfl, s12, o12⟩
      have Z12 : Hid (w11.heap.size ≤ w12.heap.size) := Lib.hid o12.size
      have B12 : Hid (Below w.heap.size w w12) := Lib.hid (B11.out.trans (o12.below B11.out.size (fun t ht k e => by have h2 := Ixg1.out t ht k e; have := Z1.out; have := Z2.out; have := Z3.out; have := Z4.out; have := Z5.out; have := Z6.out; have := Z7.out; have := Z8.out; have := Z9.out; have := Z10.out; have := Z11.out; have := Z12.out; omega)))
      have FW_12 := Lib.hid (FW_11.out.only o12 (fun k hk t ht e => by have h1 := LW.out k hk; have h2 := Ixg1.out t ht k e; have := Z1.out; have := Z2.out; have := Z3.out; have := Z4.out; have := Z5.out; have := Z6.out; have := Z7.out; have := Z8.out; have := Z9.out; have := Z10.out; have := Z11.out; have := Z12.out; omega))
      clear FW_11
      have Fxg1_12 := Lib.hid s12
      clear Fxg1_11
      have Fxs2_12 := Lib.hid (Fxs2_11.out.only o12 (fun k hk t ht e => by have h1 := Lxs2.out k hk; have h2 := Ixg1.out t ht k e; have := Z1.out; have := Z2.out; have := Z3.out; have := Z4.out; have := Z5.out; have := Z6.out; have := Z7.out; have := Z8.out; have := Z9.out; have := Z10.out; have := Z11.out; have := Z12.out; omega))
      clear Fxs2_11
      have FG_12 := Lib.hid (FG_11.out.only o12 (fun k hk t ht e => by have h1 := LG.out k hk; have h2 := Ixg1.out t ht k e; have := Z1.out; have := Z2.out; have := Z3.out; have := Z4.out; have := Z5.out; have := Z6.out; have := Z7.out; have := Z8.out; have := Z9.out; have := Z10.out; have := Z11.out; have := Z12.out; omega))
      clear FG_11
      clear s12 o12
      obtain ⟨T, eT⟩ : ∃ T, tot us4 g1n = T := ⟨_, rfl⟩
      have hT9 : T ≤ 1048576 := by rw [← eT]; exact KTx.out
      rw [eT]
      clear eT
      go_wp2_with fail
      refine (markK _ (1 + T) _ A5 s2n c5 _ w12 Fxs2_12.out (by omega) (by omega) (by omega)).mono ?_
      rintro e w13 ⟨rfl, s13, g13⟩
      have Z13 : Hid (w12.heap.size ≤ w13.heap.size) := Lib.hid g13.size
      have B13 : Hid (Below w.heap.size w w13) := Lib.hid (B12.out.trans (below_mark g13 Lxs2.out (by have := Z1.out; have := Z2.out; have := Z3.out; have := Z4.out; have := Z5.out; have := Z6.out; have := Z7.out; have := Z8.out; have := Z9.out; have := Z10.out; have := Z11.out; have := Z12.out; have := Z13.out; omega) B12.out.size))
      have FW_13 := Lib.hid (FW_12.out.far g13 LW.out Lxs2.out (.inl (by have := Z1.out; have := Z2.out; have := Z3.out; have := Z4.out; have := Z5.out; have := Z6.out; have := Z7.out; have := Z8.out; have := Z9.out; have := Z10.out; have := Z11.out; have := Z12.out; have := Z13.out; omega)))
      clear FW_12
      have Fxg1_13 := Lib.hid (Fxg1_12.out.farM g13 (fun k hk e => by have h1 := Lxg1.out k hk; have h2 := Lxs2.out k e; have := Z1.out; have := Z2.out; have := Z3.out; have := Z4.out; have := Z5.out; have := Z6.out; have := Z7.out; have := Z8.out; have := Z9.out; have := Z10.out; have := Z11.out; have := Z12.out; have := Z13.out; omega) (fun s hs k hk e => by have h1 := Ixg1.out s hs k hk; have h2 := Lxs2.out k e; have := Z1.out; have := Z2.out; have := Z3.out; have := Z4.out; have := Z5.out; have := Z6.out; have := Z7.out; have := Z8.out; have := Z9.out; have := Z10.out; have := Z11.out; have := Z12.out; have := Z13.out; omega))
      clear Fxg1_12
      have Fxs2_13 := Lib.hid s13
      clear Fxs2_12
      have FG_13 := Lib.hid (FG_12.out.far g13 LG.out Lxs2.out (.inr (by have := Z1.out; have := Z2.out; have := Z3.out; have := Z4.out; have := Z5.out; have := Z6.out; have := Z7.out; have := Z8.out; have := Z9.out; have := Z10.out; have := Z11.out; have := Z12.out; have := Z13.out; omega)))
      clear FG_12
      clear s13 g13
      go_wp2_with fail
      refine (eqS_same _ _ A6 A3 n6 c6 n3 c3 w13 FG_13.out FW_13.out (by omega)).mono ?_
      rintro e w14 ⟨rfl, b14⟩
      have Z14 : Hid (w13.heap.size ≤ w14.heap.size) := Lib.hid b14.size
      have B14 : Hid (Below w.heap.size w w14) := Lib.hid (btr B13.out b14)
      have FW_14 := Lib.hid (FW_13.out.up b14)
      clear FW_13
      have Fxg1_14 := Lib.hid (Fxg1_13.out.up b14)
      clear Fxg1_13
      have Fxs2_14 := Lib.hid (Fxs2_13.out.up b14)
      clear Fxs2_13
      have FG_14 := Lib.hid (FG_13.out.up b14)
      clear FG_13
      clear b14
      clear Fxg1_14
      clear Fxs2_14
      go_wp2_with fail
      refine (mark1 _ A6 n6 c6 _ w14 FG_14.out (by omega)).mono ?_
      rintro e w15 ⟨rfl, s15, g15⟩
      have Z15 : Hid (w14.heap.size ≤ w15.heap.size) := Lib.hid g15.size
      have B15 : Hid (Below w.heap.size w w15) := Lib.hid (B14.out.trans (below_mark g15 LG.out (by have := Z1.out; have := Z2.out; have := Z3.out; have := Z4.out; have := Z5.out; have := Z6.out; have := Z7.out; have := Z8.out; have := Z9.out; have := Z10.out; have := Z11.out; have := Z12.out; have := Z13.out; have := Z14.out; have := Z15.out; omega) B14.out.size))
      have FW_15 := Lib.hid (FW_14.out.far g15 LW.out LG.out (.inl (by have := Z1.out; have := Z2.out; have := Z3.out; have := Z4.out; have := Z5.out; have := Z6.out; have := Z7.out; have := Z8.out; have := Z9.out; have := Z10.out; have := Z11.out; have := Z12.out; have := Z13.out; have := Z14.out; have := Z15.out; omega)))
      clear FW_14
      have FG_15 := Lib.hid s15
      clear FG_14
      clear s15 g15
      go_wp2_with fail
      refine (held1 _ A6 n6 c6 w15 FG_15.out (by omega)).mono ?_
      rintro e w' ⟨rfl, rfl⟩
      go_wp2_with fail
      refine (toSS g1A g1n g1c g1v g1x w15 (Hg1.out.up B15.out) hng1 hlg1).mono ?_
      rintro e w16 ⟨A16, c16, us16, rfl, s16, q16, b16⟩
      have Z16 : Hid (w15.heap.size ≤ w16.heap.size) := Lib.hid b16.size
      have B16 : Hid (Below w.heap.size w w16) := Lib.hid (btr B15.out b16)
      have FW_16 := Lib.hid (FW_15.out.up b16)
      clear FW_15
      have FG_16 := Lib.hid (FG_15.out.up b16)
      clear FG_15
      have Fzg1_16 := Lib.hid s16
      have Lzg1 : Hid (Lies A16 g1n c16 w15.heap.size w16.heap.size) := Lib.hid s16.lt_
      have Izg1 : Hid (∀ t, t < g1n → ∀ k, (sval (us16.getD t sd0)).ownBlock = some k → w15.heap.size ≤ k ∧ k < w16.heap.size) := Lib.hid fun t ht => (s16.row t ht).lt_
      have Qzg1 := Lib.hid q16
      have hlzg1 : Hid (∀ i, i < g1n → (us16.getD i sd0).2.1 ≤ 1048576) := Lib.hid fun i hi => by rw [q16 i hi]; exact hlg1.out i hi
      clear s16 b16 q16
      go_wp2_with fail
      refine (toS_any s2A s2c s2n s2x w16 (Hs2.out.up B16.out) ls2 (by omega)).mono ?_
      rintro e w17 ⟨A17, c17, rfl, s17, b17⟩
      have Z17 : Hid (w16.heap.size ≤ w17.heap.size) := Lib.hid b17.size
      have B17 : Hid (Below w.heap.size w w17) := Lib.hid (btr B16.out b17)
      have FW_17 := Lib.hid (FW_16.out.up b17)
      clear FW_16
      have FG_17 := Lib.hid (FG_16.out.up b17)
      clear FG_16
      have Fzg1_17 := Lib.hid (Fzg1_16.out.up b17)
      clear Fzg1_16
      have Fzs2_17 := Lib.hid s17
      have Lzs2 : Hid (Lies A17 s2n c17 w16.heap.size w17.heap.size) := Lib.hid s17.lies
      have lezs2 := s17.le.1
      clear s17 b17
      go_wp2_with fail
      have K18 := IM i0 A16 g1n c16 us16 g1x A17 s2n c17 s2x w17 ⟨Fzg1_17.out.rr, hng1, hlzg1.out⟩ ⟨Fzs2_17.out.ri_, ls2.out, hns2, lezs2⟩ wfi0 vs2
      refine K18.mono ?_
      clear K18
      rintro e w18 ⟨A18, n18, c18, z18, ok18, rfl, s18, r18, b18⟩
      have m18 : n18 ≤ 1048576 := by have := IsEvw.len r18; have := s18.1; omega
      have Z18 : Hid (w17.heap.size ≤ w18.heap.size) := Lib.hid b18.size
      have B18 : Hid (Below w.heap.size w w18) := Lib.hid (btr B17.out b18)
      have FW_18 := Lib.hid (FW_17.out.up b18)
      clear FW_17
      have FG_18 := Lib.hid (FG_17.out.up b18)
      clear FG_17
      have Fzg1_18 := Lib.hid (Fzg1_17.out.up b18)
      clear Fzg1_17
      have Fzs2_18 := Lib.hid (Fzs2_17.out.up b18)
      clear Fzs2_17
      obtain ⟨e18, f18⟩ := HR.out.uniq r18
      subst e18 f18
      clear r18
      have FH_18 := Lib.hid s18
      have LH : Hid (Lies A18 n18 c18 w17.heap.size w18.heap.size) := Lib.hid s18.lies
      clear s18 b18
      clear Fzg1_18
      clear Fzs2_18
      go_wp2_with fail
      refine (eqS_same _ _ A18 A3 n18 c18 n3 c3 w18 FH_18.out FW_18.out (by omega)).mono ?_
      rintro e w19 ⟨rfl, b19⟩
      have Z19 : Hid (w18.heap.size ≤ w19.heap.size) := Lib.hid b19.size
      have B19 : Hid (Below w.heap.size w w19) := Lib.hid (btr B18.out b19)
      have FW_19 := Lib.hid (FW_18.out.up b19)
      clear FW_18
      have FG_19 := Lib.hid (FG_18.out.up b19)
      clear FG_18
      have FH_19 := Lib.hid (FH_18.out.up b19)
      clear FH_18
      clear b19
      go_wp2_with fail
      refine (held1 _ A6 n6 c6 w19 FG_19.out (by omega)).mono ?_
      rintro e w' ⟨rfl, rfl⟩
      go_wp2_with fail
      go_ret
      exact ⟨rfl, B19.out⟩
    · skip
      have HT0 := Lib.hid hT0
      clear hT0
      go_enter Try.func7, Try.ntmps7
      go_wp2_with fail
      have K0 := szSS2 g1A g1n g1c 1048576 g1v g1x w Hg1.out hmg1 hkg1 (by decide) (by decide)
      refine K0.mono ?_
      rintro e w0 ⟨rfl, rfl⟩
      clear K0
      rw [if_neg (Int.not_le.2 HT0.out)]
      go_wp2
      go_ret
      exact ⟨rfl, Below.refl _ _⟩
  · skip
    have d1 : decide ((1048576 : Int) < s2n) = true := by simp; omega
    go_enter Try.func7, Try.ntmps7
    go_wp2
    go_ret
    exact ⟨rfl, Below.refl _ _⟩
end Go.Proofs.Ytoaaoikmkomofaa

/- The model's order of words. Condition: at most 2097152 letters in a word. -/
namespace Go.Proofs.Ytoaaoikmkomofaa
open Go.RowKit

def wlB (a b : List Int) : Bool := vW 8 a && vW 8 b && lsW a b

theorem specRank (l : Int) (w : World) (h1 : -8 ≤ l) (h2 : l ≤ 8) :
    Calls Try.prog 97 #[.int .i64 l] w fun e w' => e = .returned (.int .i64 (rnkW l)) ∧ ∃ m, w' = w.drewN m := by
  unfold rnkW
  by_cases h : l < 0
  · have d0 : decide (l < 0) = true := by simpa using h
    have w1 : IntKind.i64.wrap (-2 * l) = -2 * l := by rw [IntKind.wrap_i64]; omega
    have w2 : IntKind.i64.wrap (-2 * l - 1) = -2 * l - 1 := by rw [IntKind.wrap_i64]; omega
    rw [if_pos h]
    go_enter Try.func97, Try.ntmps97
    go_wp2_with fail
    go_ret
    exact ⟨rfl, 0, rfl⟩
  · have d0 : decide (l < 0) = false := by simpa using h
    have w1 : IntKind.i64.wrap (2 * l) = 2 * l := by rw [IntKind.wrap_i64]; omega
    have w2 : IntKind.i64.wrap (2 * l - 2) = 2 * l - 2 := by rw [IntKind.wrap_i64]; omega
    rw [if_neg h]
    go_enter Try.func97, Try.ntmps97
    go_wp2_with fail
    go_ret
    exact ⟨rfl, 0, rfl⟩

set_option maxHeartbeats 8000000 in
set_option maxRecDepth 100000 in
theorem specWls (A B : Option Addr) (c d n m : Nat) (a b : List Int) (w : World) (hx : RI w w.heap.size A a) (hy : RI w w.heap.size B b) (la : Hid (a.length = n)) (lb : Hid (b.length = m)) (hn : n ≤ 200) (hm : m ≤ 200) (ha : Hid (∀ i, i < n → -8 ≤ a.getD i 0 ∧ a.getD i 0 ≤ 8)) (hb : Hid (∀ i, i < m → -8 ≤ b.getD i 0 ∧ b.getD i 0 ≤ 8)) :
    Calls Try.prog 80 #[.slice A n c, .slice B m d] w fun e w' => e = .returned (.bool (lsW a b)) ∧ ∃ q, w' = w.drewN q := by
  have HX := Lib.hid hx
  have HY := Lib.hid hy
  clear hx hy
  by_cases hnm : n = m
  · subst hnm
    have El : Hid (lsW a b = lexW a b) := Lib.hid (by unfold lsW; rw [if_pos (by rw [la.out, lb.out])])
    go_enter Try.func80, Try.ntmps80
    go_wp2_with fail
    go_loopw [5] (fun i wr => ∃ k : Nat, k ≤ n ∧ i = .int .i64 (k : Nat) ∧ (∀ j, j < k → a.getD j 0 = b.getD j 0) ∧ ∃ q, wr = w.drewN q) (fun i _ => n - (intOf i).toNat)
    case atStart => exact ⟨0, Nat.zero_le _, rfl, fun j h => absurd h (Nat.not_lt_zero _), 0, rfl⟩
    case round =>
      obtain ⟨k, hk, rfl, heq, q, rfl⟩ := hrel
      have Heq := Lib.hid heq
      clear heq
      by_cases hlt : k < n
      · obtain ⟨b1, o1, rfl, _, hc1⟩ := HX.out (by rw [la.out]; omega)
        obtain ⟨b2, o2, rfl, _, hc2⟩ := HY.out (by rw [lb.out]; omega)
        have c1 := hc1 k (by rw [la.out]; exact hlt)
        have c2 := hc2 k (by rw [lb.out]; exact hlt)
        have hax := ha.out k hlt
        have hbx := hb.out k hlt
        obtain ⟨x, ex⟩ : ∃ x, a.getD k 0 = x := ⟨_, rfl⟩
        obtain ⟨y, ey⟩ : ∃ y, b.getD k 0 = y := ⟨_, rfl⟩
        rw [ex] at c1 hax
        rw [ey] at c2 hbx
        have Ex := Lib.hid ex
        have Ey := Lib.hid ey
        clear hc1 hc2 ex ey
        have p0 : (0 : Int) ≤ k := by omega
        have p1 : (k : Int) < n := by omega
        by_cases hxy : x = y
        · have dn : (x != y) = false := by simpa using hxy
          go_wp2_with fail
          go_quiet (fail)
          go_wp2_with fail
          go_roundw
          case rel => exact ⟨k + 1, by omega, by go_num, fun j hj => by
            by_cases e : j = k
            · subst e; rw [Ex.out, Ey.out]; exact hxy
            · exact Heq.out j (by omega), _, rfl⟩
          case measure => simp [intOf]; omega
        · have dn : (x != y) = true := by simpa using hxy
          have Lx : Hid (lexW a b = decide (rnkW x < rnkW y)) := Lib.hid (by
            rw [← Ex.out, ← Ey.out]
            exact lexW_at a b k (by rw [la.out, lb.out]) (by rw [la.out]; exact hlt) Heq.out (by rw [Ex.out, Ey.out]; exact hxy))
          go_wp2_with fail
          go_quiet (fail)
          go_wp2_with fail
          go_quiet ((go_at_call 97; exact quiet_add (specRank _ _ (by omega) (by omega))))
          go_wp2_with fail
          go_ret
          exact ⟨ret_bool (by rw [El.out, Lx.out]), _, by rw [World.drewN_drewN, World.drewN_drewN]⟩
      · obtain rfl : k = n := by omega
        have Lx : Hid (lexW a b = false) := Lib.hid (lexW_eq a b (by rw [la.out, lb.out]) fun j hj => Heq.out j (by rw [← la.out]; exact hj))
        go_wp2_with fail
        go_ret
        exact ⟨by rw [El.out, Lx.out]; try rfl, _, rfl⟩
  · have dn : ((n : Int) != (m : Int)) = true := by rw [bne_iff_ne]; omega
    have El : Hid (lsW a b = decide (n < m)) := Lib.hid (by unfold lsW; rw [if_neg (by rw [la.out, lb.out]; exact hnm), la.out, lb.out])
    go_enter Try.func80, Try.ntmps80
    go_wp2_with fail
    go_ret
    exact ⟨by rw [El.out]; first | rfl | (simp; done) | exact congrArg _ (congrArg _ (by simp)), 0, rfl⟩

theorem specWordLess (A B : Option Addr) (c d n m : Nat) (a b : List Int) (w : World) (hx : RI w w.heap.size A a) (hy : RI w w.heap.size B b) (la : Hid (a.length = n)) (lb : Hid (b.length = m)) (hn : n ≤ 2097152) (hm : m ≤ 2097152) :
    Calls Try.prog 42 #[.slice A n c, .slice B m d] w fun e w' => e = .returned (.bool (wlB a b)) ∧ Below w.heap.size w w' := by
  have HX := Lib.hid hx
  have HY := Lib.hid hy
  clear hx hy
  rcases ha : vW 8 a with _ | _
  · have Ha := Lib.hid ha
    have Fin : Hid (wlB a b = false) := Lib.hid (by unfold wlB; rw [ha]; rfl)
    clear ha
    go_enter Try.func42, Try.ntmps42
    go_wp2_with fail
    refine (specIsWd A n c a w HX.out la hn).mono ?_
    rintro e w' ⟨rfl, rfl⟩
    rw [Ha.out]
    go_wp2_with fail
    go_ret
    exact ⟨ret_bool Fin.out.symm, Below.refl _ _⟩
  · have Ha := Lib.hid ha
    have hsa := small_of ha la.out
    have hna := hsa.1
    have Hla := Lib.hid hsa.2
    clear ha hsa
    rcases hb : vW 8 b with _ | _
    · have Hb := Lib.hid hb
      have Fin : Hid (wlB a b = false) := Lib.hid (by unfold wlB; rw [Ha.out, hb]; rfl)
      clear hb
      go_enter Try.func42, Try.ntmps42
      go_wp2_with fail
      refine (specIsWd A n c a w HX.out la hn).mono ?_
      rintro e w' ⟨rfl, rfl⟩
      rw [Ha.out]
      go_wp2_with fail
      refine (specIsWd B m d b w HY.out lb hm).mono ?_
      rintro e w' ⟨rfl, rfl⟩
      rw [Hb.out]
      go_wp2_with fail
      go_ret
      exact ⟨ret_bool Fin.out.symm, Below.refl _ _⟩
    · have Hb := Lib.hid hb
      have hsb := small_of hb lb.out
      have hnb := hsb.1
      have Hlb := Lib.hid hsb.2
      have Fin : Hid (wlB a b = lsW a b) := Lib.hid (by unfold wlB; rw [Ha.out, hb]; rfl)
      clear hb hsb
      go_enter Try.func42, Try.ntmps42
      go_wp2_with fail
      refine (specIsWd A n c a w HX.out la hn).mono ?_
      rintro e w' ⟨rfl, rfl⟩
      rw [Ha.out]
      go_wp2_with fail
      refine (specIsWd B m d b w HY.out lb hm).mono ?_
      rintro e w' ⟨rfl, rfl⟩
      rw [Hb.out]
      go_wp2_with fail
      refine (specWls A B c d n m a b w HX.out HY.out la lb hna hnb Hla Hlb).mono ?_
      rintro e w1 ⟨rfl, q, rfl⟩
      have Be := Lib.hid (below_drewN (Below.refl w.heap.size w) q)
      go_wp2_with fail
      go_ret
      exact ⟨ret_bool Fin.out.symm, Be.out⟩
end Go.Proofs.Ytoaaoikmkomofaa

/- The program's order of words. Condition: at most 2097152 letters in a word, numbers of 64 bits. -/
namespace Go.Proofs.Ytoaaoikmkomofaa
open Go.RowKit

def cmI (x y : Int) : Int := if x < y then -1 else if y < x then 1 else 0
def orI (x y : Int) : Int := if x = 0 then y else x
def cmL (x y : Int) : Int := orI (cmI (gnL x) (gnL y)) (cmI y x)
theorem cmL_zero {x y : Int} : cmL x y = 0 ↔ x = y := by
  unfold cmL orI cmI
  constructor
  · intro h; split at h <;> (try split at h) <;> (try split at h) <;> (try split at h) <;> omega
  · rintro rfl; simp
theorem cmL_neg {x y : Int} (hx : x ≠ 0 ∧ -8 ≤ x ∧ x ≤ 8) (hy : y ≠ 0 ∧ -8 ≤ y ∧ y ≤ 8) : cmL x y < 0 ↔ rnkW x < rnkW y := by
  have gx : gnL x = if x < 0 then -x else x := by
    split
    · exact gnL_neg (by omega) (by omega)
    · exact gnL_pos (by omega)
  have gy : gnL y = if y < 0 then -y else y := by
    split
    · exact gnL_neg (by omega) (by omega)
    · exact gnL_pos (by omega)
  unfold cmL orI cmI rnkW
  rw [gx, gy]
  by_cases h1 : x < 0 <;> by_cases h2 : y < 0 <;> simp only [h1, h2, if_true, if_false] <;> split <;> (try split) <;> (try split) <;> omega

theorem implNanI (x : Int) (w : World) : Calls Try.prog 104 #[.int .i64 x] w fun e w' => e = .returned (.bool false) ∧ w = w' := by
  have d0 : (x != x) = false := by simp
  go_enter Try.func104, Try.ntmps104
  go_wp2_with fail
  go_ret
  exact ⟨rfl, rfl⟩
theorem implNanL (x : Int) (w : World) : Calls Try.prog 107 #[.int .i64 x] w fun e w' => e = .returned (.bool false) ∧ w = w' := by
  have d0 : (x != x) = false := by simp
  go_enter Try.func107, Try.ntmps107
  go_wp2_with fail
  go_ret
  exact ⟨rfl, rfl⟩
set_option maxHeartbeats 1600000 in
/-- cmp.Compare. -/
theorem implCmpI (x y : Int) (w : World) : Calls Try.prog 94 #[.int .i64 x, .int .i64 y] w fun e w' => e = .returned (.int .i64 (cmI x y)) ∧ w = w' := by
  by_cases h1 : x < y
  · have d1 : decide (x < y) = true := decide_eq_true h1
    have E : Hid (cmI x y = -1) := Lib.hid (if_pos h1)
    go_enter Try.func94, Try.ntmps94
    go_wp2_with fail
    refine (implNanI x w).mono ?_
    rintro e w' ⟨rfl, rfl⟩
    go_wp2_with fail
    refine (implNanI y w).mono ?_
    rintro e w' ⟨rfl, rfl⟩
    go_wp2_with fail
    go_ret
    exact ⟨by rw [E.out]; try rfl, rfl⟩
  · have d1 : decide (x < y) = false := decide_eq_false h1
    by_cases h2 : y < x
    · have d2 : decide (y < x) = true := decide_eq_true h2
      have E : Hid (cmI x y = 1) := Lib.hid (by unfold cmI; rw [if_neg h1, if_pos h2])
      go_enter Try.func94, Try.ntmps94
      go_wp2_with fail
      refine (implNanI x w).mono ?_
      rintro e w' ⟨rfl, rfl⟩
      go_wp2_with fail
      refine (implNanI y w).mono ?_
      rintro e w' ⟨rfl, rfl⟩
      go_wp2_with fail
      go_ret
      exact ⟨by rw [E.out]; try rfl, rfl⟩
    · have d2 : decide (y < x) = false := decide_eq_false h2
      have E : Hid (cmI x y = 0) := Lib.hid (by unfold cmI; rw [if_neg h1, if_neg h2])
      go_enter Try.func94, Try.ntmps94
      go_wp2_with fail
      refine (implNanI x w).mono ?_
      rintro e w' ⟨rfl, rfl⟩
      go_wp2_with fail
      refine (implNanI y w).mono ?_
      rintro e w' ⟨rfl, rfl⟩
      go_wp2_with fail
      go_ret
      exact ⟨by rw [E.out]; try rfl, rfl⟩
set_option maxHeartbeats 1600000 in
/-- cmp.Compare. -/
theorem implCmpL (x y : Int) (w : World) : Calls Try.prog 105 #[.int .i64 x, .int .i64 y] w fun e w' => e = .returned (.int .i64 (cmI x y)) ∧ w = w' := by
  by_cases h1 : x < y
  · have d1 : decide (x < y) = true := decide_eq_true h1
    have E : Hid (cmI x y = -1) := Lib.hid (if_pos h1)
    go_enter Try.func105, Try.ntmps105
    go_wp2_with fail
    refine (implNanL x w).mono ?_
    rintro e w' ⟨rfl, rfl⟩
    go_wp2_with fail
    refine (implNanL y w).mono ?_
    rintro e w' ⟨rfl, rfl⟩
    go_wp2_with fail
    go_ret
    exact ⟨by rw [E.out]; try rfl, rfl⟩
  · have d1 : decide (x < y) = false := decide_eq_false h1
    by_cases h2 : y < x
    · have d2 : decide (y < x) = true := decide_eq_true h2
      have E : Hid (cmI x y = 1) := Lib.hid (by unfold cmI; rw [if_neg h1, if_pos h2])
      go_enter Try.func105, Try.ntmps105
      go_wp2_with fail
      refine (implNanL x w).mono ?_
      rintro e w' ⟨rfl, rfl⟩
      go_wp2_with fail
      refine (implNanL y w).mono ?_
      rintro e w' ⟨rfl, rfl⟩
      go_wp2_with fail
      go_ret
      exact ⟨by rw [E.out]; try rfl, rfl⟩
    · have d2 : decide (y < x) = false := decide_eq_false h2
      have E : Hid (cmI x y = 0) := Lib.hid (by unfold cmI; rw [if_neg h1, if_neg h2])
      go_enter Try.func105, Try.ntmps105
      go_wp2_with fail
      refine (implNanL x w).mono ?_
      rintro e w' ⟨rfl, rfl⟩
      go_wp2_with fail
      refine (implNanL y w).mono ?_
      rintro e w' ⟨rfl, rfl⟩
      go_wp2_with fail
      go_ret
      exact ⟨by rw [E.out]; try rfl, rfl⟩
set_option maxHeartbeats 1600000 in
/-- cmp.Or of two numbers. -/
theorem implOr (g : Nat) (x y : Int) (w : World) (hb : Blk w g 3 #[.int .i64 x, .int .i64 y]) :
    Calls Try.prog 93 #[.slice (some ⟨g, 0, none⟩) 2 2] w fun e w' => e = .returned (.int .i64 (orI x y)) ∧ w = w' := by
  have c0 : w.cell? ⟨g, 0, none⟩ = some (.int .i64 x) := hb.cell 0
  have c1 : w.cell? ⟨g, 1, none⟩ = some (.int .i64 y) := hb.cell 1
  clear hb
  go_enter Try.func93, Try.ntmps93
  go_wp2_with fail
  go_loopw [8] (fun i wr => (i = .int .i64 0 ∨ (i = .int .i64 1 ∧ x = 0) ∨ (i = .int .i64 2 ∧ x = 0 ∧ y = 0)) ∧ w = wr) (fun i _ => 2 - (intOf i).toNat)
  case atStart => exact ⟨.inl rfl, rfl⟩
  case round =>
    obtain ⟨(rfl | ⟨rfl, hx0⟩ | ⟨rfl, hx0, hy0⟩), rfl⟩ := hrel
    · by_cases hx : x = 0
      · have d0 : (x != 0) = false := by simpa using hx
        have Hx := Lib.hid hx
        clear hx
        go_wp2_with fail
        go_roundw
        case rel => exact ⟨.inr (.inl ⟨by go_num, Hx.out⟩), trivial⟩
        case measure => simp [intOf]
      · have d0 : (x != 0) = true := by simpa using hx
        have E : Hid (orI x y = x) := Lib.hid (if_neg hx)
        clear hx
        go_wp2_with fail
        go_ret
        exact ⟨by rw [E.out]; try rfl, rfl⟩
    · have E : Hid (orI x y = y) := Lib.hid (if_pos hx0)
      have Hx := Lib.hid hx0
      clear hx0
      by_cases hy : y = 0
      · have d0 : (y != 0) = false := by simpa using hy
        have Hy := Lib.hid hy
        clear hy
        go_wp2_with fail
        go_roundw
        case rel => exact ⟨.inr (.inr ⟨by go_num, Hx.out, Hy.out⟩), trivial⟩
        case measure => simp [intOf]
      · have d0 : (y != 0) = true := by simpa using hy
        clear hy
        go_wp2_with fail
        go_ret
        exact ⟨by rw [E.out]; try rfl, rfl⟩
    · have E : Hid (orI x y = 0) := Lib.hid (by unfold orI; rw [if_pos hx0, hy0])
      clear hx0 hy0
      go_wp2_with fail
      go_ret
      exact ⟨by rw [E.out]; try rfl, rfl⟩

set_option maxHeartbeats 1600000 in
/-- compareLetters. -/
theorem implCmL (x y : Int) (w : World) (hx : -9223372036854775808 ≤ x ∧ x ≤ 9223372036854775807) (hy : -9223372036854775808 ≤ y ∧ y ≤ 9223372036854775807) :
    Calls Try.prog 96 #[.int .i64 x, .int .i64 y] w fun e w' => e = .returned (.int .i64 (cmL x y)) ∧ Below w.heap.size w w' := by
  have K1 := implGen x w hx
  have K2 := implGen y w hy
  obtain ⟨p, ep⟩ : ∃ p, gnL x = p := ⟨_, rfl⟩
  obtain ⟨q, eq⟩ : ∃ q, gnL y = q := ⟨_, rfl⟩
  have E : Hid (cmL x y = orI (cmI p q) (cmI y x)) := Lib.hid (by unfold cmL; rw [ep, eq])
  rw [ep] at K1
  rw [eq] at K2
  obtain ⟨r, er⟩ : ∃ r, cmI p q = r := ⟨_, rfl⟩
  obtain ⟨s, es⟩ : ∃ s, cmI y x = s := ⟨_, rfl⟩
  have K3 := implCmpL p q w
  have K4 := implCmpL y x w
  rw [er] at K3 E
  rw [es] at K4 E
  clear ep eq hx hy er es
  go_enter Try.func96, Try.ntmps96
  go_wp2_with fail
  refine K1.mono ?_
  rintro e w' ⟨rfl, rfl⟩
  go_wp2_with fail
  refine K2.mono ?_
  rintro e w' ⟨rfl, rfl⟩
  go_wp2_with fail
  refine K3.mono ?_
  rintro e w' ⟨rfl, rfl⟩
  go_wp2_with fail
  refine K4.mono ?_
  rintro e w' ⟨rfl, rfl⟩
  clear K1 K2 K3 K4
  go_wp2_with fail
  refine (implOr w.heap.size r s _ (Blk.new w _ _)).mono ?_
  rintro e w' ⟨rfl, rfl⟩
  have B1 : Hid (Below w.heap.size w (w.alloc (.cells #[.int .i64 r, .int .i64 s] 3))) := Lib.hid ((Below.refl _ _).alloc (Nat.le_refl _) _)
  rw [← E.out]
  go_wp2_with fail
  go_ret
  exact ⟨rfl, B1.out⟩

set_option maxHeartbeats 4000000 in
set_option maxRecDepth 100000 in
/-- slices.CompareFunc of two words by compareLetters. -/
theorem implCmF (A B : Option Addr) (c d n m : Nat) (a b : List Int) (w : World) (hx : RI w w.heap.size A a) (hy : RI w w.heap.size B b) (la : Hid (a.length = n)) (lb : Hid (b.length = m)) (hn : n ≤ 200) (hm : m ≤ 200) (ha : Hid (vW 8 a = true)) (hb : Hid (vW 8 b = true)) :
    Calls Try.prog 95 #[.slice A n c, .slice B m d, .func (.func 96) #[] #[]] w fun e w' => ∃ r : Int, e = .returned (.int .i64 r) ∧ (n = m → decide (r < 0) = lexW a b) ∧ Below w.heap.size w w' := by
  have HX := Lib.hid hx
  have HY := Lib.hid hy
  clear hx hy
  go_enter Try.func95, Try.ntmps95
  go_wp2_with fail
  go_loopw [13] (fun i wr => ∃ k : Nat, k ≤ n ∧ i = .int .i64 (k : Nat) ∧ (∀ j, j < k → a.getD j 0 = b.getD j 0) ∧ Below w.heap.size w wr) (fun i _ => n - (intOf i).toNat)
  case atStart => exact ⟨0, Nat.zero_le _, rfl, fun j h => absurd h (Nat.not_lt_zero _), Below.refl _ _⟩
  case round =>
    obtain ⟨k, hk, rfl, heq, bel⟩ := hrel
    have Heq := Lib.hid heq
    have Be := Lib.hid bel
    clear heq bel
    by_cases hlt : k < n
    · obtain ⟨b1, o1, rfl, _, hc1⟩ := (HX.out.up Be.out) (by rw [la.out]; omega)
      have c1 := hc1 k (by rw [la.out]; exact hlt)
      have hax := (vW_iff.1 ha.out).2 (a.getD k 0) (by rw [List.getD_eq_getElem?_getD, List.getElem?_eq_getElem (by rw [la.out]; exact hlt)]; exact List.getElem_mem _)
      obtain ⟨x, ex⟩ : ∃ x, a.getD k 0 = x := ⟨_, rfl⟩
      rw [ex] at c1 hax
      have Ex := Lib.hid ex
      have p0 : (0 : Int) ≤ k := by omega
      have p1 : (k : Int) < n := by omega
      clear hc1 ex
      by_cases hkm : k < m
      · obtain ⟨b2, o2, rfl, _, hc2⟩ := (HY.out.up Be.out) (by rw [lb.out]; omega)
        have c2 := hc2 k (by rw [lb.out]; exact hkm)
        have hby := (vW_iff.1 hb.out).2 (b.getD k 0) (by rw [List.getD_eq_getElem?_getD, List.getElem?_eq_getElem (by rw [lb.out]; exact hkm)]; exact List.getElem_mem _)
        obtain ⟨y, ey⟩ : ∃ y, b.getD k 0 = y := ⟨_, rfl⟩
        rw [ey] at c2 hby
        have Ey := Lib.hid ey
        have p2 : (k : Int) < m := by omega
        have dg : decide ((m : Int) ≤ (k : Int)) = false := by simp; omega
        have K := implCmL x y wr (by omega) (by omega)
        have Z := Lib.hid (cmL_zero (x := x) (y := y))
        have N := Lib.hid (cmL_neg (x := x) (y := y) (by omega) (by omega))
        obtain ⟨r, er⟩ : ∃ r, cmL x y = r := ⟨_, rfl⟩
        rw [er] at K Z N
        clear hc2 ey er hax hby
        by_cases hr : r = 0
        · have d0 : (r != 0) = false := by simpa using hr
          have Nx : Hid (x = y) := Lib.hid (Z.out.1 hr)
          clear hr
          go_wp2_with fail
          refine K.mono ?_
          rintro e w1 ⟨rfl, b1⟩
          have B1 : Hid (Below w.heap.size w w1) := Lib.hid (btr Be.out b1)
          clear b1 K
          go_wp2_with fail
          go_roundw
          case rel => exact ⟨k + 1, by omega, by go_num, fun j hj => by
            by_cases e : j = k
            · subst e; rw [Ex.out, Ey.out]; exact Nx.out
            · exact Heq.out j (by omega), B1.out⟩
          case measure => simp [intOf]; omega
        · have d0 : (r != 0) = true := by simpa using hr
          have hxy : x ≠ y := fun e => hr (Z.out.2 e)
          have Lx : Hid (n = m → decide (r < 0) = lexW a b) := Lib.hid fun e => by
            rw [lexW_at a b k (by rw [la.out, lb.out, e]) (by rw [la.out]; exact hlt) Heq.out (by rw [Ex.out, Ey.out]; exact hxy), Ex.out, Ey.out]
            exact decide_eq_decide.2 N.out
          clear hr hxy
          go_wp2_with fail
          refine K.mono ?_
          rintro e w1 ⟨rfl, b1⟩
          have B1 : Hid (Below w.heap.size w w1) := Lib.hid (btr Be.out b1)
          clear b1 K
          go_wp2_with fail
          go_ret
          exact ⟨r, rfl, Lx.out, B1.out⟩
      · have dg : decide ((m : Int) ≤ (k : Int)) = true := by simp; omega
        go_wp2_with fail
        go_ret
        exact ⟨1, rfl, fun e => by omega, Be.out⟩
    · obtain rfl : k = n := by omega
      by_cases hnm : k < m
      · have dm : decide ((k : Int) < (m : Int)) = true := by simp; omega
        go_wp2_with fail
        go_ret
        exact ⟨-1, rfl, fun e => by omega, Be.out⟩
      · have dm : decide ((k : Int) < (m : Int)) = false := by simp; omega
        have Lx : Hid (k = m → decide ((0 : Int) < 0) = lexW a b) := Lib.hid fun e => by
          rw [lexW_eq a b (by rw [la.out, lb.out, e]) fun j hj => Heq.out j (by rw [← la.out]; exact hj)]
          rfl
        go_wp2_with fail
        go_ret
        exact ⟨0, rfl, Lx.out, Be.out⟩

set_option maxHeartbeats 1600000 in
/-- compareWords. -/
theorem implCmW (A B : Option Addr) (c d n m : Nat) (a b : List Int) (w : World) (hx : RI w w.heap.size A a) (hy : RI w w.heap.size B b) (la : Hid (a.length = n)) (lb : Hid (b.length = m)) (hn : n ≤ 200) (hm : m ≤ 200) (ha : Hid (vW 8 a = true)) (hb : Hid (vW 8 b = true)) :
    Calls Try.prog 79 #[.slice A n c, .slice B m d] w fun e w' => ∃ r : Int, e = .returned (.int .i64 r) ∧ decide (r < 0) = lsW a b ∧ Below w.heap.size w w' := by
  have HX := Lib.hid hx
  have HY := Lib.hid hy
  clear hx hy
  have K := implCmpI (n : Int) (m : Int) w
  have E : Hid (cmI (n : Int) (m : Int) = if n < m then -1 else if m < n then 1 else 0) := Lib.hid (by unfold cmI; simp)
  obtain ⟨s, es⟩ : ∃ s, cmI (n : Int) (m : Int) = s := ⟨_, rfl⟩
  rw [es] at K E
  clear es
  go_enter Try.func79, Try.ntmps79
  go_wp2_with fail
  refine K.mono ?_
  rintro e w' ⟨rfl, rfl⟩
  clear K
  go_wp2_with fail
  refine (implCmF A B c d n m a b w HX.out HY.out la lb hn hm ha hb).mono ?_
  rintro e w1 ⟨r, rfl, hr, b1⟩
  have B1 := Lib.hid b1
  have Hr := Lib.hid hr
  clear b1 hr
  go_wp2_with fail
  refine (implOr w1.heap.size s r _ (Blk.new w1 _ _)).mono ?_
  rintro e w' ⟨rfl, rfl⟩
  have B2 : Hid (Below w.heap.size w (w1.alloc (.cells #[.int .i64 s, .int .i64 r] 3))) := Lib.hid (B1.out.alloc B1.out.size _)
  have Fin : Hid (decide (orI s r < 0) = lsW a b) := Lib.hid (by
    unfold orI lsW
    rw [la.out, lb.out]
    rcases Nat.lt_trichotomy n m with h | h | h
    · have e : s = -1 := by rw [E.out, if_pos h]
      rw [e, if_neg (by decide), if_neg (by omega), decide_eq_true h]; rfl
    · have e : s = 0 := by rw [E.out, if_neg (by omega), if_neg (by omega)]
      rw [if_pos e, if_pos h]; exact Hr.out h
    · have e : s = 1 := by rw [E.out, if_neg (by omega), if_pos h]
      rw [e, if_neg (by decide), if_neg (by omega)]; exact (decide_eq_false (by omega : ¬ n < m)).symm)
  obtain ⟨t, et⟩ : ∃ t, orI s r = t := ⟨_, rfl⟩
  rw [et] at Fin ⊢
  clear et E
  go_wp2_with fail
  go_ret
  exact ⟨t, rfl, Fin.out, B2.out⟩

set_option maxHeartbeats 1600000 in
/-- WordLess. -/
theorem implWordLess (A B : Option Addr) (c d n m : Nat) (a b : List Int) (w : World) (hx : RI w w.heap.size A a) (hy : RI w w.heap.size B b) (la : Hid (a.length = n)) (lb : Hid (b.length = m)) (hn : n ≤ 2097152) (hm : m ≤ 2097152) (va : Hid (VI a)) (vb : Hid (VI b)) :
    Calls Try.prog 41 #[.slice A n c, .slice B m d] w fun e w' => e = .returned (.bool (wlB a b)) ∧ Below w.heap.size w w' := by
  have HX := Lib.hid hx
  have HY := Lib.hid hy
  clear hx hy
  rcases ha : vW 8 a with _ | _
  · have Ha := Lib.hid ha
    have Fin : Hid (wlB a b = false) := Lib.hid (by unfold wlB; rw [ha]; rfl)
    clear ha
    go_enter Try.func41, Try.ntmps41
    go_wp2_with fail
    refine (implIsWord A n c a w HX.out la hn va).mono ?_
    rintro e w' ⟨rfl, rfl⟩
    rw [Ha.out]
    go_wp2_with fail
    go_ret
    exact ⟨ret_bool Fin.out.symm, Below.refl _ _⟩
  · have Ha := Lib.hid ha
    have hna : n ≤ 200 := (small_of ha la.out).1
    clear ha
    rcases hb : vW 8 b with _ | _
    · have Hb := Lib.hid hb
      have Fin : Hid (wlB a b = false) := Lib.hid (by unfold wlB; rw [Ha.out, hb]; rfl)
      clear hb
      go_enter Try.func41, Try.ntmps41
      go_wp2_with fail
      refine (implIsWord A n c a w HX.out la hn va).mono ?_
      rintro e w' ⟨rfl, rfl⟩
      rw [Ha.out]
      go_wp2_with fail
      refine (implIsWord B m d b w HY.out lb hm vb).mono ?_
      rintro e w' ⟨rfl, rfl⟩
      rw [Hb.out]
      go_wp2_with fail
      go_ret
      exact ⟨ret_bool Fin.out.symm, Below.refl _ _⟩
    · have Hb := Lib.hid hb
      have hnb : m ≤ 200 := (small_of hb lb.out).1
      have Fin : Hid (wlB a b = lsW a b) := Lib.hid (by unfold wlB; rw [Ha.out, hb]; rfl)
      clear hb
      go_enter Try.func41, Try.ntmps41
      go_wp2_with fail
      refine (implIsWord A n c a w HX.out la hn va).mono ?_
      rintro e w' ⟨rfl, rfl⟩
      rw [Ha.out]
      go_wp2_with fail
      refine (implIsWord B m d b w HY.out lb hm vb).mono ?_
      rintro e w' ⟨rfl, rfl⟩
      rw [Hb.out]
      go_wp2_with fail
      refine (implCmW A B c d n m a b w HX.out HY.out la lb hna hnb Ha Hb).mono ?_
      rintro e w1 ⟨r, rfl, hr, b1⟩
      have Hr := Lib.hid hr
      have B1 := Lib.hid b1
      clear hr b1
      go_wp2_with fail
      go_ret
      exact ⟨ret_bool (by rw [Fin.out, ← Hr.out]), B1.out⟩
end Go.Proofs.Ytoaaoikmkomofaa
