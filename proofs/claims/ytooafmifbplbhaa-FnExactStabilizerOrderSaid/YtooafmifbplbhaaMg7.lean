/- Part 7 of the texts: WalkG4, Supp, PcT, PcU, RowB, SrcA, DrawG, DrawX, DrawM, WalkI4. No condition of its own: each text tells its own. -/
import Derived.Test.YtooafmifbplbhaaMg4
import Derived.Test.YtooafmifbplbhaaMg2
import Derived.Test.YtooafmifbplbhaaMg1
import Derived.Test.YtooafmifbplbhaaMg6
import Derived.Test.YtooafmifbplbhaaMg3
import Derived.Lib.AppendZerosOnto
import Derived.Lib.AppendZeros
import Derived.Deep.CutRange
import Derived.Deep.LoopGhost
set_option linter.unusedVariables false
set_option linter.unusedSimpArgs false

/- The walk of the law FnExactStabilizerOrder: it returns true at every input, and writes nothing that was there. No condition but the program's own contract. -/
namespace Go.Proofs.Ytooafmifbplbhaa
open Go.RowKit

set_option maxHeartbeats 4000000 in
set_option maxRecDepth 100000 in
/-- The law FnExactStabilizerOrder. -/
theorem lawStabilizerOrder (IM : CtImsI 29 IsStb) (i0 : Int) (g1A : Option Addr) (g1n g1c : Nat) (g1v : List SV) (g1x : List (List Int)) (s2A : Option Addr) (s2n s2c : Nat) (s2x : List Int) (w : World) (wfi0 : I64 i0) (hg1 : RR w w.heap.size g1A g1n g1v g1x) (hmg1 : g1n ≤ maxLen) (hkg1 : Hid (∀ i, i < g1n → (g1v.getD i sd0).2.1 ≤ maxLen)) (hs2 : RI w w.heap.size s2A s2x) (ls2 : Hid (s2x.length = s2n)) :
    Calls Try.prog 11 #[.int .i64 i0, .slice g1A g1n g1c, .slice s2A s2n s2c] w fun e w' => e = .returned (.bool true) ∧ Below w.heap.size w w' := by
  have Hg1 := Lib.hid hg1
  have hlxg1 := Lib.hid hg1.lx
  have hllg1 := Lib.hid hg1.lens
  have Hs2 := Lib.hid hs2
  clear hg1 hs2
  by_cases hns2 : s2n ≤ 1048576
  · skip
    by_cases hT0 : ((g1n + tot g1v g1n : Nat) : Int) ≤ (1048576 : Int)
    · skip
      have HT0 := Lib.hid hT0
      obtain ⟨LE, eLE⟩ : ∃ L : Int, (1048576 : Int) - ((g1n + tot g1v g1n : Nat) : Int) = L := ⟨_, rfl⟩
      have hLE : ¬ LE < 0 := by omega
      have dLE : decide (LE < 0) = false := by simp; omega
      have ELE := Lib.hid eLE
      clear eLE
      have hng1 : g1n ≤ 1048576 := by omega
      have KTg1 : Hid (tot g1v g1n ≤ 1048576) := Lib.hid (by omega)
      have hlg1 : Hid (∀ i, i < g1n → (g1v.getD i sd0).2.1 ≤ 1048576) := Lib.hid fun i hi => by have := tot_row (vs := g1v) hi; have := KTg1.out; omega
      have hylg1 : Hid (∀ i, i < g1n → (g1x.getD i []).length ≤ 1048576) := Lib.hid fun i hi => by rw [hllg1.out i hi]; exact hlg1.out i hi
      clear hT0 
      go_enter Try.func11, Try.ntmps11
      go_wp2_with fail
      have K0 := szSS2 g1A g1n g1c 1048576 g1v g1x w Hg1.out hmg1 hkg1 (by decide) (by decide)
      refine K0.mono ?_
      rintro e w0 ⟨rfl, rfl⟩
      clear K0
      rw [if_pos HT0.out]
      rw [ELE.out]
      go_wp2_with fail
      refine (toSS g1A g1n g1c g1v g1x w Hg1.out hng1 hlg1).mono ?_
      rintro e w1 ⟨A1, c1, us1, rfl, s1, q1, b1⟩
      have Z1 : Hid (w.heap.size ≤ w1.heap.size) := Lib.hid b1.size
      have B1 : Hid (Below w.heap.size w w1) := Lib.hid b1
      have Ftg1_1 := Lib.hid s1
      have Ltg1 : Hid (Lies A1 g1n c1 w.heap.size w1.heap.size) := Lib.hid s1.lt_
      have Itg1 : Hid (∀ t, t < g1n → ∀ k, (sval (us1.getD t sd0)).ownBlock = some k → w.heap.size ≤ k ∧ k < w1.heap.size) := Lib.hid fun t ht => (s1.row t ht).lt_
      have Qtg1 := Lib.hid q1
      have hltg1 : Hid (∀ i, i < g1n → (us1.getD i sd0).2.1 ≤ 1048576) := Lib.hid fun i hi => by rw [q1 i hi]; exact hlg1.out i hi
      clear s1 b1 q1
      go_wp2_with fail
      refine (toS_any s2A s2c s2n s2x w1 (Hs2.out.up B1.out) ls2 (by omega)).mono ?_
      rintro e w2 ⟨A2, c2, rfl, s2, b2⟩
      have Z2 : Hid (w1.heap.size ≤ w2.heap.size) := Lib.hid b2.size
      have B2 : Hid (Below w.heap.size w w2) := Lib.hid (btr B1.out b2)
      have Ftg1_2 := Lib.hid (Ftg1_1.out.up b2)
      clear Ftg1_1
      have Fts2_2 := Lib.hid s2
      have Lts2 : Hid (Lies A2 s2n c2 w1.heap.size w2.heap.size) := Lib.hid s2.lies
      have lets2 := s2.le.1
      clear s2 b2
      go_wp2_with fail
      have K3 := ctStb i0 A1 g1n c1 us1 g1x A2 s2n c2 s2x w2 ⟨Ftg1_2.out.rr, hng1, hltg1.out⟩ ⟨Fts2_2.out.ri_, ls2.out, hns2, lets2⟩ wfi0
      refine K3.mono ?_
      clear K3
      rintro e w3 ⟨v3, rfl, r3, b3⟩
      have Z3 : Hid (w2.heap.size ≤ w3.heap.size) := Lib.hid b3.size
      have B3 : Hid (Below w.heap.size w w3) := Lib.hid (btr B2.out b3)
      have Ftg1_3 := Lib.hid (Ftg1_2.out.up b3)
      clear Ftg1_2
      have Fts2_3 := Lib.hid (Fts2_2.out.up b3)
      clear Fts2_2
      have HR := Lib.hid r3
      clear r3
      clear b3
      clear Ftg1_3
      clear Fts2_3
      go_wp2_with fail
      refine (toSS g1A g1n g1c g1v g1x w3 (Hg1.out.up B3.out) hng1 hlg1).mono ?_
      rintro e w4 ⟨A4, c4, us4, rfl, s4, q4, b4⟩
      have Z4 : Hid (w3.heap.size ≤ w4.heap.size) := Lib.hid b4.size
      have B4 : Hid (Below w.heap.size w w4) := Lib.hid (btr B3.out b4)
      have Fxg1_4 := Lib.hid s4
      have Lxg1 : Hid (Lies A4 g1n c4 w3.heap.size w4.heap.size) := Lib.hid s4.lt_
      have Ixg1 : Hid (∀ t, t < g1n → ∀ k, (sval (us4.getD t sd0)).ownBlock = some k → w3.heap.size ≤ k ∧ k < w4.heap.size) := Lib.hid fun t ht => (s4.row t ht).lt_
      have Qxg1 := Lib.hid q4
      have hlxg1 : Hid (∀ i, i < g1n → (us4.getD i sd0).2.1 ≤ 1048576) := Lib.hid fun i hi => by rw [q4 i hi]; exact hlg1.out i hi
      clear s4 b4 q4
      go_wp2_with fail
      refine (toS_any s2A s2c s2n s2x w4 (Hs2.out.up B4.out) ls2 (by omega)).mono ?_
      rintro e w5 ⟨A5, c5, rfl, s5, b5⟩
      have Z5 : Hid (w4.heap.size ≤ w5.heap.size) := Lib.hid b5.size
      have B5 : Hid (Below w.heap.size w w5) := Lib.hid (btr B4.out b5)
      have Fxg1_5 := Lib.hid (Fxg1_4.out.up b5)
      clear Fxg1_4
      have Fxs2_5 := Lib.hid s5
      have Lxs2 : Hid (Lies A5 s2n c5 w4.heap.size w5.heap.size) := Lib.hid s5.lies
      have lexs2 := s5.le.1
      clear s5 b5
      go_wp2_with fail
      have K6 := IM i0 A4 g1n c4 us4 g1x A5 s2n c5 s2x w5 ⟨Fxg1_5.out.rr, hng1, hlxg1.out⟩ ⟨Fxs2_5.out.ri_, ls2.out, hns2, lexs2⟩ wfi0
      refine K6.mono ?_
      clear K6
      rintro e w6 ⟨v6, rfl, r6, b6⟩
      have Z6 : Hid (w5.heap.size ≤ w6.heap.size) := Lib.hid b6.size
      have B6 : Hid (Below w.heap.size w w6) := Lib.hid (btr B5.out b6)
      have Fxg1_6 := Lib.hid (Fxg1_5.out.up b6)
      clear Fxg1_5
      have Fxs2_6 := Lib.hid (Fxs2_5.out.up b6)
      clear Fxs2_5
      have e6 := HR.out.uniq r6
      subst e6
      clear r6
      clear b6
      go_wp2_with fail
      refine (toSS g1A g1n g1c g1v g1x w6 (Hg1.out.up B6.out) hng1 hlg1).mono ?_
      rintro e w7 ⟨A7, c7, us7, rfl, s7, q7, b7⟩
      have Z7 : Hid (w6.heap.size ≤ w7.heap.size) := Lib.hid b7.size
      have B7 : Hid (Below w.heap.size w w7) := Lib.hid (btr B6.out b7)
      have Fxg1_7 := Lib.hid (Fxg1_6.out.up b7)
      clear Fxg1_6
      have Fxs2_7 := Lib.hid (Fxs2_6.out.up b7)
      clear Fxs2_6
      have Fyg1_7 := Lib.hid s7
      have Lyg1 : Hid (Lies A7 g1n c7 w6.heap.size w7.heap.size) := Lib.hid s7.lt_
      have Iyg1 : Hid (∀ t, t < g1n → ∀ k, (sval (us7.getD t sd0)).ownBlock = some k → w6.heap.size ≤ k ∧ k < w7.heap.size) := Lib.hid fun t ht => (s7.row t ht).lt_
      have Qyg1 := Lib.hid q7
      have hlyg1 : Hid (∀ i, i < g1n → (us7.getD i sd0).2.1 ≤ 1048576) := Lib.hid fun i hi => by rw [q7 i hi]; exact hlg1.out i hi
      clear s7 b7 q7
      go_wp2_with fail
      refine (eqRR_same A4 A7 g1n c4 g1n c7 us4 us7 _ w7 Fxg1_7.out.rr Fyg1_7.out.rr (by omega) hylg1).mono ?_
      rintro e w8 ⟨rfl, b8⟩
      have Z8 : Hid (w7.heap.size ≤ w8.heap.size) := Lib.hid b8.size
      have B8 : Hid (Below w.heap.size w w8) := Lib.hid (btr B7.out b8)
      have Fxg1_8 := Lib.hid (Fxg1_7.out.up b8)
      clear Fxg1_7
      have Fxs2_8 := Lib.hid (Fxs2_7.out.up b8)
      clear Fxs2_7
      have Fyg1_8 := Lib.hid (Fyg1_7.out.up b8)
      clear Fyg1_7
      clear b8
      clear Fyg1_8
      go_wp2_with fail
      refine (toS_any s2A s2c s2n s2x w8 (Hs2.out.up B8.out) ls2 (by omega)).mono ?_
      rintro e w9 ⟨A9, c9, rfl, s9, b9⟩
      have Z9 : Hid (w8.heap.size ≤ w9.heap.size) := Lib.hid b9.size
      have B9 : Hid (Below w.heap.size w w9) := Lib.hid (btr B8.out b9)
      have Fxg1_9 := Lib.hid (Fxg1_8.out.up b9)
      clear Fxg1_8
      have Fxs2_9 := Lib.hid (Fxs2_8.out.up b9)
      clear Fxs2_8
      have Fys2_9 := Lib.hid s9
      have Lys2 : Hid (Lies A9 s2n c9 w8.heap.size w9.heap.size) := Lib.hid s9.lies
      have leys2 := s9.le.1
      clear s9 b9
      go_wp2_with fail
      refine (eqS_same _ _ A5 A9 s2n c5 s2n c9 w9 Fxs2_9.out Fys2_9.out (by omega)).mono ?_
      rintro e w10 ⟨rfl, b10⟩
      have Z10 : Hid (w9.heap.size ≤ w10.heap.size) := Lib.hid b10.size
      have B10 : Hid (Below w.heap.size w w10) := Lib.hid (btr B9.out b10)
      have Fxg1_10 := Lib.hid (Fxg1_9.out.up b10)
      clear Fxg1_9
      have Fxs2_10 := Lib.hid (Fxs2_9.out.up b10)
      clear Fxs2_9
      have Fys2_10 := Lib.hid (Fys2_9.out.up b10)
      clear Fys2_9
      clear b10
      clear Fys2_10
      go_wp2_with fail
      go_ret
      exact ⟨rfl, B10.out⟩
    · skip
      have HT0 := Lib.hid hT0
      clear hT0
      go_enter Try.func11, Try.ntmps11
      go_wp2_with fail
      have K0 := szSS2 g1A g1n g1c 1048576 g1v g1x w Hg1.out hmg1 hkg1 (by decide) (by decide)
      refine K0.mono ?_
      rintro e w0 ⟨rfl, rfl⟩
      clear K0
      rw [if_neg (Int.not_le.2 HT0.out)]
      go_wp2
      go_ret
      exact ⟨rfl, Below.refl _ _⟩
  · skip
    have d1 : decide ((1048576 : Int) < s2n) = true := by simp; omega
    go_enter Try.func11, Try.ntmps11
    go_wp2
    go_ret
    exact ⟨rfl, Below.refl _ _⟩
end Go.Proofs.Ytooafmifbplbhaa

/- Support, of the program and of the model, and the program's search for points. Condition: at most 2097152 entries. -/
namespace Go.Proofs.Ytooafmifbplbhaa
open Go.RowKit

def ptsL (f : Nat → Bool) (k : Nat) : List Int := ((List.range k).filter f).map Int.ofNat
theorem ptsL_yes {f : Nat → Bool} {k : Nat} (h : f k = true) : ptsL f (k + 1) = ptsL f k ++ [(k : Int)] := by simp [ptsL, List.range_succ, List.filter_append, h]
theorem ptsL_no {f : Nat → Bool} {k : Nat} (h : f k = false) : ptsL f (k + 1) = ptsL f k := by simp [ptsL, List.range_succ, List.filter_append, h]
theorem ptsL_le (f : Nat → Bool) (k : Nat) : (ptsL f k).length ≤ k := by
  unfold ptsL; rw [List.length_map]; exact Nat.le_trans (List.length_filter_le _ _) (by simp)
def movesB (p : List Int) (x : Nat) : Bool := p.getD x 0 != (x : Int)
theorem supp_eq (p : List Int) : supp p = ptsL (movesB p) p.length := rfl
def suppL (p : List Int) : List Int := if isP p = true then supp p else []

end Go.Proofs.Ytooafmifbplbhaa

/- The program's areAscendingPoints, slices.Index, Contains, Grow, Concat and the points of a renumbering. Conditions: at most 20 points; lists of at most 1048576 numbers. -/
namespace Go.Proofs.Ytooafmifbplbhaa
open Go.RowKit

theorem mtf_pts (pts : List Int) (N : Nat) : mtf pts N = pts ++ ptsL (fun x => !hasB pts (x : Int)) N := by
  unfold mtf ptsL
  rw [List.filter_map]; rfl
theorem cj_iv {N : Nat} {o p : List Int} (ho : Pn N o) : cj (iv o) p = compL (compL o p) (iv o) := by
  unfold cj; rw [ho.iviv]

set_option maxHeartbeats 2000000 in
set_option maxRecDepth 100000 in
/-- areAscendingPoints. -/
theorem implAsc (N np cp : Nat) (P : Option Addr) (pts : List Int) (w : World) (hp : RI w w.heap.size P pts) (lp : Hid (pts.length = np)) (h1 : 1 ≤ N) (h2 : N ≤ 20) (hn : np ≤ 1048576) :
    Calls Try.prog 68 #[.int .i64 (N : Nat), .slice P np cp] w fun e w' => ∃ ans, e = .returned (.bool ans) ∧ (ans = true ↔ PtS N pts) ∧ Below w.heap.size w w' := by
  go_enter Try.func68, Try.ntmps68
  go_wp2_with fail
  go_loopw [5, 7, 10] (fun l _ i wr => ∃ (k : Nat) (la : Int), k ≤ np ∧ i = .int .i64 (k : Nat) ∧ l = .int .i64 la ∧ (k : Int) ≤ la + 1 ∧ la < N ∧ (k = 0 → la = -1) ∧ (0 < k → la = pts.getD (k - 1) 0) ∧ (∀ i, i < k → 0 ≤ pts.getD i 0 ∧ pts.getD i 0 < N ∧ (0 < i → pts.getD (i - 1) 0 < pts.getD i 0)) ∧ Below w.heap.size w wr) (fun _ _ i _ => np - (intOf i).toNat)
  case atStart => exact ⟨0, -1, Nat.zero_le _, rfl, rfl, by omega, by omega, fun _ => rfl, fun h => absurd h (by omega), fun _ h => absurd h (Nat.not_lt_zero _), Below.refl _ _⟩
  case round =>
    obtain ⟨k, la, hk, rfl, rfl, hkl, hlN, hl0, hlp, ok, bel⟩ := hrel
    have Ok := Lib.hid ok
    have Bel := Lib.hid bel
    have L0 := Lib.hid hl0
    have Lp := Lib.hid hlp
    have P1 := Lib.hid (hp.up bel)
    have hla : -1 ≤ la := by omega
    clear ok bel hl0 hlp
    by_cases hlt : k < np
    · obtain ⟨b, off, rfl, hb, hc⟩ := P1.out (by rw [lp.out]; omega)
      have c1 := hc k (by rw [lp.out]; omega)
      obtain ⟨x, ex⟩ : ∃ x, pts.getD k 0 = x := ⟨_, rfl⟩
      rw [ex] at c1
      have Ex := Lib.hid ex
      have p1 : (0 : Int) ≤ k := by omega
      have p2 : (k : Int) < np := by omega
      clear ex hc hb
      by_cases hx1 : x ≤ la
      · have d1 : decide (x ≤ la) = true := decide_eq_true hx1
        have Fin : Hid (¬ PtS N pts) := Lib.hid fun h => by
          have a := h.2 k (by rw [lp.out]; exact hlt)
          rw [Ex.out] at a
          by_cases e : k = 0
          · have := L0.out e; omega
          · have b := a.2.2 (by omega)
            rw [← Lp.out (by omega)] at b; omega
        clear hx1
        go_wp2_with fail
        go_ret
        exact ⟨false, rfl, ⟨fun h => (by cases h), fun h => absurd h Fin.out⟩, Bel.out⟩
      · have d1 : decide (x ≤ la) = false := decide_eq_false hx1
        have hx2 : la < x := by omega
        clear hx1
        by_cases hx3 : (N : Int) ≤ x
        · have d2 : decide ((N : Int) ≤ x) = true := decide_eq_true hx3
          have Fin : Hid (¬ PtS N pts) := Lib.hid fun h => by
            have a := h.2 k (by rw [lp.out]; exact hlt)
            rw [Ex.out] at a; omega
          clear hx3
          go_wp2_with fail
          go_ret
          exact ⟨false, rfl, ⟨fun h => (by cases h), fun h => absurd h Fin.out⟩, Bel.out⟩
        · have d2 : decide ((N : Int) ≤ x) = false := decide_eq_false hx3
          have Lt : Hid (la < x ∧ x < N) := Lib.hid ⟨hx2, by omega⟩
          clear hx3 hx2
          go_wp2_with fail
          go_roundw
          case rel => exact ⟨k + 1, x, by omega, by go_num, rfl, by have := Lt.out; omega, Lt.out.2, fun h => absurd h (by omega), fun _ => by rw [Nat.add_sub_cancel]; exact Ex.out.symm, fun i hi => by
            by_cases e : i = k
            · subst e
              rw [Ex.out]
              refine ⟨by have := Lt.out; omega, Lt.out.2, fun h0 => ?_⟩
              rw [← Lp.out h0]; exact Lt.out.1
            · exact Ok.out i (by omega), Bel.out⟩
          case measure => simp [intOf]; omega
    · obtain rfl : k = np := by omega
      have Fin : Hid (PtS N pts) := Lib.hid ⟨by rw [lp.out]; omega, fun i hi => Ok.out i (by rw [← lp.out]; exact hi)⟩
      go_wp2_with fail
      go_ret
      exact ⟨true, rfl, ⟨fun _ => Fin.out, fun _ => rfl⟩, Bel.out⟩

/-- slices.Index of a list of numbers. -/
theorem implIdxS (A : Option Addr) (n c : Nat) (p : List Int) (v : Int) (w : World) (hp : RI w w.heap.size A p) (lp : Hid (p.length = n)) (hn : n ≤ 1048576) :
    Calls Try.prog 106 #[.slice A n c, .int .i64 v] w fun e w' => ∃ r : Int, e = .returned (.int .i64 r) ∧ ((∃ y : Nat, r = (y : Int) ∧ y < n ∧ p.getD y 0 = v) ∨ (r = -1 ∧ ∀ y, y < n → p.getD y 0 ≠ v)) ∧ w = w' := by
  go_enter Try.func106, Try.ntmps106
  go_wp2_with fail
  go_loopw [8] (fun i wr => ∃ k : Nat, k ≤ n ∧ i = .int .i64 (k : Nat) ∧ (∀ y, y < k → p.getD y 0 ≠ v) ∧ w = wr) (fun i _ => n - (intOf i).toNat)
  case atStart => exact ⟨0, Nat.zero_le _, rfl, fun y h => absurd h (by omega), rfl⟩
  case round =>
    obtain ⟨k, hk, rfl, hno, rfl⟩ := hrel
    have Hno := Lib.hid hno
    clear hno
    by_cases hlt : k < n
    · obtain ⟨b, off, rfl, hb, hc⟩ := hp (by rw [lp.out]; omega)
      have c1 := hc k (by rw [lp.out]; omega)
      obtain ⟨y, ey⟩ : ∃ y, p.getD k 0 = y := ⟨_, rfl⟩
      rw [ey] at c1
      have Ey := Lib.hid ey
      have p1 : (0 : Int) ≤ k := by omega
      have p2 : (k : Int) < n := by omega
      clear ey hc hp
      by_cases hv : v = y
      · subst hv
        go_wp2_with fail
        go_ret
        exact ⟨_, rfl, .inl ⟨k, rfl, hlt, Ey.out⟩, rfl⟩
      · have d1 : (v == y) = false := by simpa using hv
        have Hv := Lib.hid hv
        clear hv
        go_wp2_with fail
        go_roundw
        case rel => exact ⟨k + 1, by omega, by go_num, fun z hz => by
          rcases Nat.lt_or_ge z k with h | h
          · exact Hno.out z h
          · obtain rfl : z = k := by omega
            rw [Ey.out]; exact fun e => Hv.out e.symm, trivial⟩
        case measure => simp [intOf]; omega
    · obtain rfl : k = n := by omega
      go_wp2_with fail
      go_ret
      exact ⟨_, rfl, .inr ⟨rfl, Hno.out⟩, rfl⟩
/-- slices.Contains of a list of numbers. -/
theorem implHas (A : Option Addr) (n c : Nat) (p : List Int) (v : Int) (w : World) (hp : RI w w.heap.size A p) (lp : Hid (p.length = n)) (hn : n ≤ 1048576) (ans : Bool) (ha : Hid (hasB p v = ans)) :
    Calls Try.prog 95 #[.slice A n c, .int .i64 v] w fun e w' => e = .returned (.bool ans) ∧ w = w' := by
  go_enter Try.func95, Try.ntmps95
  go_wp2_with fail
  refine (implIdxS A n c p v w hp lp hn).mono ?_
  rintro e w1 ⟨r, rfl, hr, rfl⟩
  rcases hr with ⟨y, rfl, hy, hyv⟩ | ⟨rfl, hno⟩
  · have Fin : Hid (true = ans) := Lib.hid (by rw [← ha.out]; exact (decide_eq_true ⟨y, by rw [lp.out]; exact hy, hyv⟩).symm)
    have d0 : decide ((0 : Int) ≤ (y : Int)) = true := by simp
    clear hyv
    go_wp2_with fail
    go_ret
    exact ⟨ret_bool Fin.out, rfl⟩
  · have Fin : Hid (false = ans) := Lib.hid (by rw [← ha.out]; exact (decide_eq_false fun ⟨j, hj, e⟩ => hno j (by rw [← lp.out]; exact hj) e).symm)
    have d0 : decide ((0 : Int) ≤ (-1 : Int)) = false := by decide
    clear hno
    go_wp2_with fail
    go_ret
    exact ⟨ret_bool Fin.out, rfl⟩

/-- The function literal of renumbered: the points that are not listed. -/
theorem implOut (bx np cp : Nat) (P : Option Addr) (pts : List Int) (x : Int) (w : World) (hb : Blk w bx 25 #[.slice P np cp]) (hp : RI w w.heap.size P pts) (lp : Hid (pts.length = np)) (hn : np ≤ 1048576) (ans : Bool) (ha : Hid ((!hasB pts x) = ans)) :
    Calls Try.prog 94 #[.int .i64 x, .pointer (some ⟨bx, 0, none⟩)] w fun e w' => e = .returned (.bool ans) ∧ Below w.heap.size w w' := by
  have HP := Lib.hid hp
  have c0 : w.cell? ⟨bx, 0, none⟩ = some (.slice P np cp) := hb.cell 0
  obtain ⟨q, hq⟩ : ∃ q, hasB pts x = q := ⟨_, rfl⟩
  have Hq := Lib.hid hq
  have Fin : Hid ((!q) = ans) := Lib.hid (by rw [← ha.out, hq])
  clear hb hp hq
  go_enter Try.func94, Try.ntmps94
  go_wp2_with (first | (go_at_call 95; refine (implHas P np cp pts x w HP.out lp hn q Hq).mono ?_; rintro e w' ⟨rfl, rfl⟩))
  go_ret
  exact ⟨ret_bool Fin.out, Below.refl _ _⟩
set_option maxHeartbeats 1000000 in
/-- pointsWhere at that literal. -/
theorem pwOut (bx N np cp : Nat) (P : Option Addr) (pts : List Int) (w : World) (hb : Blk w bx 25 #[.slice P np cp]) (hp : RI w w.heap.size P pts) (lp : Hid (pts.length = np)) (hn : np ≤ 1048576) (h2 : N ≤ 20) :
    Calls Try.prog 93 #[.int .i64 (N : Nat), .func (.func 94) #[] #[.pointer (some ⟨bx, 0, none⟩)]] w fun e w' => ∃ A' n' c', e = .returned (.slice A' n' c') ∧ Slc w' w.heap.size A' n' c' (ptsL (fun x => !hasB pts (x : Int)) N) ∧ Below w.heap.size w w' := by
  have HB := Lib.hid hb
  have HP := Lib.hid hp
  clear hb hp
  go_enter Try.func93, Try.ntmps93
  go_wp2
  go_loopw [5, 6, 8] (fun v _ i wr => ∃ k A' m c', k ≤ N ∧ m ≤ k ∧ i = .int .i64 (k : Nat) ∧ v = .slice A' m c' ∧ Slc wr w.heap.size A' m c' (ptsL (fun x => !hasB pts (x : Int)) k) ∧ Below w.heap.size w wr) (fun _ _ i _ => N - (intOf i).toNat)
  case atStart => exact ⟨0, _, _, _, Nat.zero_le _, Nat.le_refl _, rfl, rfl, Slc.nil_, Below.refl _ _⟩
  case round =>
    obtain ⟨k, A', m, c', hk, hmk, rfl, rfl, own, bel⟩ := hrel
    have Own' := Lib.hid own
    have Bel := Lib.hid bel
    have Bk := Lib.hid (HB.out.below bel HB.out.lt)
    have P1 := Lib.hid (HP.out.up bel)
    clear own bel
    by_cases hlt : k < N
    · rcases hmv : (!hasB pts (k : Int)) with _ | _
      · have Hm := Lib.hid hmv
        have Pn : Hid (ptsL (fun x => !hasB pts (x : Int)) (k + 1) = ptsL (fun x => !hasB pts (x : Int)) k) := Lib.hid (ptsL_no hmv)
        clear hmv
        go_wp2_with fail
        refine (implOut bx np cp P pts k wr Bk.out P1.out lp hn false Hm).mono ?_
        rintro e w1 ⟨rfl, b1⟩
        have B1 : Hid (Below w.heap.size w w1) := Lib.hid (btr Bel.out b1)
        have Own1 := Lib.hid (Own'.out.up b1)
        clear b1
        go_wp2_with fail
        go_roundw
        case rel => exact ⟨k + 1, A', m, c', by omega, by omega, by go_num, rfl, by rw [Pn.out]; exact Own1.out, B1.out⟩
        case measure => simp [intOf]; omega
      · have Hm := Lib.hid hmv
        have Py : Hid (ptsL (fun x => !hasB pts (x : Int)) (k + 1) = ptsL (fun x => !hasB pts (x : Int)) k ++ [(k : Int)]) := Lib.hid (ptsL_yes hmv)
        clear hmv
        go_wp2_with fail
        refine (implOut bx np cp P pts k wr Bk.out P1.out lp hn true Hm).mono ?_
        rintro e w1 ⟨rfl, b1⟩
        have B1 : Hid (Below w.heap.size w w1) := Lib.hid (btr Bel.out b1)
        have Own1 := Lib.hid (Own'.out.up b1)
        clear b1
        go_wp2_with (first | (at_builtin; refine wpList_app1 rfl _ _ rfl w.heap.size A' m c' _ rfl (Own1.out.alloc _) w1.heap.size k rfl (by rw [World.cell?_alloc_at _ _ _ _ rfl]; rfl) (by omega) (by have := B1.out.size; simp; omega) ?_; intro A2 c2' w2 own2 hg2))
        have Own2 := Lib.hid own2
        have Bel2 : Hid (Below w.heap.size w w2) := Lib.hid ((B1.out.alloc B1.out.size _).grown hg2 (by have := B1.out.size; simp; omega) (fun j hj => (Own1.out.lt_ j hj).1))
        clear own2 hg2
        go_wp2
        go_roundw
        case rel => exact ⟨k + 1, A2, m + 1, c2', by omega, by omega, by go_num, rfl, by rw [Py.out]; exact Own2.out, Bel2.out⟩
        case measure => simp [intOf]; omega
    · have hkn : k = N := by omega
      subst hkn
      go_wp2
      go_ret
      exact ⟨_, _, _, rfl, Own'.out, Bel.out⟩

set_option maxHeartbeats 1000000 in
set_option maxRecDepth 100000 in
/-- slices.Grow of nil. -/
theorem growNil (T : Nat) (w : World) (h1 : 1 ≤ T) (h2 : T ≤ 1048576) :
    Calls Try.prog 107 #[.slice none 0 0, .int .i64 (T : Nat)] w fun e w' => ∃ g c', e = .returned (.slice (some ⟨g, 0, none⟩) 0 c') ∧ Slc w' w.heap.size (some ⟨g, 0, none⟩) 0 c' [] ∧ Below w.heap.size w w' := by
  obtain ⟨i0, hi, hz0, hz1, hz2⟩ := info_parts infoI
  have hold : (Builtin.firstCells i0.size 0 (.slice none 0 0)).run Try.prog w.drew = .ok ([] : List Value).toArray w.drew := run_firstCells_none w.drew i0.size 0 0 0
  have hrz : ∀ ty, (Builtin.append_ #[25, 3] ty #[.slice none 0 0, .int .i64 (T : Int)]).run Try.prog w = _ := fun ty =>
    Lib.run_append_grow_zeros w 25 3 ty 2 i0 (.int .i64 0) .i64 .i64 Try.underlying25 Try.underlying3 hi hz0 none 0 0 [] hold T (by omega) (by rw [hz1]; decide) (by omega) (by omega)
      (by rw [hz2]; omega) (by rw [hz2, Nat.zero_add]; exact growslice_fits (by omega) (by omega))
  have hGn : 0 + T ≤ grownCap w (0 + T) 0 2 := grownCap_ge w _ _ _
  have hGm : grownCap w (0 + T) 0 2 ≤ maxLen := grownCap_le_maxLen w _ 0 _ (by unfold maxLen; omega)
  obtain ⟨G, hG⟩ : ∃ G, G = grownCap w (0 + T) 0 2 := ⟨_, rfl⟩
  rw [← hG] at hrz hGn hGm
  obtain ⟨Z, hZ⟩ : ∃ Z, Z = (([] : List Value).toArray ++ Builtin.zeroCells (Value.int .i64 0).cells T ++ Builtin.zeroCells (Value.int .i64 0).cells (G - (0 + T))) := ⟨_, rfl⟩
  rw [← hZ] at hrz
  have hSz : Z.size = G * 1 := by
    have hc : (Value.int .i64 0).cells.size = 1 := rfl
    rw [hZ]
    simp [Builtin.zeroCells, hc]; omega
  have B1 : Hid (Below w.heap.size w (w.drew.alloc (.cells Z 2))) := Lib.hid ((show Below w.heap.size w w.drew from ⟨rfl, rfl, rfl, Nat.le_refl _, fun _ _ => rfl⟩).alloc (Nat.le_refl _) _)
  have S1 : Hid (Slc (w.drew.alloc (.cells Z 2)) w.heap.size (some ⟨w.heap.size, 0, none⟩) 0 G []) := Lib.hid
    ⟨rfl, by simp, .inr ⟨w.heap.size, G, _, rfl, Nat.le_refl _, heap_alloc_new w.drew _, Nat.zero_le _, hGm, hSz, by simp⟩⟩
  have e1 : wrap64 ((T : Int) - 0) = (T : Int) := by unfold wrap64; omega
  have d1 : decide ((T : Int) < 0) = false := by simp
  have d2 : decide ((0 : Int) < (T : Int)) = true := by simp; omega
  have Hrz := Lib.hid hrz
  have hG63 : G ≤ 9223372036854775807 := by unfold maxLen at hGm; omega
  clear hrz hold hG hGm hZ hSz
  go_enter Try.func107, Try.ntmps107
  go_wp2_with (at_builtin; refine Lib.wpList_append_run _ rfl _ _ _ _ rfl _ _ rfl rfl _ _ (Hrz.out _) ?_)
  go_ret
  exact ⟨_, _, rfl, S1.out, B1.out⟩
end Go.Proofs.Ytooafmifbplbhaa

/- The program's slices.Concat, renumbered and StabilizerOrder. Conditions: at most 1048576 lists of at most 1048576 numbers. -/
namespace Go.Proofs.Ytooafmifbplbhaa
open Go.RowKit

/-- append of whatever can be read onto a row of the call's own. -/
theorem wpList_appA {w : World} {ops : Array Oper} {rest : List Oper} {o : Oper} {a : Act} {Q : Exit → Act → World → Prop} (hgd : o.guard = none) (s x : Operand)
    (ho : o.op = .call { callee := .builtin .append, args := #[s, x], argTypes := #[25, 25] })
    (base : Nat) (A : Option Addr) (n c : Nat) (xs : List Int) (hs : a.eval s = .slice A n c) (hown : Slc w base A n c xs) (B : Option Addr) (m c2 : Nat) (ys : List Int) (hx : a.eval x = .slice B m c2)
    (hy : RI w w.heap.size B ys) (ly : ys.length = m) (hn : n + m ≤ 1000000000000) (hbase : base ≤ w.heap.size)
    (h : ∀ A' c' w', Slc w' base A' (n + m) c' (xs ++ ys) → w.grownBy w' (Value.slice A n c).ownBlock → wpList Try.prog ops Q rest (a.put o.dst (.slice A' (n + m) c')) w') : wpList Try.prog ops Q (o :: rest) a w := by
  by_cases h0 : m = 0
  · subst h0
    obtain rfl : ys = [] := List.length_eq_zero_iff.1 ly
    have h3 := h A c w (by rw [List.append_nil]; exact hown) (grown_refl _ _)
    exact wpList_app0 hgd s x ho A n c hown.le.1 hs B c2 hx h3
  · obtain ⟨b, off, rfl, _, _⟩ := hy (by omega)
    exact wpList_appN hgd s x ho base A n c xs hs hown b off m c2 ys hx hy ly hn hbase h

set_option maxHeartbeats 4000000 in
set_option maxRecDepth 100000 in
/-- slices.Concat of two lists. -/
theorem implConcat (g np cp m cm : Nat) (P A : Option Addr) (pts ys : List Int) (w : World) (hb : Blk w g 25 #[.slice P np cp, .slice A m cm]) (hp : RI w w.heap.size P pts) (lp : Hid (pts.length = np)) (hy : RI w w.heap.size A ys) (ly : Hid (ys.length = m)) (h1 : 1 ≤ np + m) (h2 : np + m ≤ 1000) :
    Calls Try.prog 96 #[.slice (some ⟨g, 0, none⟩) 2 2] w fun e w' => ∃ A' c', e = .returned (.slice A' (np + m) c') ∧ Slc w' w.heap.size A' (np + m) c' (pts ++ ys) ∧ Below w.heap.size w w' := by
  have HB := Lib.hid hb
  have HP := Lib.hid hp
  have HY := Lib.hid hy
  clear hb hp hy
  go_enter Try.func96, Try.ntmps96
  go_wp2_with fail
  go_loopw [3, 5, 11] (fun s _ i wr => ((i = .int .i64 0 ∧ s = .int .i64 0) ∨ (i = .int .i64 1 ∧ s = .int .i64 (np : Nat)) ∨ (i = .int .i64 2 ∧ s = .int .i64 ((np + m : Nat) : Int))) ∧ w = wr) (fun _ _ i _ => 2 - (intOf i).toNat)
  case atStart => exact ⟨.inl ⟨rfl, rfl⟩, rfl⟩
  case round =>
    obtain ⟨(⟨rfl, rfl⟩ | ⟨rfl, rfl⟩ | ⟨rfl, rfl⟩), rfl⟩ := hrel
    · have c0 : w.cell? ⟨g, 0, none⟩ = some (.slice P np cp) := HB.out.cell 0
      have hw : IntKind.i64.wrap (np : Int) = (np : Int) := by rw [IntKind.wrap_i64]; omega
      have hw2 : IntKind.i64.wrap ((0 : Int) + (np : Int)) = (np : Int) := by rw [IntKind.wrap_i64]; omega
      have d0 : decide ((np : Int) < 0) = false := by simp
      go_wp2_with fail
      go_roundw
      case rel => exact ⟨.inr (.inl ⟨by go_num, rfl⟩), trivial⟩
      case measure => simp [intOf]
    · have c0 : w.cell? ⟨g, 1, none⟩ = some (.slice A m cm) := HB.out.cell 1
      have hw : IntKind.i64.wrap ((np : Int) + (m : Int)) = ((np + m : Nat) : Int) := by rw [IntKind.wrap_i64]; omega
      have d0 : decide (((np + m : Nat) : Int) < 0) = false := by simp; omega
      go_wp2_with fail
      go_roundw
      case rel => exact ⟨.inr (.inr ⟨by go_num, rfl⟩), trivial⟩
      case measure => simp [intOf]
    · go_wp2_with fail
      refine (growNil (np + m) w h1 (by omega)).mono ?_
      rintro e w1 ⟨g1, c1, rfl, s1, b1⟩
      have S1 := Lib.hid s1
      have B1 := Lib.hid b1
      clear s1 b1
      go_wp2_with fail
      go_loopw [6, 8, 27] (fun v _ i wr => ∃ (A1 : Option Addr) (l c1 : Nat) (xs : List Int), ((i = .int .i64 0 ∧ l = 0 ∧ xs = []) ∨ (i = .int .i64 1 ∧ l = np ∧ xs = pts) ∨ (i = .int .i64 2 ∧ l = np + m ∧ xs = pts ++ ys)) ∧ v = .slice A1 l c1 ∧ Slc wr w.heap.size A1 l c1 xs ∧ Below w.heap.size w wr) (fun _ _ i _ => 2 - (intOf i).toNat)
      case atStart => exact ⟨_, _, _, _, .inl ⟨rfl, rfl, rfl⟩, rfl, S1.out, B1.out⟩
      case round =>
        clear S1 B1
        obtain ⟨A1, l, c2, xs, hcase, rfl, hs, bel⟩ := hrel
        have Ss := Lib.hid hs
        have Be := Lib.hid bel
        have Bk := Lib.hid (HB.out.below bel HB.out.lt)
        have P2 := Lib.hid (HP.out.up bel)
        have Y2 := Lib.hid (HY.out.up bel)
        have hz := bel.size
        clear hs bel
        rcases hcase with ⟨rfl, rfl, rfl⟩ | ⟨rfl, rfl, rfl⟩ | ⟨rfl, rfl, rfl⟩
        · have c0 : wr.cell? ⟨g, 0, none⟩ = some (.slice P np cp) := Bk.out.cell 0
          go_wp2_with (first | (at_builtin; refine wpList_appA rfl _ _ rfl w.heap.size A1 0 c2 [] rfl Ss.out P np cp pts rfl P2.out lp.out (by omega) hz ?_; intro A3 c3 w3 s3 g3))
          have S3 : Hid (Slc w3 w.heap.size A3 np c3 pts) := Lib.hid (by simpa using s3)
          have B3 : Hid (Below w.heap.size w w3) := Lib.hid (Be.out.grown g3 hz (fun j hj => (Ss.out.lt_ j hj).1))
          clear s3 g3
          go_wp2_with fail
          go_roundw
          case rel => exact ⟨A3, _, c3, pts, .inr (.inl ⟨by go_num, rfl, rfl⟩), by simp, S3.out, B3.out⟩
          case measure => simp [intOf]
        · have c0 : wr.cell? ⟨g, 1, none⟩ = some (.slice A m cm) := Bk.out.cell 1
          go_wp2_with (first | (at_builtin; refine wpList_appA rfl _ _ rfl w.heap.size A1 l c2 xs rfl Ss.out A m cm ys rfl Y2.out ly.out (by omega) hz ?_; intro A3 c3 w3 s3 g3))
          have S3 := Lib.hid s3
          have B3 : Hid (Below w.heap.size w w3) := Lib.hid (Be.out.grown g3 hz (fun j hj => (Ss.out.lt_ j hj).1))
          clear s3 g3
          go_wp2_with fail
          go_roundw
          case rel => exact ⟨A3, _, c3, _, .inr (.inr ⟨by go_num, rfl, rfl⟩), rfl, S3.out, B3.out⟩
          case measure => simp [intOf]
        · go_wp2_with fail
          go_ret
          exact ⟨_, _, rfl, Ss.out, Be.out⟩

set_option maxHeartbeats 4000000 in
set_option maxRecDepth 100000 in
/-- renumbered. -/
theorem implRenum (N n c np cp : Nat) (A P : Option Addr) (vs : List SV) (xss : List (List Int)) (pts : List Int) (w : World) (hx : RR w w.heap.size A n vs xss) (hn8 : n ≤ 8) (Ok : Hid (∀ g ∈ xss, Pn N g)) (hp : RI w w.heap.size P pts) (lp : Hid (pts.length = np)) (Pt : Hid (PtS N pts)) (h1 : 1 ≤ N) (h2 : N ≤ 20) (o : List Int) (ho : Hid (mtf pts N = o)) :
    Calls Try.prog 69 #[.int .i64 (N : Nat), .slice A n c, .slice P np cp] w fun e w' => ∃ A' c' us, e = .returned (.slice A' n c') ∧ SS w' w.heap.size w.heap.size A' n c' us (xss.map (cj (iv o))) ∧ Below w.heap.size w w' := by
  have hmf : ∀ (fn : Fn) (first cap : Array Value) (w : World), (Instr.makeFunc fn first cap).run Try.prog w = .ok (.func fn first cap) w := fun _ _ _ _ => rfl
  have hnN : np ≤ N := by rw [← lp.out]; exact Pt.out.1
  have hlx : Hid (xss.length = n) := Lib.hid hx.lx
  have HB0 : Hid (Blk (w.alloc (.cells #[.slice P np cp] 25)) w.heap.size 25 #[.slice P np cp]) := Lib.hid (Blk.new w _ _)
  have B0 : Hid (Below w.heap.size w (w.alloc (.cells #[.slice P np cp] 25))) := Lib.hid ((Below.refl _ _).alloc (Nat.le_refl _) _)
  have P0 := Lib.hid (hp.up B0.out)
  have X0 := Lib.hid (hx.up B0.out)
  have HM : Hid (Pn N o) := Lib.hid (by rw [← ho.out]; exact Pt.out.mtf_pn h1 h2)
  clear hx hp
  go_enter Try.func69, Try.ntmps69
  go_wp2_with fail
  refine (pwOut w.heap.size N np cp P pts (w.alloc (.cells #[.slice P np cp] 25)) HB0.out P0.out lp (by omega) h2).mono ?_
  rintro e w1 ⟨A1, m, c1, rfl, s1, b1⟩
  have S1 := Lib.hid s1
  have B1 : Hid (Below w.heap.size w w1) := Lib.hid (btr B0.out b1)
  have P1 := Lib.hid (P0.out.up b1)
  have X1 := Lib.hid (X0.out.up b1)
  have Bk1 : Hid (Blk w1 w.heap.size 25 #[.slice P np cp]) := Lib.hid (HB0.out.below b1 HB0.out.lt)
  have cc : w1.cell? ⟨w.heap.size, 0, none⟩ = some (.slice P np cp) := Bk1.out.cell 0
  have hsum : np + m = N := by
    have a := HM.out.2
    rw [← ho.out, mtf_pts, List.length_append, s1.1, lp.out] at a; exact a
  have Hsum := Lib.hid hsum
  have hz1 := B1.out.size
  have Bk2 : Hid (Blk (w1.alloc (.cells #[.slice P np cp, .slice A1 m c1] 25)) w1.heap.size 25 #[.slice P np cp, .slice A1 m c1]) := Lib.hid (Blk.new w1 _ _)
  have B2 : Hid (Below w1.heap.size w1 (w1.alloc (.cells #[.slice P np cp, .slice A1 m c1] 25))) := Lib.hid ((Below.refl _ _).alloc (Nat.le_refl _) _)
  clear s1 b1 hsum HB0 P0 X0 Bk1
  go_wp2_with fail
  refine (implConcat w1.heap.size np cp m c1 P A1 pts (ptsL (fun x => !hasB pts (x : Int)) N) (w1.alloc (.cells #[.slice P np cp, .slice A1 m c1] 25)) Bk2.out (P1.out.up B2.out) lp (S1.out.up B2.out).ri_ (Lib.hid S1.out.1) (by have := Hsum.out; omega) (by have := Hsum.out; omega)).mono ?_
  rintro e w3 ⟨A3, c3, rfl, s3, b3⟩
  obtain ⟨K, hK⟩ : ∃ K, np + m = K := ⟨_, rfl⟩
  rw [hK] at s3 ⊢
  obtain rfl : K = N := by rw [← hK]; exact Hsum.out
  have S3 : Hid (Slc w3 w.heap.size A3 K c3 o) := Lib.hid (by rw [← ho.out, mtf_pts]; exact s3.mono (by simp; omega))
  have B3 : Hid (Below w.heap.size w w3) := Lib.hid (btr (btr B1.out B2.out) b3)
  have X3 := Lib.hid ((X1.out.up B2.out).up b3)
  have hz3 := B3.out.size
  clear s3 b3 cc Bk2 B2 X1 P1 S1 hK
  go_wp2_with fail
  go_loopw [9, 11, 21] (fun v _ i wr => ∃ k A' c' us, k ≤ n ∧ i = .int .i64 (k : Nat) ∧ v = .slice A' k c' ∧ SS wr w3.heap.size w3.heap.size A' k c' us ((xss.take k).map (cj (iv o))) ∧ Below w3.heap.size w3 wr) (fun _ _ i _ => n - (intOf i).toNat)
  case atStart => exact ⟨0, _, _, [], Nat.zero_le _, rfl, rfl, SS.nil_, Below.refl _ _⟩
  case round =>
    obtain ⟨k, A', c', us, hk, rfl, rfl, ss, bel⟩ := hrel
    have Ss := Lib.hid ss
    have Be := Lib.hid bel
    have S5 := Lib.hid (S3.out.up bel)
    have X5 := Lib.hid (X3.out.up bel)
    have hz4 := bel.size
    clear ss bel
    by_cases hlt : k < n
    · obtain ⟨b, off, A5, l, c5, y, rfl, hb, ev, ey, hc0, hr0, hy, hlc⟩ := X5.out.at_ hlt
      have hyP := Ok.out y (by rw [← ey]; exact getD_memL (by rw [hlx.out]; exact hlt))
      obtain rfl : l = K := by have := hyP.2; omega
      have R5 := Lib.hid hr0
      have Yp : Hid (Pn l y) := Lib.hid hyP
      have Tk := Lib.hid (take_cj (o := iv o) (k := k) (by rw [hlx.out]; exact hlt) ey)
      have q0 : (0 : Int) ≤ k := by omega
      have q1 : (k : Int) < n := by omega
      clear ev ey hr0 hy hyP hb
      go_wp2_with fail
      refine (implThen A3 A5 c3 c5 l o y wr S5.out.ri_ R5.out (Lib.hid HM.out.2) (Lib.hid Yp.out.2) (Lib.hid HM.out.1) h2).mono ?_
      rintro e w6 ⟨A6, c6, rfl, s6, b6⟩
      have S6 := Lib.hid s6
      have B6 := Lib.hid b6
      have S5b := Lib.hid (S5.out.up b6)
      clear s6 b6
      go_wp2_with fail
      refine (implInv A3 c3 l o w6 S5b.out.ri_ (Lib.hid HM.out.2) (Lib.hid HM.out.1) h2).mono ?_
      rintro e w7 ⟨A7, c7, rfl, s7, b7⟩
      have S7 : Hid (Slc w7 w6.heap.size A7 l c7 (iv o)) := Lib.hid (by unfold iv; rw [HM.out.2]; exact s7)
      have B7 : Hid (Below wr.heap.size wr w7) := Lib.hid (btr B6.out b7)
      have S6b := Lib.hid (S6.out.up b7)
      clear s7 b7
      go_wp2_with fail
      refine (implThen A6 A7 c6 c7 l (compL o y) (iv o) w7 S6b.out.ri_ S7.out.ri_ (Lib.hid (HM.out.comp Yp.out).2) (Lib.hid HM.out.iv.2) (Lib.hid (HM.out.comp Yp.out).1) h2).mono ?_
      rintro e w8 ⟨A8, c8, rfl, s8, b8⟩
      have B8 : Hid (Below wr.heap.size wr w8) := Lib.hid (btr B7.out b8)
      have S8 : Hid (Slc w8 wr.heap.size A8 l c8 (cj (iv o) y)) := Lib.hid (by rw [cj_iv HM.out]; exact s8.mono B7.out.size)
      have Ss8 := Lib.hid (Ss.out.up B8.out)
      have D8 := Lib.hid (lies_dis (w := wr) Ss.out S8.out.lies (Nat.le_refl _))
      have B8b : Hid (Below w3.heap.size w3 w8) := Lib.hid (btr Be.out B8.out)
      have hz8 := B8b.out.size
      clear s8 b8
      go_wp2_with (at_builtin; go_must (refine wpList_app2_at rfl _ _ rfl rfl (Ss8.out.alloc _) w8.heap.size A8 l c8 (cj (iv o) y) rfl (by rw [World.cell?_alloc_at _ _ _ _ rfl]; rfl) ((S8.out.mono hz4).alloc _) D8.out (by omega) (by simp; omega) ?_); intro A9 c9 w9 s9 g9 h9)
      have S9 : Hid (SS w9 w3.heap.size w3.heap.size A9 (k + 1) c9 (us ++ [(A8, l, c8)]) ((xss.take (k + 1)).map (cj (iv o)))) := Lib.hid (by rw [Tk.out]; exact s9)
      have B9 : Hid (Below w3.heap.size w3 w9) := Lib.hid ((B8b.out.alloc (by omega) _).grown g9 (by simp; omega) (fun q hq => (Ss8.out.lt_ q hq).1))
      clear s9 g9 h9
      go_wp2_with fail
      go_roundw
      case rel => exact ⟨k + 1, A9, c9, _, by omega, by go_num, rfl, S9.out, B9.out⟩
      case measure => simp [intOf]; omega
    · obtain rfl : k = n := by omega
      have Sm : Hid (SS wr w.heap.size w.heap.size A' k c' us (xss.map (cj (iv o)))) := Lib.hid (by
        have h3 := Ss.out.mono hz3 hz3
        rwa [List.take_of_length_le (by rw [hlx.out]; exact Nat.le_refl _)] at h3)
      have B5 : Hid (Below w.heap.size w wr) := Lib.hid (btr B3.out Be.out)
      go_wp2_with fail
      go_ret
      exact ⟨_, _, us, rfl, Sm.out, B5.out⟩

set_option maxHeartbeats 4000000 in
set_option maxRecDepth 100000 in
/-- StabilizerOrder. -/
theorem implStabilizerOrder : CtImsI 29 IsStb := by
  intro a A n c vs xss P np cp pts w g s _
  have HX := Lib.hid g.rr
  have HP := Lib.hid s.ri
  have lp : Hid (pts.length = np) := Lib.hid s.lp
  have hlx : Hid (xss.length = n) := Lib.hid g.rr.lx
  have hn := g.hn
  have hl := Lib.hid g.hl
  have hnp := s.hn
  clear g s
  go_enter Try.func29, Try.ntmps29
  rcases hs : gB a xss with _ | _
  · have Fin : Hid (IsStb a xss pts 0) := Lib.hid (.inr ⟨fun h => by rw [hs] at h; exact absurd h.1 (by decide), rfl⟩)
    have Hs := Lib.hid hs
    clear hs
    go_wp2_with (first
      | (go_at_call 47; refine (implGS a A n c vs xss w HX.out hn hl).mono ?_; rintro e w1 ⟨rfl, b1⟩; rw [Hs.out]; have B1 := Lib.hid b1; clear b1))
    go_ret
    exact ⟨_, rfl, Fin.out, B1.out⟩
  · obtain ⟨N, rfl, hN1, hN2, hg8, hpm, hok⟩ := gB_pm hs
    have Hs := Lib.hid hs
    have Ok := Lib.hid hok
    have hn8 : n ≤ 8 := by rw [← hlx.out]; exact hg8
    obtain ⟨ans, hans⟩ := boolOf (PtS N pts)
    have Ha := Lib.hid hans
    clear hs hpm hok hg8 hans
    rcases ans with _ | _
    · have Fin : Hid (IsStb (N : Int) xss pts 0) := Lib.hid (.inr ⟨fun h => (by have h3 := h.2; rw [Int.toNat_natCast] at h3; exact absurd (Ha.out.2 h3) (by decide)), rfl⟩)
      go_wp2_with (first
        | (go_at_call 47; refine (implGS N A n c vs xss w HX.out hn hl).mono ?_; rintro e w1 ⟨rfl, b1⟩; rw [Hs.out]; have B1 := Lib.hid b1; clear b1)
        | (go_at_call 68; refine (implAsc N np cp P pts w1 (HP.out.up B1.out) lp hN1 hN2 hnp).mono ?_; rintro e w2 ⟨ans2, rfl, h2, b2⟩; obtain rfl : ans2 = false := Bool.eq_false_iff.2 fun e => absurd (Ha.out.2 (h2.1 e)) (by decide); have B2 : Hid (Below w.heap.size w w2) := Lib.hid (btr B1.out b2); clear b2 h2))
      go_ret
      exact ⟨_, rfl, Fin.out, B2.out⟩
    · have Pt : Hid (PtS N pts) := Lib.hid (Ha.out.1 rfl)
      have hnN : np ≤ N := by rw [← lp.out]; exact Pt.out.1
      have HM : Hid (Pn N (mtf pts N)) := Lib.hid (Pt.out.mtf_pn hN1 hN2)
      go_wp2_with (first
        | (go_at_call 47; refine (implGS N A n c vs xss w HX.out hn hl).mono ?_; rintro e w1 ⟨rfl, b1⟩; rw [Hs.out]; have B1 := Lib.hid b1; clear b1)
        | (go_at_call 68; refine (implAsc N np cp P pts w1 (HP.out.up B1.out) lp hN1 hN2 hnp).mono ?_; rintro e w2 ⟨ans2, rfl, h2, b2⟩; obtain rfl : ans2 = true := h2.2 Pt.out; have B2 : Hid (Below w.heap.size w w2) := Lib.hid (btr B1.out b2); clear b2 h2)
        | (go_at_call 69; refine (implRenum N n c np cp A P vs xss pts w2 (HX.out.up B2.out) hn8 Ok (HP.out.up B2.out) lp Pt hN1 hN2 _ (Lib.hid rfl)).mono ?_; rintro e w3 ⟨A3, c3, us, rfl, s3, b3⟩; have S3 := Lib.hid s3; have B3 : Hid (Below w.heap.size w w3) := Lib.hid (btr B2.out b3); clear s3 b3
           have OkM : Hid (∀ g ∈ xss.map (cj (iv (mtf pts N))), IsP g ∧ g.length = N) := Lib.hid fun g hg => (by obtain ⟨p, hp, rfl⟩ := List.mem_map.1 hg; exact cj_pn HM.out.iv (Ok.out p hp)))
        | (go_at_call 49; refine (implChainOf N n c3 A3 us (xss.map (cj (iv (mtf pts N)))) w3 S3.out.rr hN1 hN2 hn8 OkM).mono ?_; rintro e w4 ⟨ch, L, M, rfl, hc, ho, hw, b4⟩; have W4 := Lib.hid hw; have C4 := Lib.hid hc; have O4 := Lib.hid ho; have B4 : Hid (Below w.heap.size w w4) := Lib.hid (btr B3.out b4); clear hc ho hw b4))
      have Ep : Hid (ptr N L 0 = .pointer (some ⟨(L 0).B, 0, none⟩)) := Lib.hid (ptr_at (by omega))
      have Fin : Hid (IsStb (N : Int) xss pts (pr (osL N ch N) np (N - np))) := Lib.hid (by
        have h1 := W4.out.os hN1 hN2
        obtain ⟨v, hc, e⟩ := cj_card (pts := pts) HM.out Ok.out h1 (by rw [lp.out]; exact hnN) (fun j hj => mtf_pre N hj)
        rw [lp.out] at e
        exact .inl ⟨Hs.out, by rw [Int.toNat_natCast]; exact Pt.out, v, by rw [Int.toNat_natCast]; exact hc, e⟩)
      go_loopw [7, 26] (fun l i wr => ∃ j : Nat, j ≤ np ∧ i = .int .i64 (j : Nat) ∧ l = ptr N L j ∧ w4 = wr) (fun _ i _ => np - (intOf i).toNat)
      case atStart => exact ⟨0, Nat.zero_le _, rfl, Ep.out.symm, rfl⟩
      case round =>
        obtain ⟨j, hj, rfl, rfl, rfl⟩ := hrel
        by_cases hlt : j < np
        · rw [ptr_at (show j < N by omega)]
          obtain ⟨x0, x1, x2, x3, x4⟩ := C4.out.cB (Nat.zero_le _) (show j < N by omega)
          have q1 : (j : Int) < np := by omega
          clear x1 x2 x3
          go_wp2_with fail
          go_roundw
          case rel => exact ⟨j + 1, by omega, by go_num, rfl, trivial⟩
          case measure => simp [intOf]; omega
        · obtain rfl : j = np := by omega
          have K1 := Lib.hid (implOrder w3.heap.size N 0 j M ch L _ w4 C4.out O4.out W4 (Nat.zero_le _) hnN hN1 hN2 OkM)
          go_wp2_with fail
          refine K1.out.mono ?_
          rintro e w6 ⟨rfl, rfl⟩
          go_wp2_with fail
          go_ret
          exact ⟨_, rfl, Fin.out, B4.out⟩
end Go.Proofs.Ytooafmifbplbhaa

/- What the frame of a proof knows of a slice of bytes that came in, in the words of the walks. No condition. -/
namespace Go.Proofs.Ytooafmifbplbhaa
open Go.RowKit

theorem SB.of_rowB {w : World} {a : Option Addr} {len cap : Nat} {zs : List Int}
    (h : (a = none ∧ len = 0 ∧ cap = 0 ∧ zs = []) ∨ ∃ x, a = some x ∧ len ≤ cap ∧ cap ≤ maxLen ∧ zs.length = cap ∧ (∀ i, i < zs.length → w.cell? (x.add i) = some (.int .u8 (zs.getD i 0))) ∧ ∀ n ∈ zs, (Lit.int .u8 n).wf = true)
    (hw : ∀ n : Int, (Lit.int .u8 n).wf = true → 0 ≤ n ∧ n ≤ 255) : SB w w.heap.size a len := by
  rcases h with ⟨rfl, rfl, rfl, rfl⟩ | ⟨⟨b, off, spot⟩, rfl, hl, hm, hz, hc, hwf⟩
  · exact fun h => absurd h (by omega)
  · intro hp
    have h0 := hc 0 (by omega)
    have hspot : spot = none := by simpa [Addr.add] using World.cell?_spot h0
    subst hspot
    refine ⟨b, off, rfl, ?_, fun j hj => ?_⟩
    · have := World.block_lt_of_cell? w _ h0
      simpa [Addr.add] using this
    · have hjz : j < zs.length := by omega
      have hr := hw (zs.getD j 0) (hwf _ (by rw [List.getD_eq_getElem?_getD, List.getElem?_eq_getElem hjz]; exact List.getElem_mem _))
      refine ⟨(zs.getD j 0).toNat, by omega, ?_⟩
      rw [Int.toNat_of_nonneg hr.1, ← hc j hjz]
      unfold Addr.add
      split <;> simp_all
end Go.Proofs.Ytooafmifbplbhaa

/- The model's draws of any permutation. Condition: degrees from 1 to 20. -/
namespace Go.Proofs.Ytooafmifbplbhaa
open Go.RowKit

/-- A literal row of numbers, read later. -/
theorem lit_at {w w1 : World} {g : Nat} {cs : Array Value} {r : Nat} (hg : g < w.heap.size) (hb : (w.alloc (.cells cs 2)).grownBy w1 (some g)) (hr : r < cs.size) (hall : ∀ (i : Nat) (h : i < cs.size), ∃ z : Int, cs[i] = .int .i64 z) : ∃ z : Int, w1.cell? ⟨w.heap.size, r, none⟩ = some (.int .i64 z) := by
  obtain ⟨z, hz⟩ := hall r hr
  refine ⟨z, ?_⟩
  rw [World.cell?_of_block (hb.block w.heap.size (by simp) (by intro e; injection e with e; omega)), World.cell?_alloc_at _ _ _ _ rfl]
  show cs[r]? = _
  rw [Array.getElem?_eq_getElem hr, hz]

set_option maxHeartbeats 1600000 in
theorem srcExtreme (g : Nat) (w : World) (hs : Src w g) :
    Calls Try.prog 105 #[.pointer (some ⟨g, 0, none⟩)] w fun e w' => ∃ z : Int, e = .returned (.int .i64 z) ∧ Src w' g ∧ w.grownBy w' (some g) := by
  have hg := hs.lt
  have Hs := Lib.hid hs
  clear hs
  go_enter Try.func105, Try.ntmps105
  go_wp2_with fail
  refine (srcBelow g _ 10 _ (Hs.out.below ((Below.refl w.heap.size w).alloc (Nat.le_refl _) _) hg) rfl (by omega) (by omega)).mono ?_
  rintro e w1 ⟨r, hr, rfl, s1, g1⟩
  have S1 := Lib.hid s1
  have G1 : Hid (w.grownBy w1 (some g)) := Lib.hid (grown_trans' (grown_alloc2 (grown_refl _ _) _) g1)
  obtain ⟨z, hz⟩ := lit_at (r := r) hg g1 hr (by
    intro i h
    have h : i < 10 := h
    rcases i with _ | _ | _ | _ | _ | _ | _ | _ | _ | _ | i
    all_goals first | exact ⟨_, rfl⟩ | omega)
  have p0 : (0 : Int) ≤ r := by omega
  have p1 : (r : Int) < 10 := by omega
  clear s1 g1
  go_wp2_with fail
  go_ret
  exact ⟨z, rfl, S1.out, G1.out⟩

set_option maxHeartbeats 1600000 in
theorem srcNumber (g n : Nat) (w : World) (hs : Src w g) (h1 : 1 ≤ n) (hn : n ≤ 100) :
    Calls Try.prog 90 #[.pointer (some ⟨g, 0, none⟩), .int .i64 (n : Int)] w fun e w' => ∃ z : Int, e = .returned (.int .i64 z) ∧ Src w' g ∧ w.grownBy w' (some g) := by
  go_enter Try.func90, Try.ntmps90
  go_wp2_with fail
  refine (srcOne g _ 10 w hs rfl (by omega) (by omega)).mono ?_
  rintro e w1 ⟨b, rfl, s1, g1⟩
  have S1 := Lib.hid s1
  have G1 := Lib.hid g1
  clear s1 g1
  cases b
  · go_wp2_with fail
    refine (srcOne g _ 2 w1 S1.out rfl (by omega) (by omega)).mono ?_
    rintro e w2 ⟨b, rfl, s2, g2⟩
    have S2 := Lib.hid s2
    have G2 : Hid (w.grownBy w2 (some g)) := Lib.hid (grown_trans' G1.out g2)
    clear s2 g2
    cases b
    · go_wp2_with fail
      refine (srcBelow g _ (n + 1) w2 S2.out (by omega) (by omega) (by omega)).mono ?_
      rintro e w3 ⟨r, hr, rfl, s3, g3⟩
      have S3 := Lib.hid s3
      have G3 : Hid (w.grownBy w3 (some g)) := Lib.hid (grown_trans' G2.out g3)
      clear s3 g3
      go_wp2_with fail
      go_ret
      exact ⟨r, rfl, S3.out, G3.out⟩
    · by_cases h4 : n ≤ 4
      · have hm : (min (n : Int) 4) = (n : Int) := by omega
        have d4 : decide ((n : Int) ≤ 4) = true := by simp; omega
        go_wp2_with fail
        refine (srcBelow g _ (n + 1) w2 S2.out (by omega) (by omega) (by omega)).mono ?_
        rintro e w3 ⟨r, hr, rfl, s3, g3⟩
        have S3 := Lib.hid s3
        have G3 : Hid (w.grownBy w3 (some g)) := Lib.hid (grown_trans' G2.out g3)
        clear s3 g3
        go_wp2_with fail
        go_ret
        exact ⟨r, rfl, S3.out, G3.out⟩
      · have hm : (min (n : Int) 4) = 4 := by omega
        have d4 : decide ((n : Int) ≤ 4) = false := by simp; omega
        go_wp2_with fail
        refine (srcBelow g _ (5) w2 S2.out (by omega) (by omega) (by omega)).mono ?_
        rintro e w3 ⟨r, hr, rfl, s3, g3⟩
        have S3 := Lib.hid s3
        have G3 : Hid (w.grownBy w3 (some g)) := Lib.hid (grown_trans' G2.out g3)
        clear s3 g3
        go_wp2_with fail
        go_ret
        exact ⟨r, rfl, S3.out, G3.out⟩
  · go_wp2_with fail
    refine (srcExtreme g w1 S1.out).mono ?_
    rintro e w2 ⟨z, rfl, s2, g2⟩
    have S2 := Lib.hid s2
    have hg2 := s2.lt
    have G2 : Hid (w.grownBy w2 (some g)) := Lib.hid (grown_trans' G1.out g2)
    clear s2 g2
    go_wp2_with fail
    refine (srcBelow g _ 4 _ (S2.out.below ((Below.refl w2.heap.size w2).alloc (Nat.le_refl _) _) hg2) rfl (by omega) (by omega)).mono ?_
    rintro e w3 ⟨r, hr, rfl, s3, g3⟩
    have S3 := Lib.hid s3
    have G3 : Hid (w.grownBy w3 (some g)) := Lib.hid (grown_trans' (grown_alloc2 G2.out _) g3)
    obtain ⟨y, hy⟩ := lit_at (r := r) hg2 g3 hr (by
      intro i h
      have h : i < 4 := h
      rcases i with _ | _ | _ | _ | i
      all_goals first | exact ⟨_, rfl⟩ | omega)
    have p0 : (0 : Int) ≤ r := by omega
    have p1 : (r : Int) < 4 := by omega
    clear s3 g3
    go_wp2_with fail
    go_ret
    exact ⟨y, rfl, S3.out, G3.out⟩

/-- What can be read: m numbers, in a block from base on. -/
def Pm (w : World) (base : Nat) (A : Option Addr) (m c : Nat) (xs : List Int) : Prop :=
  xs.length = m ∧ m ≤ c ∧ (0 < m → ∃ b off, A = some ⟨b, off, none⟩ ∧ base ≤ b ∧ b < w.heap.size ∧ ∀ j, j < m → w.cell? ⟨b, off + j, none⟩ = some (.int .i64 (xs.getD j 0)))
theorem Pm.of_slc {w : World} {base n c : Nat} {A : Option Addr} {xs : List Int} (h : Slc w base A n c xs) : Pm w base A n c xs := by
  refine ⟨h.1, h.le.1, fun hp => ?_⟩
  have hri := h.ri_
  obtain ⟨b, o, e, hb, hc⟩ := hri (by rw [h.1]; exact hp)
  refine ⟨b, o, e, (h.lt_ b (by subst e; rfl)).1, hb, fun j hj => hc j (by rw [h.1]; exact hj)⟩
theorem Pm.ri {w : World} {base n c : Nat} {A : Option Addr} {xs : List Int} (h : Pm w base A n c xs) : RI w w.heap.size A xs := fun hp => by
  obtain ⟨b, o, e, h1, h2, hc⟩ := h.2.2 (by rw [← h.1]; exact hp)
  exact ⟨b, o, e, h2, fun j hj => hc j (by rw [← h.1]; exact hj)⟩
theorem Pm.gro {w w' : World} {base n c g : Nat} {A : Option Addr} {xs : List Int} (h : Pm w base A n c xs) (hg : w.grownBy w' (some g)) (hb : g < base) : Pm w' base A n c xs := by
  refine ⟨h.1, h.2.1, fun hp => ?_⟩
  obtain ⟨b, o, e, h1, h2, hc⟩ := h.2.2 hp
  exact ⟨b, o, e, h1, Nat.lt_of_lt_of_le h2 hg.size, fun j hj => (World.cell?_of_block (a := ⟨b, o + j, none⟩) (hg.block b h2 (by intro e2; injection e2 with e2; omega))).trans (hc j hj)⟩
theorem Pm.up {w w' : World} {base n c : Nat} {A : Option Addr} {xs : List Int} (h : Pm w base A n c xs) (hb : Below w.heap.size w w') : Pm w' base A n c xs := by
  refine ⟨h.1, h.2.1, fun hp => ?_⟩
  obtain ⟨b, o, e, h1, h2, hc⟩ := h.2.2 hp
  exact ⟨b, o, e, h1, Nat.lt_of_lt_of_le h2 hb.size, fun j hj => (hb.cell (p := ⟨b, o + j, none⟩) h2).trans (hc j hj)⟩
theorem Pm.mono {w : World} {base base' n c : Nat} {A : Option Addr} {xs : List Int} (h : Pm w base A n c xs) (hb : base' ≤ base) : Pm w base' A n c xs := by
  refine ⟨h.1, h.2.1, fun hp => ?_⟩
  obtain ⟨b, o, e, h1, h2, hc⟩ := h.2.2 hp
  exact ⟨b, o, e, by omega, h2, hc⟩
theorem Pm.tail {w : World} {base n c q : Nat} {xs : List Int} (h : Slc w base (some ⟨q, 0, none⟩) n c xs) {A : Option Addr} (hA : 1 < n → A = some ⟨q, 1, none⟩) : Pm w base A (n - 1) (c - 1) (xs.drop 1) := by
  refine ⟨by rw [List.length_drop, h.1], by have := h.le.1; omega, fun hp => ?_⟩
  have hri : RI w w.heap.size (some ⟨q, 0, none⟩) xs := h.ri_
  have lx := h.1
  refine ⟨q, 1, hA (by omega), (h.lt_ q rfl).1, (h.lt_ q rfl).2, fun j hj => ?_⟩
  have := (hri.cellAt (j := 1 + j) (by omega)).2
  rw [Nat.zero_add] at this
  rw [this, List.getD_eq_getElem?_getD, List.getD_eq_getElem?_getD, List.getElem?_drop]

theorem grown_below3 {w w1 w' : World} {row : Option Nat} (h : w.grownBy w1 row) (b : Below w.heap.size w1 w') : w.grownBy w' row :=
  ⟨b.os.trans h.os, b.tape.trans h.tape, b.output.trans h.output, Nat.le_trans h.size b.size, fun k hk hn => (b.block k hk).trans (h.block k hk hn)⟩
theorem drawPermK (g n : Nat) (N : Int) (w : World) (hs : Src w g) (hN : N = (n : Int)) (hn : n ≤ 100) :
    Calls Try.prog 103 #[.pointer (some ⟨g, 0, none⟩), .int .i64 N] w fun e w' => ∃ q c xs, e = .returned (.slice (some ⟨q, 0, none⟩) n c) ∧ Slc w' w.heap.size (some ⟨q, 0, none⟩) n c xs ∧ Src w' g ∧ w.grownBy w' (some g) := by
  subst hN; exact drawPerm g n w hs hn
theorem grown_far {w w1 : World} {g q : Nat} (h : w.grownBy w1 (some g)) (hq : w.heap.size ≤ q) (j : Nat) (u : Value) : w.grownBy (w1.setCell ⟨q, j, none⟩ u) (some g) :=
  ⟨h.os, h.tape, h.output, by simpa [World.setCell] using h.size, fun k hk hn => (Below.heap_setCell w1 _ u k (by show k ≠ q; omega)).trans (h.block k hk hn)⟩

set_option maxHeartbeats 4000000 in
theorem drawAny (g n : Nat) (w : World) (hs : Src w g) (h1 : 1 ≤ n) (hn : n ≤ 20) :
    Calls Try.prog 91 #[.pointer (some ⟨g, 0, none⟩), .int .i64 (n : Int)] w fun e w' => ∃ A m c xs, e = .returned (.slice A m c) ∧ Pm w' w.heap.size A m c xs ∧ m ≤ 21 ∧ Src w' g ∧ w.grownBy w' (some g) := by
  have hg := hs.lt
  go_enter Try.func91, Try.ntmps91
  go_wp2_with fail
  refine (drawPerm g n w hs (by omega)).mono ?_
  rintro e w1 ⟨q, c, xs, rfl, sl1, s1, g1⟩
  have Sl1 := Lib.hid sl1
  have S1 := Lib.hid s1
  have G1 := Lib.hid g1
  have hq := (sl1.lt_ q rfl).1
  have hnc := sl1.le.1
  clear sl1 s1 g1
  go_wp2_with fail
  refine (srcOne g _ 12 w1 S1.out rfl (by omega) (by omega)).mono ?_
  rintro e w2 ⟨b2, rfl, s2, g2⟩
  have S2 := Lib.hid s2
  have G2 : Hid (w.grownBy w2 (some g)) := Lib.hid (grown_trans' G1.out g2)
  have Sl2 : Hid (Slc w2 w.heap.size (some ⟨q, 0, none⟩) n c xs) := Lib.hid (Sl1.out.kept g2 (.inr (by intro e; simp [Value.ownBlock] at e; omega)))
  clear s2 g2
  have hn0 : 0 < n := by omega
  cases b2
  · have S4 := S2
    have G4 := G2
    have P4 := Lib.hid (Pm.of_slc Sl2.out)
    have hm4 : n ≤ 21 := by omega
    go_wp2_with fail
    refine (srcOne g _ 60 _ S4.out rfl (by omega) (by omega)).mono ?_
    rintro e w5 ⟨b5, rfl, s5, g5⟩
    have S5 := Lib.hid s5
    have G5 : Hid (w.grownBy w5 (some g)) := Lib.hid (grown_trans' G4.out g5)
    have P5 := Lib.hid (P4.out.gro g5 hg)
    clear s5 g5
    cases b5
    · go_wp2_with fail
      go_ret
      exact ⟨_, _, _, _, rfl, P5.out, hm4, S5.out, G5.out⟩
    · go_wp2_with fail
      refine (srcBelow g _ 2 w5 S5.out rfl (by omega) (by omega)).mono ?_
      rintro e w6 ⟨r6, hr6, rfl, s6, g6⟩
      have S6 := Lib.hid s6
      have G6 : Hid (w.grownBy w6 (some g)) := Lib.hid (grown_trans' G5.out g6)
      clear s6 g6
      go_wp2_with fail
      refine (drawPermK g (20 + r6) _ w6 S6.out (by push_cast; rfl) (by omega)).mono ?_
      rintro e w7 ⟨q7, c7, xs7, rfl, sl7, s7, g7⟩
      have S7 := Lib.hid s7
      have G7 : Hid (w.grownBy w7 (some g)) := Lib.hid (grown_trans' G6.out g7)
      have P7 : Hid (Pm w7 w.heap.size (some ⟨q7, 0, none⟩) (20 + r6) c7 xs7) := Lib.hid ((Pm.of_slc sl7).mono G6.out.size)
      clear s7 g7 sl7
      go_wp2_with fail
      go_ret
      exact ⟨_, _, _, _, rfl, P7.out, by omega, S7.out, G7.out⟩
  · go_wp2_with fail
    refine (srcBelow g _ 3 w2 S2.out rfl (by omega) (by omega)).mono ?_
    rintro e w3 ⟨r3, hr3, rfl, s3, g3⟩
    have S3 := Lib.hid s3
    have G3 : Hid (w.grownBy w3 (some g)) := Lib.hid (grown_trans' G2.out g3)
    have Sl3 : Hid (Slc w3 w.heap.size (some ⟨q, 0, none⟩) n c xs) := Lib.hid (Sl2.out.kept g3 (.inr (by intro e; simp [Value.ownBlock] at e; omega)))
    clear s3 g3
    obtain rfl | rfl | rfl : r3 = 0 ∨ r3 = 1 ∨ r3 = 2 := by omega
    · go_wp2_with fail
      refine (srcBelow g _ n w3 S3.out rfl (by omega) (by omega)).mono ?_
      rintro e w8 ⟨i, hi, rfl, s8, g8⟩
      have S8 := Lib.hid s8
      have G8 : Hid (w.grownBy w8 (some g)) := Lib.hid (grown_trans' G3.out g8)
      have Sl8 : Hid (Slc w8 w.heap.size (some ⟨q, 0, none⟩) n c xs) := Lib.hid (Sl3.out.kept g8 (.inr (by intro e; simp [Value.ownBlock] at e; omega)))
      clear s8 g8
      go_wp2_with fail
      refine (srcNumber g n w8 S8.out h1 (by omega)).mono ?_
      rintro e w9 ⟨z, rfl, s9, g9⟩
      have row : Row w9 w.heap.size q n c xs := Row.of_own (by have := (Sl8.out.kept g9 (.inr (by intro e; simp [Value.ownBlock] at e; omega))); have h2 := this.2; rw [← this.1] at h2; rw [this.1] at h2; exact h2)
      have c9 := row.cell hi
      have f9 := row.free i
      have p0 : (0 : Int) ≤ i := by omega
      have p1 : (i : Int) < n := by omega
      have P4 := Lib.hid (Pm.of_slc (row.store i z).slc)
      have S4 : Hid (Src (w9.setCell ⟨q, i, none⟩ (.int .i64 z)) g) := Lib.hid (s9.below ((Below.refl (g + 1) w9).setCell (by show g + 1 ≤ q; omega) _) (by omega))
      have G4 : Hid (w.grownBy (w9.setCell ⟨q, i, none⟩ (.int .i64 z)) (some g)) := Lib.hid (grown_far (grown_trans' G8.out g9) hq _ _)
      have hm4 : n ≤ 21 := by omega
      clear s9 g9 row
      go_wp2_with fail
      refine (srcOne g _ 60 _ S4.out rfl (by omega) (by omega)).mono ?_
      rintro e w5 ⟨b5, rfl, s5, g5⟩
      have S5 := Lib.hid s5
      have G5 : Hid (w.grownBy w5 (some g)) := Lib.hid (grown_trans' G4.out g5)
      have P5 := Lib.hid (P4.out.gro g5 hg)
      clear s5 g5
      cases b5
      · go_wp2_with fail
        go_ret
        exact ⟨_, _, _, _, rfl, P5.out, hm4, S5.out, G5.out⟩
      · go_wp2_with fail
        refine (srcBelow g _ 2 w5 S5.out rfl (by omega) (by omega)).mono ?_
        rintro e w6 ⟨r6, hr6, rfl, s6, g6⟩
        have S6 := Lib.hid s6
        have G6 : Hid (w.grownBy w6 (some g)) := Lib.hid (grown_trans' G5.out g6)
        clear s6 g6
        go_wp2_with fail
        refine (drawPermK g (20 + r6) _ w6 S6.out (by push_cast; rfl) (by omega)).mono ?_
        rintro e w7 ⟨q7, c7, xs7, rfl, sl7, s7, g7⟩
        have S7 := Lib.hid s7
        have G7 : Hid (w.grownBy w7 (some g)) := Lib.hid (grown_trans' G6.out g7)
        have P7 : Hid (Pm w7 w.heap.size (some ⟨q7, 0, none⟩) (20 + r6) c7 xs7) := Lib.hid ((Pm.of_slc sl7).mono G6.out.size)
        clear s7 g7 sl7
        go_wp2_with fail
        go_ret
        exact ⟨_, _, _, _, rfl, P7.out, by omega, S7.out, G7.out⟩
    · have p1 : (1 : Int) ≤ n := by omega
      have p2 : (1 : Int) ≤ c := by omega
      have S4 := S3
      have G4 := G3
      have hm4 : n - 1 ≤ 21 := by omega
      by_cases hc1 : c = 1
      · have P4 : Hid (Pm w3 w.heap.size (some ⟨q, 0, none⟩) (n - 1) 0 (xs.drop 1)) := Lib.hid (by have := Pm.tail (A := some ⟨q, 0, none⟩) Sl3.out (fun h => by omega); rw [show c - 1 = 0 by omega] at this; exact this)
        go_wp2_with fail
        refine (srcOne g _ 60 _ S4.out rfl (by omega) (by omega)).mono ?_
        rintro e w5 ⟨b5, rfl, s5, g5⟩
        have S5 := Lib.hid s5
        have G5 : Hid (w.grownBy w5 (some g)) := Lib.hid (grown_trans' G4.out g5)
        have P5 := Lib.hid (P4.out.gro g5 hg)
        clear s5 g5
        cases b5
        · go_wp2_with fail
          go_ret
          exact ⟨_, _, _, _, rfl, P5.out, hm4, S5.out, G5.out⟩
        · go_wp2_with fail
          refine (srcBelow g _ 2 w5 S5.out rfl (by omega) (by omega)).mono ?_
          rintro e w6 ⟨r6, hr6, rfl, s6, g6⟩
          have S6 := Lib.hid s6
          have G6 : Hid (w.grownBy w6 (some g)) := Lib.hid (grown_trans' G5.out g6)
          clear s6 g6
          go_wp2_with fail
          refine (drawPermK g (20 + r6) _ w6 S6.out (by push_cast; rfl) (by omega)).mono ?_
          rintro e w7 ⟨q7, c7, xs7, rfl, sl7, s7, g7⟩
          have S7 := Lib.hid s7
          have G7 : Hid (w.grownBy w7 (some g)) := Lib.hid (grown_trans' G6.out g7)
          have P7 : Hid (Pm w7 w.heap.size (some ⟨q7, 0, none⟩) (20 + r6) c7 xs7) := Lib.hid ((Pm.of_slc sl7).mono G6.out.size)
          clear s7 g7 sl7
          go_wp2_with fail
          go_ret
          exact ⟨_, _, _, _, rfl, P7.out, by omega, S7.out, G7.out⟩
      · have P4 : Hid (Pm w3 w.heap.size (some ⟨q, 1, none⟩) (n - 1) (c - 1) (xs.drop 1)) := Lib.hid (Pm.tail Sl3.out (fun _ => rfl))
        go_wp2_with fail
        refine (srcOne g _ 60 _ S4.out rfl (by omega) (by omega)).mono ?_
        rintro e w5 ⟨b5, rfl, s5, g5⟩
        have S5 := Lib.hid s5
        have G5 : Hid (w.grownBy w5 (some g)) := Lib.hid (grown_trans' G4.out g5)
        have P5 := Lib.hid (P4.out.gro g5 hg)
        clear s5 g5
        cases b5
        · go_wp2_with fail
          go_ret
          exact ⟨_, _, _, _, rfl, P5.out, hm4, S5.out, G5.out⟩
        · go_wp2_with fail
          refine (srcBelow g _ 2 w5 S5.out rfl (by omega) (by omega)).mono ?_
          rintro e w6 ⟨r6, hr6, rfl, s6, g6⟩
          have S6 := Lib.hid s6
          have G6 : Hid (w.grownBy w6 (some g)) := Lib.hid (grown_trans' G5.out g6)
          clear s6 g6
          go_wp2_with fail
          refine (drawPermK g (20 + r6) _ w6 S6.out (by push_cast; rfl) (by omega)).mono ?_
          rintro e w7 ⟨q7, c7, xs7, rfl, sl7, s7, g7⟩
          have S7 := Lib.hid s7
          have G7 : Hid (w.grownBy w7 (some g)) := Lib.hid (grown_trans' G6.out g7)
          have P7 : Hid (Pm w7 w.heap.size (some ⟨q7, 0, none⟩) (20 + r6) c7 xs7) := Lib.hid ((Pm.of_slc sl7).mono G6.out.size)
          clear s7 g7 sl7
          go_wp2_with fail
          go_ret
          exact ⟨_, _, _, _, rfl, P7.out, by omega, S7.out, G7.out⟩
    · have hz := G3.out.size
      go_wp2_with (first | (at_builtin; refine wpList_app1 rfl _ _ rfl w.heap.size (some ⟨q, 0, none⟩) n c _ rfl (Sl3.out.alloc _) w3.heap.size (n : Int) rfl (by rw [World.cell?_alloc_at _ _ _ _ rfl]; rfl) (by omega) (by simp; omega) ?_; intro A4 c4 w4 s4 g4))
      have P4 := Lib.hid (Pm.of_slc s4)
      have B4 : Below w.heap.size w3 w4 := ((Below.refl _ w3).alloc hz _).grown g4 (by simp; omega) (fun j hj => (Sl3.out.lt_ j hj).1)
      have S4 : Hid (Src w4 g) := Lib.hid (S3.out.below B4 hg)
      have G4 : Hid (w.grownBy w4 (some g)) := Lib.hid (grown_below3 G3.out B4)
      have hm4 : n + 1 ≤ 21 := by omega
      clear s4 g4 B4
      go_wp2_with fail
      refine (srcOne g _ 60 _ S4.out rfl (by omega) (by omega)).mono ?_
      rintro e w5 ⟨b5, rfl, s5, g5⟩
      have S5 := Lib.hid s5
      have G5 : Hid (w.grownBy w5 (some g)) := Lib.hid (grown_trans' G4.out g5)
      have P5 := Lib.hid (P4.out.gro g5 hg)
      clear s5 g5
      cases b5
      · go_wp2_with fail
        go_ret
        exact ⟨_, _, _, _, rfl, P5.out, hm4, S5.out, G5.out⟩
      · go_wp2_with fail
        refine (srcBelow g _ 2 w5 S5.out rfl (by omega) (by omega)).mono ?_
        rintro e w6 ⟨r6, hr6, rfl, s6, g6⟩
        have S6 := Lib.hid s6
        have G6 : Hid (w.grownBy w6 (some g)) := Lib.hid (grown_trans' G5.out g6)
        clear s6 g6
        go_wp2_with fail
        refine (drawPermK g (20 + r6) _ w6 S6.out (by push_cast; rfl) (by omega)).mono ?_
        rintro e w7 ⟨q7, c7, xs7, rfl, sl7, s7, g7⟩
        have S7 := Lib.hid s7
        have G7 : Hid (w.grownBy w7 (some g)) := Lib.hid (grown_trans' G6.out g7)
        have P7 : Hid (Pm w7 w.heap.size (some ⟨q7, 0, none⟩) (20 + r6) c7 xs7) := Lib.hid ((Pm.of_slc sl7).mono G6.out.size)
        clear s7 g7 sl7
        go_wp2_with fail
        go_ret
        exact ⟨_, _, _, _, rfl, P7.out, by omega, S7.out, G7.out⟩
end Go.Proofs.Ytooafmifbplbhaa

/- The model's draws of numbers, with their bounds; draws of generators and of groups. Condition: at most 4096 bytes. -/
namespace Go.Proofs.Ytooafmifbplbhaa
open Go.RowKit

/-- The bounds of an int64. -/
def B64 (z : Int) : Prop := -9223372036854775808 ≤ z ∧ z ≤ 9223372036854775807
/-- A literal row of numbers, read later. -/
theorem lit_atB {w w1 : World} {g : Nat} {cs : Array Value} {r : Nat} (hg : g < w.heap.size) (hb : (w.alloc (.cells cs 2)).grownBy w1 (some g)) (hr : r < cs.size) (hall : ∀ (i : Nat) (h : i < cs.size), ∃ z : Int, cs[i] = .int .i64 z ∧ B64 z) : ∃ z : Int, w1.cell? ⟨w.heap.size, r, none⟩ = some (.int .i64 z) ∧ B64 z := by
  obtain ⟨z, hz, hB⟩ := hall r hr
  refine ⟨z, ?_, hB⟩
  rw [World.cell?_of_block (hb.block w.heap.size (by simp) (by intro e; injection e with e; omega)), World.cell?_alloc_at _ _ _ _ rfl]
  show cs[r]? = _
  rw [Array.getElem?_eq_getElem hr, hz]

set_option maxHeartbeats 1600000 in
theorem srcExtremeB (g : Nat) (w : World) (hs : Src w g) :
    Calls Try.prog 105 #[.pointer (some ⟨g, 0, none⟩)] w fun e w' => ∃ z : Int, e = .returned (.int .i64 z) ∧ B64 z ∧ Src w' g ∧ w.grownBy w' (some g) := by
  have hg := hs.lt
  have Hs := Lib.hid hs
  clear hs
  go_enter Try.func105, Try.ntmps105
  go_wp2_with fail
  refine (srcBelow g _ 10 _ (Hs.out.below ((Below.refl w.heap.size w).alloc (Nat.le_refl _) _) hg) rfl (by omega) (by omega)).mono ?_
  rintro e w1 ⟨r, hr, rfl, s1, g1⟩
  have S1 := Lib.hid s1
  have G1 : Hid (w.grownBy w1 (some g)) := Lib.hid (grown_trans' (grown_alloc2 (grown_refl _ _) _) g1)
  obtain ⟨z, hz, hzB⟩ := lit_atB (r := r) hg g1 hr (by
    intro i h
    have h : i < 10 := h
    rcases i with _ | _ | _ | _ | _ | _ | _ | _ | _ | _ | i
    all_goals first | exact ⟨_, rfl, by unfold B64; omega⟩ | omega)
  have p0 : (0 : Int) ≤ r := by omega
  have p1 : (r : Int) < 10 := by omega
  clear s1 g1
  go_wp2_with fail
  go_ret
  exact ⟨z, rfl, hzB, S1.out, G1.out⟩

set_option maxHeartbeats 1600000 in
theorem srcNumberB (g n : Nat) (w : World) (hs : Src w g) (h1 : 1 ≤ n) (hn : n ≤ 100) :
    Calls Try.prog 90 #[.pointer (some ⟨g, 0, none⟩), .int .i64 (n : Int)] w fun e w' => ∃ z : Int, e = .returned (.int .i64 z) ∧ B64 z ∧ Src w' g ∧ w.grownBy w' (some g) := by
  go_enter Try.func90, Try.ntmps90
  go_wp2_with fail
  refine (srcOne g _ 10 w hs rfl (by omega) (by omega)).mono ?_
  rintro e w1 ⟨b, rfl, s1, g1⟩
  have S1 := Lib.hid s1
  have G1 := Lib.hid g1
  clear s1 g1
  cases b
  · go_wp2_with fail
    refine (srcOne g _ 2 w1 S1.out rfl (by omega) (by omega)).mono ?_
    rintro e w2 ⟨b, rfl, s2, g2⟩
    have S2 := Lib.hid s2
    have G2 : Hid (w.grownBy w2 (some g)) := Lib.hid (grown_trans' G1.out g2)
    clear s2 g2
    cases b
    · go_wp2_with fail
      refine (srcBelow g _ (n + 1) w2 S2.out (by omega) (by omega) (by omega)).mono ?_
      rintro e w3 ⟨r, hr, rfl, s3, g3⟩
      have S3 := Lib.hid s3
      have G3 : Hid (w.grownBy w3 (some g)) := Lib.hid (grown_trans' G2.out g3)
      clear s3 g3
      go_wp2_with fail
      go_ret
      exact ⟨r, rfl, by unfold B64; omega, S3.out, G3.out⟩
    · by_cases h4 : n ≤ 4
      · have hm : (min (n : Int) 4) = (n : Int) := by omega
        have d4 : decide ((n : Int) ≤ 4) = true := by simp; omega
        go_wp2_with fail
        refine (srcBelow g _ (n + 1) w2 S2.out (by omega) (by omega) (by omega)).mono ?_
        rintro e w3 ⟨r, hr, rfl, s3, g3⟩
        have S3 := Lib.hid s3
        have G3 : Hid (w.grownBy w3 (some g)) := Lib.hid (grown_trans' G2.out g3)
        clear s3 g3
        go_wp2_with fail
        go_ret
        exact ⟨r, rfl, by unfold B64; omega, S3.out, G3.out⟩
      · have hm : (min (n : Int) 4) = 4 := by omega
        have d4 : decide ((n : Int) ≤ 4) = false := by simp; omega
        go_wp2_with fail
        refine (srcBelow g _ (5) w2 S2.out (by omega) (by omega) (by omega)).mono ?_
        rintro e w3 ⟨r, hr, rfl, s3, g3⟩
        have S3 := Lib.hid s3
        have G3 : Hid (w.grownBy w3 (some g)) := Lib.hid (grown_trans' G2.out g3)
        clear s3 g3
        go_wp2_with fail
        go_ret
        exact ⟨r, rfl, by unfold B64; omega, S3.out, G3.out⟩
  · go_wp2_with fail
    refine (srcExtremeB g w1 S1.out).mono ?_
    rintro e w2 ⟨z, rfl, hzB, s2, g2⟩
    have S2 := Lib.hid s2
    have hg2 := s2.lt
    have G2 : Hid (w.grownBy w2 (some g)) := Lib.hid (grown_trans' G1.out g2)
    clear s2 g2
    go_wp2_with fail
    refine (srcBelow g _ 4 _ (S2.out.below ((Below.refl w2.heap.size w2).alloc (Nat.le_refl _) _) hg2) rfl (by omega) (by omega)).mono ?_
    rintro e w3 ⟨r, hr, rfl, s3, g3⟩
    have S3 := Lib.hid s3
    have G3 : Hid (w.grownBy w3 (some g)) := Lib.hid (grown_trans' (grown_alloc2 G2.out _) g3)
    obtain ⟨y, hy, hyB⟩ := lit_atB (r := r) hg2 g3 hr (by
      intro i h
      have h : i < 4 := h
      rcases i with _ | _ | _ | _ | i
      all_goals first | exact ⟨_, rfl, by unfold B64; omega⟩ | exact ⟨_, rfl, hzB⟩ | omega)
    have p0 : (0 : Int) ≤ r := by omega
    have p1 : (r : Int) < 4 := by omega
    clear s3 g3
    go_wp2_with fail
    go_ret
    exact ⟨y, rfl, hyB, S3.out, G3.out⟩


section
variable {w w' : World} {base n c : Nat} {A : Option Addr} {vs : List SV} {xss : List (List Int)}
/-- Kept where a block turned that is none of its own. -/
theorem SS.farR {r lo hi : Nat} (h : SS w base base A n c vs xss) (hg : w.grownBy w' (some r)) (hA : ∀ k, (Value.slice A n c).ownBlock = some k → lo ≤ k ∧ k < hi) (hI : ∀ i, i < n → ∀ k, (sval (vs.getD i sd0)).ownBlock = some k → lo ≤ k ∧ k < hi) (hr : r < lo ∨ hi ≤ r) : SS w' base base A n c vs xss := by
  have ne : ∀ (v : Value), (∀ k, v.ownBlock = some k → lo ≤ k ∧ k < hi) → v.ownBlock = none ∨ v.ownBlock ≠ some r := fun v hv => by
    rcases e : v.ownBlock with _ | k
    · exact .inl rfl
    · exact .inr fun e2 => by injection e2 with e2; have := hv k e; omega
  exact ⟨World.ownsRow.kept h.own hg (ne _ hA), h.lv, h.lx, fun i hi' => (h.row i hi').kept hg (ne _ (hI i hi')), h.dis⟩
/-- A slice that can be read, appended onto a slice of slices of the call's own. -/
theorem wpList_app2R {ops : Array Oper} {rest : List Oper} {o : Oper} {a : Act} {Q : Exit → Act → World → Prop} (hgd : o.guard = none) (s x : Operand)
    (ho : o.op = .call { callee := .builtin .append, args := #[s, x], argTypes := #[24, 24] })
    (hs : a.eval s = .slice A n c) (hss : SS w base base A n c vs xss) (g : Nat) (dA : Option Addr) (dn dc lo : Nat) (ys : List Int) (hx : a.eval x = .slice (some ⟨g, 0, none⟩) 1 1)
    (hcell : w.cell? ⟨g, 0, none⟩ = some (.slice dA dn dc)) (hys : Pm w lo dA dn dc ys) (hlo : ∀ k, (Value.slice A n c).ownBlock = some k → k < lo) (hn : n ≤ 1000000000) (hbase : base ≤ w.heap.size)
    (h : ∀ A' c' w', RR w' w'.heap.size A' (n + 1) (vs ++ [(dA, dn, dc)]) (xss ++ [ys]) → w.grownBy w' (Value.slice A n c).ownBlock → wpList Try.prog ops Q rest (a.put o.dst (.slice A' (n + 1) c')) w') : wpList Try.prog ops Q (o :: rest) a w := by
  obtain ⟨i0, hi, hz0, hz1, hz2⟩ := info_parts infoS
  refine wpList_append_own (w := w) hgd s x 24 ho base 25 i0 (.slice none 0 0) 1 24 Try.underlying24 hi hz0 hz1 hz2 rfl (by decide) _ n _ hs hss.own ⟨g, 0, none⟩ 1 1 [.slice dA dn dc] hx rfl ?_ ?_ ?_ (by omega) hbase ?_
  · intro j v hj
    match j, hj with
    | 0, hj => simp at hj; subst hj; simpa [Addr.add] using hcell
    | j + 1, hj => simp at hj
  · intro v hv; simp at hv; subst hv; rfl
  · unfold maxLen; omega
  · intro v' w' hown' hg _
    rcases hown'.2 with ⟨rfl, h0⟩ | ⟨g', cap, cur, rfl, hb', hg', hnc, _⟩
    · omega
    · refine h (some ⟨g', 0, none⟩) cap w' ⟨by simp [hss.lv], by simp [hss.lx], fun _ => ⟨g', 0, rfl, (Array.getElem?_eq_some_iff.1 hg').1, fun j hj => ?_⟩, fun j hj => ?_, fun j hj => ?_, fun j hj => ?_⟩ hg
      · rw [Nat.zero_add, hown'.cellAt j (by omega)]
        by_cases e : j < n
        · rw [List.getElem?_append_left (by rw [List.length_map, hss.lv]; exact e), List.getElem?_map, getD_app _ _ _ _ (by rw [hss.lv]; exact e), List.getD_eq_getElem?_getD, List.getElem?_eq_getElem (by rw [hss.lv]; exact e)]; rfl
        · obtain rfl : j = n := by omega
          rw [List.getElem?_append_right (by rw [List.length_map, hss.lv]; exact Nat.le_refl _), List.length_map, hss.lv, Nat.sub_self, getD_snoc _ _ _ _ hss.lv.symm]; rfl
      · by_cases e : j < n
        · rw [getD_app _ _ _ _ (by rw [hss.lv]; exact e), getD_app _ _ _ _ (by rw [hss.lx]; exact e)]
          exact ((hss.row j e).kept hg (apart_types (hss.row j e) hss.own)).ri_
        · obtain rfl : j = n := by omega
          rw [getD_snoc _ _ _ _ hss.lv.symm, getD_snoc _ _ _ _ hss.lx.symm]
          intro hp
          obtain ⟨b, off, e1, h1, h2, hc⟩ := hys.2.2 (by rw [← hys.1]; exact hp)
          refine ⟨b, off, e1, Nat.lt_of_lt_of_le h2 hg.size, fun t ht => (World.cell?_of_block (a := ⟨b, off + t, none⟩) (hg.block b h2 fun e2 => ?_)).trans (hc t (by rw [← hys.1]; exact ht))⟩
          have := hlo b e2.symm
          omega
      · by_cases e : j < n
        · rw [getD_app _ _ _ _ (by rw [hss.lx]; exact e), getD_app _ _ _ _ (by rw [hss.lv]; exact e)]; exact (hss.row j e).1
        · obtain rfl : j = n := by omega
          rw [getD_snoc _ _ _ _ hss.lx.symm, getD_snoc _ _ _ _ hss.lv.symm]; exact hys.1
      · by_cases e : j < n
        · rw [getD_app _ _ _ _ (by rw [hss.lv]; exact e)]; exact (hss.row j e).le.1
        · obtain rfl : j = n := by omega
          rw [getD_snoc _ _ _ _ hss.lv.symm]; exact hys.2.1
end
theorem wrap_pos2 (k : Nat) (h : k ≤ 1000) : IntKind.i64.wrap ((k : Int) + 1) = (k : Int) + 1 := by rw [IntKind.wrap_i64]; omega
theorem grown_new2 {a b c : World} {g : Nat} {row : Option Nat} (h : a.grownBy b (some g)) (h2 : b.grownBy c row) (hr : ∀ j, row = some j → a.heap.size ≤ j) : a.grownBy c (some g) :=
  ⟨h2.os.trans h.os, h2.tape.trans h.tape, h2.output.trans h.output, Nat.le_trans h.size h2.size, fun i hi hne => (h2.block i (Nat.lt_of_lt_of_le hi h.size) (fun e => by have := hr _ e.symm; omega)).trans (h.block i hi hne)⟩
theorem Src.gro2 {g : Nat} {row : Option Nat} {w w' : World} (h : Src w g) (hb : w.grownBy w' row) (hg : ∀ r, row = some r → g < r) : Src w' g := by
  obtain ⟨A, len, cap, k, x, h1, h2, h3, h4⟩ := h
  refine ⟨A, len, cap, k, x, h1, h2, h3.keep fun p hp => World.cell?_of_block (hb.block p.block (by have := h4.lt; omega) (fun e => by have := hg _ e.symm; omega)), h4.grown hb (fun e => by have := hg _ e.symm; omega)⟩

set_option maxHeartbeats 4000000 in
set_option maxRecDepth 100000 in
/-- drawGenerators. -/
theorem drawGens (g n : Nat) (w : World) (hs : Src w g) (h1 : 1 ≤ n) (hn : n ≤ 20) :
    Calls Try.prog 88 #[.pointer (some ⟨g, 0, none⟩), .int .i64 (n : Int)] w fun e w' => ∃ A m c us xss, e = .returned (.slice A m c) ∧ SS w' w.heap.size w.heap.size A m c us xss ∧ (∀ i, i < m → (us.getD i sd0).2.1 = n) ∧ m ≤ 3 ∧ Src w' g ∧ w.grownBy w' (some g) := by
  have hg := hs.lt
  have Sr0 : Hid (Src (w.alloc (.cells #[] 25)) g) := Lib.hid (hs.below ((Below.refl w.heap.size w).alloc (Nat.le_refl _) _) hg)
  have Ss0 := Lib.hid (SS.lit0 w w.heap.size w.heap.size (Nat.le_refl _))
  have G0 : Hid (w.grownBy (w.alloc (.cells #[] 25)) (some g)) := Lib.hid (grown_alloc2 (grown_refl _ _) _)
  clear hs
  go_enter Try.func88, Try.ntmps88
  go_wp2_with fail
  refine (srcBelow g _ 3 _ Sr0.out rfl (by omega) (by omega)).mono ?_
  rintro e w1 ⟨r, hr, rfl, s1, g1⟩
  have Sr1 := Lib.hid s1
  have Ss1 : Hid (SS w1 w.heap.size w.heap.size (some ⟨w.heap.size, 0, none⟩) 0 0 [] []) := Lib.hid (Ss0.out.farR (lo := w.heap.size) (hi := w.heap.size + 1) g1 (fun k e => by simp [Value.ownBlock] at e; omega) (fun i hi => absurd hi (by omega)) (.inl hg))
  have G1 : Hid (w.grownBy w1 (some g)) := Lib.hid (grown_trans' G0.out g1)
  have wr1 : IntKind.i64.wrap (1 + (r : Int)) = ((r + 1 : Nat) : Int) := by rw [IntKind.wrap_i64]; omega
  clear s1 g1 Sr0 Ss0 G0
  go_wp2_with fail
  go_loopg [5, 6] 4 (fun gg v kk wr => ∃ (k : Nat) (A : Option Addr) (m c : Nat) (us : List SV) (xss : List (List Int)), m + k ≤ 3 ∧ k ≤ gg ∧ kk = .int .i64 (k : Nat) ∧ v = .slice A m c ∧ SS wr w.heap.size w.heap.size A m c us xss ∧ (∀ i, i < m → (us.getD i sd0).2.1 = n) ∧ Src wr g ∧ w.grownBy wr (some g))
  case atStart => exact ⟨r + 1, _, 0, _, [], [], by omega, by omega, rfl, rfl, Ss1.out, fun i hi => absurd hi (by omega), Sr1.out, G1.out⟩
  case round =>
    clear Sr1 Ss1 G1 wr1
    obtain ⟨k0, A, m, c, us, xss, hmk, hgk, rfl, rfl, ss, ln, sr, gr⟩ := hrel
    have Ss := Lib.hid ss
    have Ln := Lib.hid ln
    have Sr := Lib.hid sr
    have Gr := Lib.hid gr
    have hwz : w.heap.size ≤ wr.heap.size := gr.size
    clear ss ln sr gr
    by_cases hk0 : 0 < k0
    · obtain ⟨k, rfl⟩ : ∃ k, k0 = k + 1 := ⟨k0 - 1, by omega⟩
      have wk : IntKind.i64.wrap (((k + 1 : Nat) : Int) - 1) = (k : Int) := by rw [IntKind.wrap_i64]; omega
      have LA : Hid (∀ j, (Value.slice A m c).ownBlock = some j → w.heap.size ≤ j ∧ j < wr.heap.size) := Lib.hid Ss.out.lt_
      have LI : Hid (∀ t, t < m → ∀ j, (sval (us.getD t sd0)).ownBlock = some j → w.heap.size ≤ j ∧ j < wr.heap.size) := Lib.hid fun t ht => (Ss.out.row t ht).lt_
      go_wp2_with fail
      refine (specIdent n wr (by omega)).mono ?_
      rintro e w2 ⟨A1, c1, rfl, s2, b2⟩
      have Sr2 := Lib.hid (Sr.out.below b2 Sr.out.lt)
      have Ss2 := Lib.hid (Ss.out.up b2)
      have G2 : Hid (w.grownBy w2 (some g)) := Lib.hid (grown_below2 Gr.out b2)
      rcases Slc.at_ s2 with ⟨_, _, e0, _⟩ | ⟨q, rfl, hq1, hq2⟩
      · omega
      have Sl2 := Lib.hid s2
      have hz2 := b2.size
      clear s2 b2
      go_wp2_with fail
      refine (srcBelow g _ 4 w2 Sr2.out rfl (by omega) (by omega)).mono ?_
      rintro e w3 ⟨r3, hr3, rfl, s3, g3⟩
      have Sr3 := Lib.hid s3
      have Ss3 := Lib.hid (Ss2.out.farR g3 LA.out LI.out (.inl hg))
      have Sl3 : Hid (Slc w3 wr.heap.size (some ⟨q, 0, none⟩) n c1 (idL n)) := Lib.hid (Sl2.out.kept g3 (.inr (by simp [Value.ownBlock]; omega)))
      have G3 : Hid (w.grownBy w3 (some g)) := Lib.hid (grown_trans' G2.out g3)
      have hz3 := g3.size
      clear s3 g3
      obtain rfl | rfl | hr23 : r3 = 0 ∨ r3 = 1 ∨ (r3 = 2 ∨ r3 = 3) := by omega
      · clear Sl3 Sl2 hq1 hq2
        go_wp2_with fail
        refine (drawPermK g n _ w3 Sr3.out rfl (by omega)).mono ?_
        rintro e w4 ⟨q, c1, ys, rfl, s4, r4, g4⟩
        have Sr4 := Lib.hid r4
        have Ss4 := Lib.hid (Ss3.out.farR g4 LA.out LI.out (.inl hg))
        have hq1 : wr.heap.size ≤ q := by have := (s4.lt_ q rfl).1; omega
        have Sl4 : Hid (Slc w4 w.heap.size (some ⟨q, 0, none⟩) n c1 ys) := Lib.hid (s4.mono (by omega))
        have G4 : Hid (w.grownBy w4 (some g)) := Lib.hid (grown_trans' G3.out g4)
        clear s4 r4 g4
        have D5 := Lib.hid (show ∀ t, t < m → (sval (us.getD t sd0)).ownBlock = none ∨ (sval (us.getD t sd0)).ownBlock ≠ (Value.slice (some ⟨q, 0, none⟩) n c1).ownBlock from fun t ht => by
          rcases e9 : (sval (us.getD t sd0)).ownBlock with _ | z
          · exact .inl rfl
          · exact .inr fun e8 => by have := (LI.out t ht z e9).2; simp [Value.ownBlock] at e8; omega)
        have hzT : w.heap.size ≤ w4.heap.size := G4.out.size
        go_wp2_with (first
          | (at_builtin
             refine wpList_app2 rfl _ _ rfl rfl (Ss4.out.alloc _) w4.heap.size (some ⟨q, 0, none⟩) n c1 ys rfl (by rw [World.cell?_alloc_at _ _ _ _ rfl]; rfl) ((Sl4.out).alloc _) D5.out (by omega) (by simp; omega) ?_
             intro A7 c7 w7 ss7 g7))
        have S7 : Hid (SS w7 w.heap.size w.heap.size A7 (m + 1) c7 (us ++ [(some ⟨q, 0, none⟩, n, c1)]) (xss ++ [ys])) := Lib.hid ss7
        have Sr7 : Hid (Src w7 g) := Lib.hid ((Sr4.out.below ((Below.refl w4.heap.size w4).alloc (Nat.le_refl _) (.cells #[.slice (some ⟨q, 0, none⟩) n c1] 25)) Sr4.out.lt).gro2 g7 (fun j hj => by have := (Ss4.out.lt_ j hj).1; omega))
        have G7 : Hid (w.grownBy w7 (some g)) := Lib.hid (grown_new2 (grown_alloc2 G4.out (.cells #[.slice (some ⟨q, 0, none⟩) n c1] 25)) g7 (fun j hj => (Ss4.out.lt_ j hj).1))
        have Ln7 : Hid (∀ i, i < m + 1 → ((us ++ [((some ⟨q, 0, none⟩, n, c1) : SV)]).getD i sd0).2.1 = n) := Lib.hid fun i hi => by
          by_cases e9 : i < m
          · rw [getD_app _ _ _ _ (by rw [Ss4.out.lv]; exact e9)]; exact Ln.out i e9
          · rw [getD_snoc _ _ _ _ (by rw [Ss4.out.lv]; omega)]
        clear ss7 g7
        go_wp2_with fail
        go_roundg k
        case rel => exact ⟨k, A7, m + 1, c7, _, _, by omega, by omega, by go_num, rfl, S7.out, Ln7.out, Sr7.out, G7.out⟩
        case measure => omega
      · have row3 : Hid (Row w3 wr.heap.size q n c1 (idL n)) := Lib.hid (Row.of_own (by have h2 := Sl3.out.2; rw [← Sl3.out.1] at h2 ⊢; exact h2))
        go_wp2_with fail
        obtain ⟨wl, rfl⟩ : ∃ wl, wl = wr := ⟨_, rfl⟩
        go_loopg [8] n (fun gg iv wr2 => ∃ (i : Nat) (ys : List Int), i ≤ n ∧ n - i ≤ gg ∧ iv = .int .i64 (i : Nat) ∧ Row wr2 wl.heap.size q n c1 ys ∧ SS wr2 w.heap.size w.heap.size A m c us xss ∧ Src wr2 g ∧ w.grownBy wr2 (some g))
        case atStart => exact ⟨0, _, Nat.zero_le _, by omega, rfl, row3.out, Ss3.out, Sr3.out, G3.out⟩
        case round =>
          obtain ⟨i, ys, hi, hgi, rfl, row, ss5, sr5, g5⟩ := hrel
          have Ro := Lib.hid row
          have Ss5 := Lib.hid ss5
          have Sr5 := Lib.hid sr5
          have G5 := Lib.hid g5
          clear row ss5 sr5 g5
          by_cases hil : i < n
          · have c5 := Ro.out.cell hil
            have f5 := Ro.out.free i
            obtain ⟨u, hu⟩ : ∃ u, ((i : Int) + 1).tmod (n : Int) = u := ⟨_, rfl⟩
            have wi := wrap_pos2 i (by omega)
            have hn0 : ¬ ((n : Int) = 0) := by omega
            have p0 : (0 : Int) ≤ i := by omega
            have p1 : (i : Int) < n := by omega
            have Ro6 := Lib.hid (Ro.out.store i u)
            have Ss6 : Hid (SS (wr.setCell ⟨q, i, none⟩ (.int .i64 u)) w.heap.size w.heap.size A m c us xss) := Lib.hid (Ss5.out.farR (r := q) (grown_set (grown_refl _ _) _ _) LA.out LI.out (.inr hq1))
            have Sr6 : Hid (Src (wr.setCell ⟨q, i, none⟩ (.int .i64 u)) g) := Lib.hid (Sr5.out.gro (grown_set (grown_refl _ (some q)) i _) (by omega))
            have G6 : Hid (w.grownBy (wr.setCell ⟨q, i, none⟩ (.int .i64 u)) (some g)) := Lib.hid (grown_far G5.out (by omega) i _)
            obtain ⟨z5, hz5⟩ : ∃ z5, ys.getD i 0 = z5 := ⟨_, rfl⟩
            rw [hz5] at c5
            clear hz5
            go_wp2_with fail
            go_roundg (n - (i + 1))
            case rel => exact ⟨i + 1, _, by omega, by omega, by go_num, Ro6.out, Ss6.out, Sr6.out, G6.out⟩
            case measure => omega
          · have hin : i = n := by omega
            have Sl5 : Hid (Slc wr w.heap.size (some ⟨q, 0, none⟩) n c1 ys) := Lib.hid (Ro.out.slc.mono (by omega))
            clear hin
            have D5 := Lib.hid (show ∀ t, t < m → (sval (us.getD t sd0)).ownBlock = none ∨ (sval (us.getD t sd0)).ownBlock ≠ (Value.slice (some ⟨q, 0, none⟩) n c1).ownBlock from fun t ht => by
              rcases e9 : (sval (us.getD t sd0)).ownBlock with _ | z
              · exact .inl rfl
              · exact .inr fun e8 => by have := (LI.out t ht z e9).2; simp [Value.ownBlock] at e8; omega)
            have hzT : w.heap.size ≤ wr.heap.size := G5.out.size
            go_wp2_with (first
              | (at_builtin
                 refine wpList_app2 rfl _ _ rfl rfl (Ss5.out.alloc _) wr.heap.size (some ⟨q, 0, none⟩) n c1 ys rfl (by rw [World.cell?_alloc_at _ _ _ _ rfl]; rfl) ((Sl5.out).alloc _) D5.out (by omega) (by simp; omega) ?_
                 intro A7 c7 w7 ss7 g7))
            have S7 : Hid (SS w7 w.heap.size w.heap.size A7 (m + 1) c7 (us ++ [(some ⟨q, 0, none⟩, n, c1)]) (xss ++ [ys])) := Lib.hid ss7
            have Sr7 : Hid (Src w7 g) := Lib.hid ((Sr5.out.below ((Below.refl wr.heap.size wr).alloc (Nat.le_refl _) (.cells #[.slice (some ⟨q, 0, none⟩) n c1] 25)) Sr5.out.lt).gro2 g7 (fun j hj => by have := (Ss5.out.lt_ j hj).1; omega))
            have G7 : Hid (w.grownBy w7 (some g)) := Lib.hid (grown_new2 (grown_alloc2 G5.out (.cells #[.slice (some ⟨q, 0, none⟩) n c1] 25)) g7 (fun j hj => (Ss5.out.lt_ j hj).1))
            have Ln7 : Hid (∀ i, i < m + 1 → ((us ++ [((some ⟨q, 0, none⟩, n, c1) : SV)]).getD i sd0).2.1 = n) := Lib.hid fun i hi => by
              by_cases e9 : i < m
              · rw [getD_app _ _ _ _ (by rw [Ss5.out.lv]; exact e9)]; exact Ln.out i e9
              · rw [getD_snoc _ _ _ _ (by rw [Ss5.out.lv]; omega)]
            clear ss7 g7
            go_wp2_with fail
            go_roundg k
            case rel => exact ⟨k, A7, m + 1, c7, _, _, by omega, by omega, by go_num, rfl, S7.out, Ln7.out, Sr7.out, G7.out⟩
            case measure => omega
      · have d30 : ((r3 : Int) == 0) = false := by simp; omega
        have d31 : ((r3 : Int) == 1) = false := by simp; omega
        clear hr23 hr3
        go_wp2_with fail
        refine (srcBelow g _ n w3 Sr3.out rfl (by omega) (by omega)).mono ?_
        rintro e w4 ⟨x, hx, rfl, s4, g4⟩
        have Sr4 := Lib.hid s4
        have Ss4 := Lib.hid (Ss3.out.farR g4 LA.out LI.out (.inl hg))
        have Sl4 : Hid (Slc w4 wr.heap.size (some ⟨q, 0, none⟩) n c1 (idL n)) := Lib.hid (Sl3.out.kept g4 (.inr (by simp [Value.ownBlock]; omega)))
        have G4 : Hid (w.grownBy w4 (some g)) := Lib.hid (grown_trans' G3.out g4)
        clear s4 g4
        go_wp2_with fail
        refine (srcBelow g _ n w4 Sr4.out rfl (by omega) (by omega)).mono ?_
        rintro e w5 ⟨y, hy, rfl, s5, g5⟩
        have Sr5 := Lib.hid s5
        have Ss5 := Lib.hid (Ss4.out.farR g5 LA.out LI.out (.inl hg))
        have Sl5 : Hid (Slc w5 wr.heap.size (some ⟨q, 0, none⟩) n c1 (idL n)) := Lib.hid (Sl4.out.kept g5 (.inr (by simp [Value.ownBlock]; omega)))
        have G5 : Hid (w.grownBy w5 (some g)) := Lib.hid (grown_trans' G4.out g5)
        clear s5 g5
        have row5 : Row w5 wr.heap.size q n c1 (idL n) := Row.of_own (by have h2 := Sl5.out.2; rw [← Sl5.out.1] at h2 ⊢; exact h2)
        have c5 := row5.cell hx
        have f5 := row5.free x
        rw [idL_getD hx] at c5
        have row6 := row5.store x (y : Int)
        have c6 := row6.cell hy
        have f6 := row6.free y
        obtain ⟨z6, hz6⟩ : ∃ z6, ((idL n).set x (y : Int)).getD y 0 = z6 := ⟨_, rfl⟩
        rw [hz6] at c6
        have Ro7 := Lib.hid (row6.store y (x : Int))
        obtain ⟨w6, hw6⟩ : ∃ w6, w5.setCell ⟨q, x, none⟩ (.int .i64 (y : Int)) = w6 := ⟨_, rfl⟩
        have Ss6 : Hid (SS w6 w.heap.size w.heap.size A m c us xss) := Lib.hid (by rw [← hw6]; exact Ss5.out.farR (r := q) (grown_set (grown_refl _ _) _ _) LA.out LI.out (.inr hq1))
        have Sr6 : Hid (Src w6 g) := Lib.hid (by rw [← hw6]; exact Sr5.out.gro (grown_set (grown_refl _ (some q)) x _) (by omega))
        have G6 : Hid (w.grownBy w6 (some g)) := Lib.hid (by rw [← hw6]; exact grown_far G5.out (by omega) x _)
        have Ss8 : Hid (SS (w6.setCell ⟨q, y, none⟩ (.int .i64 (x : Int))) w.heap.size w.heap.size A m c us xss) := Lib.hid (Ss6.out.farR (r := q) (grown_set (grown_refl _ _) _ _) LA.out LI.out (.inr hq1))
        have Sr8 : Hid (Src (w6.setCell ⟨q, y, none⟩ (.int .i64 (x : Int))) g) := Lib.hid (Sr6.out.gro (grown_set (grown_refl _ (some q)) y _) (by omega))
        have G8 : Hid (w.grownBy (w6.setCell ⟨q, y, none⟩ (.int .i64 (x : Int))) (some g)) := Lib.hid (grown_far G6.out (by omega) y _)
        obtain ⟨w8, hw8⟩ : ∃ w8, w6.setCell ⟨q, y, none⟩ (.int .i64 (x : Int)) = w8 := ⟨_, rfl⟩
        rw [hw8] at Ss8 Sr8 G8
        rw [hw6] at c6 f6 Ro7
        rw [hw8] at Ro7
        have Sl8 : Hid (Slc w8 w.heap.size (some ⟨q, 0, none⟩) n c1 (((idL n).set x (y : Int)).set y (x : Int))) := Lib.hid (Ro7.out.slc.mono (by omega))
        have x0 : (0 : Int) ≤ x := by omega
        have x1 : (x : Int) < n := by omega
        have y0 : (0 : Int) ≤ y := by omega
        have y1 : (y : Int) < n := by omega
        clear row5 row6 hz6
        have D5 := Lib.hid (show ∀ t, t < m → (sval (us.getD t sd0)).ownBlock = none ∨ (sval (us.getD t sd0)).ownBlock ≠ (Value.slice (some ⟨q, 0, none⟩) n c1).ownBlock from fun t ht => by
          rcases e9 : (sval (us.getD t sd0)).ownBlock with _ | z
          · exact .inl rfl
          · exact .inr fun e8 => by have := (LI.out t ht z e9).2; simp [Value.ownBlock] at e8; omega)
        have hzT : w.heap.size ≤ w8.heap.size := G8.out.size
        go_wp2_with (first
          | (at_builtin
             refine wpList_app2 rfl _ _ rfl rfl (Ss8.out.alloc _) w8.heap.size (some ⟨q, 0, none⟩) n c1 (((idL n).set x (y : Int)).set y (x : Int)) rfl (by rw [World.cell?_alloc_at _ _ _ _ rfl]; rfl) ((Sl8.out).alloc _) D5.out (by omega) (by simp; omega) ?_
             intro A7 c7 w7 ss7 g7))
        have S7 : Hid (SS w7 w.heap.size w.heap.size A7 (m + 1) c7 (us ++ [(some ⟨q, 0, none⟩, n, c1)]) (xss ++ [(((idL n).set x (y : Int)).set y (x : Int))])) := Lib.hid ss7
        have Sr7 : Hid (Src w7 g) := Lib.hid ((Sr8.out.below ((Below.refl w8.heap.size w8).alloc (Nat.le_refl _) (.cells #[.slice (some ⟨q, 0, none⟩) n c1] 25)) Sr8.out.lt).gro2 g7 (fun j hj => by have := (Ss8.out.lt_ j hj).1; omega))
        have G7 : Hid (w.grownBy w7 (some g)) := Lib.hid (grown_new2 (grown_alloc2 G8.out (.cells #[.slice (some ⟨q, 0, none⟩) n c1] 25)) g7 (fun j hj => (Ss8.out.lt_ j hj).1))
        have Ln7 : Hid (∀ i, i < m + 1 → ((us ++ [((some ⟨q, 0, none⟩, n, c1) : SV)]).getD i sd0).2.1 = n) := Lib.hid fun i hi => by
          by_cases e9 : i < m
          · rw [getD_app _ _ _ _ (by rw [Ss8.out.lv]; exact e9)]; exact Ln.out i e9
          · rw [getD_snoc _ _ _ _ (by rw [Ss8.out.lv]; omega)]
        clear ss7 g7
        go_wp2_with fail
        go_roundg k
        case rel => exact ⟨k, A7, m + 1, c7, _, _, by omega, by omega, by go_num, rfl, S7.out, Ln7.out, Sr7.out, G7.out⟩
        case measure => omega
    · have hk00 : k0 = 0 := by omega
      subst hk00
      go_wp2_with fail
      go_ret
      exact ⟨_, _, _, _, _, rfl, Ss.out, Ln.out, by omega, Sr.out, Gr.out⟩

theorem SS.lens_le {w : World} {bo bi n c : Nat} {A : Option Addr} {us : List SV} {xss : List (List Int)} (_h : SS w bo bi A n c us xss) {N : Nat} (hl : ∀ i, i < n → (us.getD i sd0).2.1 = N) (hN : N ≤ 21) : ∀ i, i < n → (us.getD i sd0).2.1 ≤ 21 := fun i hi => by rw [hl i hi]; exact hN

set_option maxHeartbeats 4000000 in
set_option maxRecDepth 100000 in
/-- drawGroup. -/
theorem drawGroupT (g : Nat) (w : World) (hs : Src w g) :
    Calls Try.prog 63 #[.pointer (some ⟨g, 0, none⟩)] w fun e w' => ∃ (z : Int) (A : Option Addr) (m c : Nat) (vs : List SV) (xss : List (List Int)), e = .returned (.tuple #[.int .i64 z, .slice A m c]) ∧ B64 z ∧ RR w' w'.heap.size A m vs xss ∧ m ≤ 9 ∧ (∀ i, i < m → (vs.getD i sd0).2.1 ≤ 21) ∧ Src w' g ∧ w.grownBy w' (some g) := by
  have hg := hs.lt
  go_enter Try.func63, Try.ntmps63
  go_wp2_with fail
  refine (srcBetween g 2 5 w hs (by omega) (by omega)).mono ?_
  rintro e w1 ⟨n1, h11, h12, rfl, s1, g1⟩
  have Sr1 := Lib.hid s1
  have G1 := Lib.hid g1
  clear s1 g1 hs
  go_wp2_with fail
  refine (srcOne g _ 6 w1 Sr1.out rfl (by omega) (by omega)).mono ?_
  rintro e w2 ⟨b, rfl, s2, g2⟩
  have Sr2 := Lib.hid s2
  have G2 : Hid (w.grownBy w2 (some g)) := Lib.hid (grown_trans' G1.out g2)
  clear s2 g2
  go_upto_if 9 with fail
  go_cut [4] from 6 to 48 (fun nn wx => ∃ n : Nat, 1 ≤ n ∧ n ≤ 7 ∧ nn = .int .i64 (n : Nat) ∧ Src wx g ∧ w.grownBy wx (some g))
  case first =>
    cases b
    · go_wp2_with fail
      go_meet
      exact ⟨n1, by omega, by omega, rfl, Sr2.out, G2.out⟩
    · go_wp2_with fail
      refine (srcBetween g 1 7 w2 Sr2.out (by omega) (by omega)).mono ?_
      rintro e w3 ⟨n3, h31, h32, rfl, s3, g3⟩
      have Sr3 := Lib.hid s3
      have G3 : Hid (w.grownBy w3 (some g)) := Lib.hid (grown_trans' G2.out g3)
      clear s3 g3
      go_wp2_with fail
      go_meet
      exact ⟨n3, by omega, by omega, rfl, Sr3.out, G3.out⟩
  case rest =>
    obtain ⟨n, hn1, hn7, rfl, src, grc⟩ := hcut
    have Sr3 := Lib.hid src
    have G3 := Lib.hid grc
    clear src grc Sr2 G2 Sr1 G1
    go_wp2_with fail
    refine (drawGens g n wc Sr3.out hn1 (by omega)).mono ?_
    rintro e w4 ⟨A, m, c, us, xss, rfl, ss4, ln4, hm4, s4, g4⟩
    have Ss4 := Lib.hid ss4
    have Ln4 := Lib.hid ln4
    have Sr4 := Lib.hid s4
    have G4 : Hid (w.grownBy w4 (some g)) := Lib.hid (grown_trans' G3.out g4)
    have hgc : g < wc.heap.size := Sr3.out.lt
    have hz4 := G4.out.size
    have LA : Hid (∀ j, (Value.slice A m c).ownBlock = some j → wc.heap.size ≤ j ∧ j < w4.heap.size) := Lib.hid ss4.lt_
    have LI : Hid (∀ t, t < m → ∀ j, (sval (us.getD t sd0)).ownBlock = some j → wc.heap.size ≤ j ∧ j < w4.heap.size) := Lib.hid fun t ht => (ss4.row t ht).lt_
    have hzc4 := g4.size
    clear ss4 ln4 s4 g4
    go_wp2_with fail
    refine (srcOne g _ 20 w4 Sr4.out rfl (by omega) (by omega)).mono ?_
    rintro e w5 ⟨b5, rfl, s5, g5⟩
    have Sr5 := Lib.hid s5
    have Ss5 := Lib.hid (Ss4.out.farR g5 LA.out LI.out (.inl hgc))
    have G5 : Hid (w.grownBy w5 (some g)) := Lib.hid (grown_trans' G4.out g5)
    have hz5 := g5.size
    clear s5 g5
    cases b5
    · go_wp2_with fail
      go_ret2
      exact ⟨_, _, _, _, us, xss, rfl, by unfold B64; omega, Ss5.out.rr, by omega, Ss5.out.lens_le Ln4.out (by omega), Sr5.out, G5.out⟩
    · go_wp2_with fail
      refine (srcBelow g _ 4 w5 Sr5.out rfl (by omega) (by omega)).mono ?_
      rintro e w6 ⟨r6, hr6, rfl, s6, g6⟩
      have Sr6 := Lib.hid s6
      have Ss6 := Lib.hid (Ss5.out.farR g6 LA.out LI.out (.inl hgc))
      have G6 : Hid (w.grownBy w6 (some g)) := Lib.hid (grown_trans' G5.out g6)
      have hz6 := g6.size
      clear s6 g6
      obtain rfl | rfl | rfl | rfl : r6 = 0 ∨ r6 = 1 ∨ r6 = 2 ∨ r6 = 3 := by omega
      · go_wp2_with fail
        refine (srcNumberB g 20 w6 Sr6.out (by omega) (by omega)).mono ?_
        rintro e w7 ⟨z7, rfl, hB7, s7, g7⟩
        have Sr7 := Lib.hid s7
        have Ss7 := Lib.hid (Ss6.out.farR g7 LA.out LI.out (.inl hgc))
        have G7 : Hid (w.grownBy w7 (some g)) := Lib.hid (grown_trans' G6.out g7)
        have HB7 := Lib.hid hB7
        clear s7 g7 hB7
        go_wp2_with fail
        go_ret2
        exact ⟨_, _, _, _, us, xss, rfl, HB7.out, Ss7.out.rr, by omega, Ss7.out.lens_le Ln4.out (by omega), Sr7.out, G7.out⟩
      · go_wp2_with fail
        refine (drawAny g n w6 Sr6.out (by omega) (by omega)).mono ?_
        rintro e w7 ⟨A7, m7, c7, ys, rfl, p7, hm7, s7, g7⟩
        have Sr7 := Lib.hid s7
        have Ss7 := Lib.hid (Ss6.out.farR g7 LA.out LI.out (.inl hgc))
        have G7 : Hid (w.grownBy w7 (some g)) := Lib.hid (grown_trans' G6.out g7)
        have P7 : Hid (Pm (w7.alloc (.cells #[.slice A7 m7 c7] 25)) w6.heap.size A7 m7 c7 ys) := Lib.hid (p7.up ((Below.refl w7.heap.size w7).alloc (Nat.le_refl _) _))
        have hz7 := G7.out.size
        have hz67 := g7.size
        have hlt7 : Hid (∀ j, (Value.slice A m c).ownBlock = some j → j < w6.heap.size) := Lib.hid fun j hj => by have := (LA.out j hj).2; omega
        clear s7 g7 p7
        go_wp2_with (first
          | (at_builtin
             refine wpList_app2R rfl _ _ rfl rfl (Ss7.out.alloc _) w7.heap.size A7 m7 c7 w6.heap.size ys rfl (by rw [World.cell?_alloc_at _ _ _ _ rfl]; rfl) P7.out hlt7.out (by omega) (by simp; omega) ?_
             intro A8 c8 w8 rr8 g8))
        have R8 := Lib.hid rr8
        have Sr8 : Hid (Src w8 g) := Lib.hid ((Sr7.out.below ((Below.refl w7.heap.size w7).alloc (Nat.le_refl _) (.cells #[.slice A7 m7 c7] 25)) Sr7.out.lt).gro2 g8 (fun j hj => by have := (LA.out j hj).1; omega))
        have G8 : Hid (w.grownBy w8 (some g)) := Lib.hid (grown_new2 (grown_alloc2 G7.out (.cells #[.slice A7 m7 c7] 25)) g8 (fun j hj => by have := (LA.out j hj).1; have := G3.out.size; omega))
        have Ln8 : Hid (∀ i, i < m + 1 → ((us ++ [((A7, m7, c7) : SV)]).getD i sd0).2.1 ≤ 21) := Lib.hid fun i hi => by
          by_cases e9 : i < m
          · rw [getD_app _ _ _ _ (by rw [Ss7.out.lv]; exact e9), Ln4.out i e9]; omega
          · rw [getD_snoc _ _ _ _ (by rw [Ss7.out.lv]; omega)]; exact hm7
        clear rr8 g8
        go_wp2_with fail
        go_ret2
        exact ⟨_, _, _, _, _, _, rfl, by unfold B64; omega, R8.out, by omega, Ln8.out, Sr8.out, G8.out⟩
      · have hw6 := G6.out.size
        have Sr7 : Hid (Src (w6.alloc (.cells #[] 25)) g) := Lib.hid (Sr6.out.below ((Below.refl w6.heap.size w6).alloc (Nat.le_refl _) _) Sr6.out.lt)
        have G7 : Hid (w.grownBy (w6.alloc (.cells #[] 25)) (some g)) := Lib.hid (grown_alloc2 G6.out _)
        go_wp2_with fail
        go_ret2
        exact ⟨_, _, 0, _, [], [], rfl, by unfold B64; omega, RR.nil_, by omega, fun i hi => absurd hi (by omega), Sr7.out, G7.out⟩
      · go_wp2_with fail
        go_loopg [5] 10 (fun gg v wr => ∃ (A : Option Addr) (m c : Nat) (us : List SV) (xss : List (List Int)), m ≤ 9 ∧ 9 - m ≤ gg ∧ v = .slice A m c ∧ SS wr wc.heap.size wc.heap.size A m c us xss ∧ (∀ i, i < m → (us.getD i sd0).2.1 = n) ∧ Src wr g ∧ w.grownBy wr (some g) ∧ wc.heap.size ≤ wr.heap.size)
        case atStart => exact ⟨_, m, _, _, _, by omega, by omega, rfl, Ss6.out, Ln4.out, Sr6.out, G6.out, by omega⟩
        case round =>
          clear LA LI Ss4 Ss5 Ss6
          obtain ⟨A, m, c, us, xss, hm9, hgm, rfl, ss, ln, sr, gr, hzc⟩ := hrel
          have Ss := Lib.hid ss
          have Ln := Lib.hid ln
          have Sr := Lib.hid sr
          have Gr := Lib.hid gr
          have LA : Hid (∀ j, (Value.slice A m c).ownBlock = some j → wc.heap.size ≤ j ∧ j < wr.heap.size) := Lib.hid ss.lt_
          have LI : Hid (∀ t, t < m → ∀ j, (sval (us.getD t sd0)).ownBlock = some j → wc.heap.size ≤ j ∧ j < wr.heap.size) := Lib.hid fun t ht => (ss.row t ht).lt_
          clear ss ln sr gr
          go_wp2_with fail
          refine (srcBelow g _ 2 wr Sr.out rfl (by omega) (by omega)).mono ?_
          rintro e w7 ⟨r7, hr7, rfl, s7, g7⟩
          have Sr7 := Lib.hid s7
          have Ss7 := Lib.hid (Ss.out.farR g7 LA.out LI.out (.inl hgc))
          have G7 : Hid (w.grownBy w7 (some g)) := Lib.hid (grown_trans' Gr.out g7)
          have hz7 := g7.size
          have w88 : IntKind.i64.wrap (8 + (r7 : Int)) = 8 + (r7 : Int) := by rw [IntKind.wrap_i64]; omega
          have w89 : IntKind.i64.wrap (r7 : Int) = (r7 : Int) := by rw [IntKind.wrap_i64]; omega
          clear s7 g7
          by_cases hlt : (m : Int) < 8 + (r7 : Int)
          · have d7 : decide ((m : Int) < 8 + (r7 : Int)) = true := decide_eq_true hlt
            have hm8 : m ≤ 8 := by omega
            go_wp2_with fail
            refine (specIdent n w7 (by omega)).mono ?_
            rintro e w8 ⟨A8, c8, rfl, s8, b8⟩
            have Sr8 := Lib.hid (Sr7.out.below b8 Sr7.out.lt)
            have Ss8 := Lib.hid (Ss7.out.up b8)
            have G8 : Hid (w.grownBy w8 (some g)) := Lib.hid (grown_below2 G7.out b8)
            have D8 := Lib.hid (lies_dis Ss7.out s8.lies (Nat.le_refl _))
            have hz8 := b8.size
            have Sl8 := Lib.hid (s8.mono (show wc.heap.size ≤ w7.heap.size by omega))
            clear s8 b8
            go_wp2_with (first
              | (at_builtin
                 refine wpList_app2 rfl _ _ rfl rfl (Ss8.out.alloc _) w8.heap.size A8 n c8 (idL n) rfl (by rw [World.cell?_alloc_at _ _ _ _ rfl]; rfl) (Sl8.out.alloc _) D8.out (by omega) (by simp; omega) ?_
                 intro A9 c9 w9 ss9 g9))
            have Ss9 : Hid (SS w9 wc.heap.size wc.heap.size A9 (m + 1) c9 (us ++ [(A8, n, c8)]) (xss ++ [idL n])) := Lib.hid ss9
            have Sr9 : Hid (Src w9 g) := Lib.hid ((Sr8.out.below ((Below.refl w8.heap.size w8).alloc (Nat.le_refl _) (.cells #[.slice A8 n c8] 25)) Sr8.out.lt).gro2 g9 (fun j hj => by have := (LA.out j hj).1; omega))
            have G9 : Hid (w.grownBy w9 (some g)) := Lib.hid (grown_new2 (grown_alloc2 G8.out (.cells #[.slice A8 n c8] 25)) g9 (fun j hj => by have := (LA.out j hj).1; have := G3.out.size; omega))
            have hz9 : wc.heap.size ≤ w9.heap.size := by have := g9.size; simp at this; omega
            have Ln9 : Hid (∀ i, i < m + 1 → ((us ++ [((A8, n, c8) : SV)]).getD i sd0).2.1 = n) := Lib.hid fun i hi => by
              by_cases e9 : i < m
              · rw [getD_app _ _ _ _ (by rw [Ss8.out.lv]; exact e9)]; exact Ln.out i e9
              · rw [getD_snoc _ _ _ _ (by rw [Ss8.out.lv]; omega)]
            clear ss9 g9
            go_wp2_with fail
            go_roundg (9 - (m + 1))
            case rel => exact ⟨A9, m + 1, c9, _, _, by omega, by omega, rfl, Ss9.out, Ln9.out, Sr9.out, G9.out, hz9⟩
            case measure => omega
          · have d7 : decide ((m : Int) < 8 + (r7 : Int)) = false := decide_eq_false hlt
            go_wp2_with fail
            go_ret2
            exact ⟨_, _, _, _, us, xss, rfl, by unfold B64; omega, Ss7.out.rr, by omega, Ss7.out.lens_le Ln.out (by omega), Sr7.out, G7.out⟩
end Go.Proofs.Ytooafmifbplbhaa

/- A draw of a group, with where its slices lie. Condition: at most 4096 bytes. -/
namespace Go.Proofs.Ytooafmifbplbhaa
open Go.RowKit

/-- Slices of numbers that can be read, all in blocks from lo on. -/
structure RX (w : World) (lo : Nat) (A : Option Addr) (n : Nat) (vs : List SV) (xss : List (List Int)) : Prop where
  rr : RR w w.heap.size A n vs xss
  outer : 0 < n → ∀ b off, A = some ⟨b, off, none⟩ → lo ≤ b
  inner : ∀ j, j < n → ∀ b off, (vs.getD j sd0).1 = some ⟨b, off, none⟩ → 0 < (xss.getD j []).length → lo ≤ b
section
variable {w w' : World} {lo g n : Nat} {A : Option Addr} {vs : List SV} {xss : List (List Int)}
theorem RX.nil_ {c : Option Addr} : RX w lo c 0 [] [] := ⟨RR.nil_, fun h => absurd h (Nat.lt_irrefl _), fun j h => absurd h (Nat.not_lt_zero _)⟩
theorem RX.of_ss {bo bi c : Nat} (h : SS w bo bi A n c vs xss) (h1 : lo ≤ bo) (h2 : lo ≤ bi) : RX w lo A n vs xss :=
  ⟨h.rr, fun _ b off e => by have := (h.lt_ b (by subst e; rfl)).1; omega, fun j hj b off e _ => by have := ((h.row j hj).lt_ b (by rw [e]; rfl)).1; omega⟩
theorem RX.gro (h : RX w lo A n vs xss) (hg : w.grownBy w' (some g)) (hl : g < lo) : RX w' lo A n vs xss :=
  ⟨⟨h.rr.lv, h.rr.lx, fun hn => by
      obtain ⟨b, off, e, hb, hc⟩ := h.rr.cells hn
      have := h.outer hn b off e
      exact ⟨b, off, e, Nat.lt_of_lt_of_le hb hg.size, fun j hj => (World.cell?_of_block (a := ⟨b, off + j, none⟩) (hg.block b hb (by intro e2; injection e2 with e2; omega))).trans (hc j hj)⟩,
    fun j hj hp => by
      obtain ⟨b, off, e, hb, hc⟩ := h.rr.rows j hj hp
      have := h.inner j hj b off e hp
      exact ⟨b, off, e, Nat.lt_of_lt_of_le hb hg.size, fun t ht => (World.cell?_of_block (a := ⟨b, off + t, none⟩) (hg.block b hb (by intro e2; injection e2 with e2; omega))).trans (hc t ht)⟩, h.rr.lens, h.rr.caps⟩, h.outer, h.inner⟩
theorem RX.up (h : RX w lo A n vs xss) (hb : Below w.heap.size w w') : RX w' lo A n vs xss := ⟨h.rr.up hb, h.outer, h.inner⟩
end
section
variable {w w' : World} {base n c : Nat} {A : Option Addr} {vs : List SV} {xss : List (List Int)}
/-- A slice that can be read, appended onto a slice of slices of the call's own. -/
theorem wpList_app2X {ops : Array Oper} {rest : List Oper} {o : Oper} {a : Act} {Q : Exit → Act → World → Prop} (hgd : o.guard = none) (s x : Operand)
    (ho : o.op = .call { callee := .builtin .append, args := #[s, x], argTypes := #[24, 24] })
    (hs : a.eval s = .slice A n c) (hss : SS w base base A n c vs xss) (g : Nat) (dA : Option Addr) (dn dc lo : Nat) (ys : List Int) (hx : a.eval x = .slice (some ⟨g, 0, none⟩) 1 1)
    (hcell : w.cell? ⟨g, 0, none⟩ = some (.slice dA dn dc)) (hys : Pm w lo dA dn dc ys) (hlo : ∀ k, (Value.slice A n c).ownBlock = some k → k < lo) (hn : n ≤ 1000000000) (hbase : base ≤ w.heap.size) (l0 : Nat) (hl0 : l0 ≤ base) (hl1 : l0 ≤ lo)
    (h : ∀ A' c' w', RX w' l0 A' (n + 1) (vs ++ [(dA, dn, dc)]) (xss ++ [ys]) → w.grownBy w' (Value.slice A n c).ownBlock → wpList Try.prog ops Q rest (a.put o.dst (.slice A' (n + 1) c')) w') : wpList Try.prog ops Q (o :: rest) a w := by
  obtain ⟨i0, hi, hz0, hz1, hz2⟩ := info_parts infoS
  refine wpList_append_own (w := w) hgd s x 24 ho base 25 i0 (.slice none 0 0) 1 24 Try.underlying24 hi hz0 hz1 hz2 rfl (by decide) _ n _ hs hss.own ⟨g, 0, none⟩ 1 1 [.slice dA dn dc] hx rfl ?_ ?_ ?_ (by omega) hbase ?_
  · intro j v hj
    match j, hj with
    | 0, hj => simp at hj; subst hj; simpa [Addr.add] using hcell
    | j + 1, hj => simp at hj
  · intro v hv; simp at hv; subst hv; rfl
  · unfold maxLen; omega
  · intro v' w' hown' hg _
    rcases hown'.2 with ⟨rfl, h0⟩ | ⟨g', cap, cur, rfl, hb', hg', hnc, _⟩
    · omega
    · refine h (some ⟨g', 0, none⟩) cap w' ⟨⟨by simp [hss.lv], by simp [hss.lx], fun _ => ⟨g', 0, rfl, (Array.getElem?_eq_some_iff.1 hg').1, fun j hj => ?_⟩, fun j hj => ?_, fun j hj => ?_, fun j hj => ?_⟩, fun _ b off e => ?_, fun j hj b off e hp => ?_⟩ hg
      · rw [Nat.zero_add, hown'.cellAt j (by omega)]
        by_cases e : j < n
        · rw [List.getElem?_append_left (by rw [List.length_map, hss.lv]; exact e), List.getElem?_map, getD_app _ _ _ _ (by rw [hss.lv]; exact e), List.getD_eq_getElem?_getD, List.getElem?_eq_getElem (by rw [hss.lv]; exact e)]; rfl
        · obtain rfl : j = n := by omega
          rw [List.getElem?_append_right (by rw [List.length_map, hss.lv]; exact Nat.le_refl _), List.length_map, hss.lv, Nat.sub_self, getD_snoc _ _ _ _ hss.lv.symm]; rfl
      · by_cases e : j < n
        · rw [getD_app _ _ _ _ (by rw [hss.lv]; exact e), getD_app _ _ _ _ (by rw [hss.lx]; exact e)]
          exact ((hss.row j e).kept hg (apart_types (hss.row j e) hss.own)).ri_
        · obtain rfl : j = n := by omega
          rw [getD_snoc _ _ _ _ hss.lv.symm, getD_snoc _ _ _ _ hss.lx.symm]
          intro hp
          obtain ⟨b, off, e1, h1, h2, hc⟩ := hys.2.2 (by rw [← hys.1]; exact hp)
          refine ⟨b, off, e1, Nat.lt_of_lt_of_le h2 hg.size, fun t ht => (World.cell?_of_block (a := ⟨b, off + t, none⟩) (hg.block b h2 fun e2 => ?_)).trans (hc t (by rw [← hys.1]; exact ht))⟩
          have := hlo b e2.symm
          omega
      · by_cases e : j < n
        · rw [getD_app _ _ _ _ (by rw [hss.lx]; exact e), getD_app _ _ _ _ (by rw [hss.lv]; exact e)]; exact (hss.row j e).1
        · obtain rfl : j = n := by omega
          rw [getD_snoc _ _ _ _ hss.lx.symm, getD_snoc _ _ _ _ hss.lv.symm]; exact hys.1
      · by_cases e : j < n
        · rw [getD_app _ _ _ _ (by rw [hss.lv]; exact e)]; exact (hss.row j e).le.1
        · obtain rfl : j = n := by omega
          rw [getD_snoc _ _ _ _ hss.lv.symm]; exact hys.2.1
      · injection e with e; injection e with e; omega
      · by_cases e9 : j < n
        · rw [getD_app _ _ _ _ (by rw [hss.lv]; exact e9)] at e
          have := ((hss.row j e9).lt_ b (by rw [e]; rfl)).1
          omega
        · obtain rfl : j = n := by omega
          rw [getD_snoc _ _ _ _ hss.lv.symm] at e
          rw [getD_snoc _ _ _ _ hss.lx.symm] at hp
          obtain ⟨b2, off2, e1, h1, _⟩ := hys.2.2 (by rw [← hys.1]; exact hp)
          have e3 : (some ⟨b, off, none⟩ : Option Addr) = some ⟨b2, off2, none⟩ := e.symm.trans e1
          injection e3 with e3; injection e3 with e3; omega
end

set_option maxHeartbeats 4000000 in
set_option maxRecDepth 100000 in
/-- drawGroup. -/
theorem drawGroupX (g : Nat) (w : World) (hs : Src w g) :
    Calls Try.prog 63 #[.pointer (some ⟨g, 0, none⟩)] w fun e w' => ∃ (z : Int) (A : Option Addr) (m c : Nat) (vs : List SV) (xss : List (List Int)), e = .returned (.tuple #[.int .i64 z, .slice A m c]) ∧ B64 z ∧ RX w' w.heap.size A m vs xss ∧ m ≤ 9 ∧ (∀ i, i < m → (vs.getD i sd0).2.1 ≤ 21) ∧ Src w' g ∧ w.grownBy w' (some g) := by
  have hg := hs.lt
  go_enter Try.func63, Try.ntmps63
  go_wp2_with fail
  refine (srcBetween g 2 5 w hs (by omega) (by omega)).mono ?_
  rintro e w1 ⟨n1, h11, h12, rfl, s1, g1⟩
  have Sr1 := Lib.hid s1
  have G1 := Lib.hid g1
  clear s1 g1 hs
  go_wp2_with fail
  refine (srcOne g _ 6 w1 Sr1.out rfl (by omega) (by omega)).mono ?_
  rintro e w2 ⟨b, rfl, s2, g2⟩
  have Sr2 := Lib.hid s2
  have G2 : Hid (w.grownBy w2 (some g)) := Lib.hid (grown_trans' G1.out g2)
  clear s2 g2
  go_upto_if 9 with fail
  go_cut [4] from 6 to 48 (fun nn wx => ∃ n : Nat, 1 ≤ n ∧ n ≤ 7 ∧ nn = .int .i64 (n : Nat) ∧ Src wx g ∧ w.grownBy wx (some g))
  case first =>
    cases b
    · go_wp2_with fail
      go_meet
      exact ⟨n1, by omega, by omega, rfl, Sr2.out, G2.out⟩
    · go_wp2_with fail
      refine (srcBetween g 1 7 w2 Sr2.out (by omega) (by omega)).mono ?_
      rintro e w3 ⟨n3, h31, h32, rfl, s3, g3⟩
      have Sr3 := Lib.hid s3
      have G3 : Hid (w.grownBy w3 (some g)) := Lib.hid (grown_trans' G2.out g3)
      clear s3 g3
      go_wp2_with fail
      go_meet
      exact ⟨n3, by omega, by omega, rfl, Sr3.out, G3.out⟩
  case rest =>
    obtain ⟨n, hn1, hn7, rfl, src, grc⟩ := hcut
    have Sr3 := Lib.hid src
    have G3 := Lib.hid grc
    clear src grc Sr2 G2 Sr1 G1
    have hwc := G3.out.size
    go_wp2_with fail
    refine (drawGens g n wc Sr3.out hn1 (by omega)).mono ?_
    rintro e w4 ⟨A, m, c, us, xss, rfl, ss4, ln4, hm4, s4, g4⟩
    have Ss4 := Lib.hid ss4
    have Ln4 := Lib.hid ln4
    have Sr4 := Lib.hid s4
    have G4 : Hid (w.grownBy w4 (some g)) := Lib.hid (grown_trans' G3.out g4)
    have hgc : g < wc.heap.size := Sr3.out.lt
    have hz4 := G4.out.size
    have LA : Hid (∀ j, (Value.slice A m c).ownBlock = some j → wc.heap.size ≤ j ∧ j < w4.heap.size) := Lib.hid ss4.lt_
    have LI : Hid (∀ t, t < m → ∀ j, (sval (us.getD t sd0)).ownBlock = some j → wc.heap.size ≤ j ∧ j < w4.heap.size) := Lib.hid fun t ht => (ss4.row t ht).lt_
    have hzc4 := g4.size
    clear ss4 ln4 s4 g4
    go_wp2_with fail
    refine (srcOne g _ 20 w4 Sr4.out rfl (by omega) (by omega)).mono ?_
    rintro e w5 ⟨b5, rfl, s5, g5⟩
    have Sr5 := Lib.hid s5
    have Ss5 := Lib.hid (Ss4.out.farR g5 LA.out LI.out (.inl hgc))
    have G5 : Hid (w.grownBy w5 (some g)) := Lib.hid (grown_trans' G4.out g5)
    have hz5 := g5.size
    clear s5 g5
    cases b5
    · go_wp2_with fail
      go_ret2
      exact ⟨_, _, _, _, us, xss, rfl, by unfold B64; omega, (RX.of_ss Ss5.out (by omega) (by omega)), by omega, Ss5.out.lens_le Ln4.out (by omega), Sr5.out, G5.out⟩
    · go_wp2_with fail
      refine (srcBelow g _ 4 w5 Sr5.out rfl (by omega) (by omega)).mono ?_
      rintro e w6 ⟨r6, hr6, rfl, s6, g6⟩
      have Sr6 := Lib.hid s6
      have Ss6 := Lib.hid (Ss5.out.farR g6 LA.out LI.out (.inl hgc))
      have G6 : Hid (w.grownBy w6 (some g)) := Lib.hid (grown_trans' G5.out g6)
      have hz6 := g6.size
      clear s6 g6
      obtain rfl | rfl | rfl | rfl : r6 = 0 ∨ r6 = 1 ∨ r6 = 2 ∨ r6 = 3 := by omega
      · go_wp2_with fail
        refine (srcNumberB g 20 w6 Sr6.out (by omega) (by omega)).mono ?_
        rintro e w7 ⟨z7, rfl, hB7, s7, g7⟩
        have Sr7 := Lib.hid s7
        have Ss7 := Lib.hid (Ss6.out.farR g7 LA.out LI.out (.inl hgc))
        have G7 : Hid (w.grownBy w7 (some g)) := Lib.hid (grown_trans' G6.out g7)
        have HB7 := Lib.hid hB7
        clear s7 g7 hB7
        go_wp2_with fail
        go_ret2
        exact ⟨_, _, _, _, us, xss, rfl, HB7.out, (RX.of_ss Ss7.out (by omega) (by omega)), by omega, Ss7.out.lens_le Ln4.out (by omega), Sr7.out, G7.out⟩
      · go_wp2_with fail
        refine (drawAny g n w6 Sr6.out (by omega) (by omega)).mono ?_
        rintro e w7 ⟨A7, m7, c7, ys, rfl, p7, hm7, s7, g7⟩
        have Sr7 := Lib.hid s7
        have Ss7 := Lib.hid (Ss6.out.farR g7 LA.out LI.out (.inl hgc))
        have G7 : Hid (w.grownBy w7 (some g)) := Lib.hid (grown_trans' G6.out g7)
        have P7 : Hid (Pm (w7.alloc (.cells #[.slice A7 m7 c7] 25)) w6.heap.size A7 m7 c7 ys) := Lib.hid (p7.up ((Below.refl w7.heap.size w7).alloc (Nat.le_refl _) _))
        have hz7 := G7.out.size
        have hz67 := g7.size
        have hlt7 : Hid (∀ j, (Value.slice A m c).ownBlock = some j → j < w6.heap.size) := Lib.hid fun j hj => by have := (LA.out j hj).2; omega
        clear s7 g7 p7
        go_wp2_with (first
          | (at_builtin
             refine wpList_app2X rfl _ _ rfl rfl (Ss7.out.alloc _) w7.heap.size A7 m7 c7 w6.heap.size ys rfl (by rw [World.cell?_alloc_at _ _ _ _ rfl]; rfl) P7.out hlt7.out (by omega) (by simp; omega) w.heap.size (by omega) (by omega) ?_
             intro A8 c8 w8 rr8 g8))
        have R8 := Lib.hid rr8
        have Sr8 : Hid (Src w8 g) := Lib.hid ((Sr7.out.below ((Below.refl w7.heap.size w7).alloc (Nat.le_refl _) (.cells #[.slice A7 m7 c7] 25)) Sr7.out.lt).gro2 g8 (fun j hj => by have := (LA.out j hj).1; omega))
        have G8 : Hid (w.grownBy w8 (some g)) := Lib.hid (grown_new2 (grown_alloc2 G7.out (.cells #[.slice A7 m7 c7] 25)) g8 (fun j hj => by have := (LA.out j hj).1; have := G3.out.size; omega))
        have Ln8 : Hid (∀ i, i < m + 1 → ((us ++ [((A7, m7, c7) : SV)]).getD i sd0).2.1 ≤ 21) := Lib.hid fun i hi => by
          by_cases e9 : i < m
          · rw [getD_app _ _ _ _ (by rw [Ss7.out.lv]; exact e9), Ln4.out i e9]; omega
          · rw [getD_snoc _ _ _ _ (by rw [Ss7.out.lv]; omega)]; exact hm7
        clear rr8 g8
        go_wp2_with fail
        go_ret2
        exact ⟨_, _, _, _, _, _, rfl, by unfold B64; omega, R8.out, by omega, Ln8.out, Sr8.out, G8.out⟩
      · have hw6 := G6.out.size
        have Sr7 : Hid (Src (w6.alloc (.cells #[] 25)) g) := Lib.hid (Sr6.out.below ((Below.refl w6.heap.size w6).alloc (Nat.le_refl _) _) Sr6.out.lt)
        have G7 : Hid (w.grownBy (w6.alloc (.cells #[] 25)) (some g)) := Lib.hid (grown_alloc2 G6.out _)
        go_wp2_with fail
        go_ret2
        exact ⟨_, _, 0, _, [], [], rfl, by unfold B64; omega, RX.nil_, by omega, fun i hi => absurd hi (by omega), Sr7.out, G7.out⟩
      · go_wp2_with fail
        go_loopg [5] 10 (fun gg v wr => ∃ (A : Option Addr) (m c : Nat) (us : List SV) (xss : List (List Int)), m ≤ 9 ∧ 9 - m ≤ gg ∧ v = .slice A m c ∧ SS wr wc.heap.size wc.heap.size A m c us xss ∧ (∀ i, i < m → (us.getD i sd0).2.1 = n) ∧ Src wr g ∧ w.grownBy wr (some g) ∧ wc.heap.size ≤ wr.heap.size)
        case atStart => exact ⟨_, m, _, _, _, by omega, by omega, rfl, Ss6.out, Ln4.out, Sr6.out, G6.out, by omega⟩
        case round =>
          clear LA LI Ss4 Ss5 Ss6
          obtain ⟨A, m, c, us, xss, hm9, hgm, rfl, ss, ln, sr, gr, hzc⟩ := hrel
          have Ss := Lib.hid ss
          have Ln := Lib.hid ln
          have Sr := Lib.hid sr
          have Gr := Lib.hid gr
          have LA : Hid (∀ j, (Value.slice A m c).ownBlock = some j → wc.heap.size ≤ j ∧ j < wr.heap.size) := Lib.hid ss.lt_
          have LI : Hid (∀ t, t < m → ∀ j, (sval (us.getD t sd0)).ownBlock = some j → wc.heap.size ≤ j ∧ j < wr.heap.size) := Lib.hid fun t ht => (ss.row t ht).lt_
          clear ss ln sr gr
          go_wp2_with fail
          refine (srcBelow g _ 2 wr Sr.out rfl (by omega) (by omega)).mono ?_
          rintro e w7 ⟨r7, hr7, rfl, s7, g7⟩
          have Sr7 := Lib.hid s7
          have Ss7 := Lib.hid (Ss.out.farR g7 LA.out LI.out (.inl hgc))
          have G7 : Hid (w.grownBy w7 (some g)) := Lib.hid (grown_trans' Gr.out g7)
          have hz7 := g7.size
          have w88 : IntKind.i64.wrap (8 + (r7 : Int)) = 8 + (r7 : Int) := by rw [IntKind.wrap_i64]; omega
          have w89 : IntKind.i64.wrap (r7 : Int) = (r7 : Int) := by rw [IntKind.wrap_i64]; omega
          clear s7 g7
          by_cases hlt : (m : Int) < 8 + (r7 : Int)
          · have d7 : decide ((m : Int) < 8 + (r7 : Int)) = true := decide_eq_true hlt
            have hm8 : m ≤ 8 := by omega
            go_wp2_with fail
            refine (specIdent n w7 (by omega)).mono ?_
            rintro e w8 ⟨A8, c8, rfl, s8, b8⟩
            have Sr8 := Lib.hid (Sr7.out.below b8 Sr7.out.lt)
            have Ss8 := Lib.hid (Ss7.out.up b8)
            have G8 : Hid (w.grownBy w8 (some g)) := Lib.hid (grown_below2 G7.out b8)
            have D8 := Lib.hid (lies_dis Ss7.out s8.lies (Nat.le_refl _))
            have hz8 := b8.size
            have Sl8 := Lib.hid (s8.mono (show wc.heap.size ≤ w7.heap.size by omega))
            clear s8 b8
            go_wp2_with (first
              | (at_builtin
                 refine wpList_app2 rfl _ _ rfl rfl (Ss8.out.alloc _) w8.heap.size A8 n c8 (idL n) rfl (by rw [World.cell?_alloc_at _ _ _ _ rfl]; rfl) (Sl8.out.alloc _) D8.out (by omega) (by simp; omega) ?_
                 intro A9 c9 w9 ss9 g9))
            have Ss9 : Hid (SS w9 wc.heap.size wc.heap.size A9 (m + 1) c9 (us ++ [(A8, n, c8)]) (xss ++ [idL n])) := Lib.hid ss9
            have Sr9 : Hid (Src w9 g) := Lib.hid ((Sr8.out.below ((Below.refl w8.heap.size w8).alloc (Nat.le_refl _) (.cells #[.slice A8 n c8] 25)) Sr8.out.lt).gro2 g9 (fun j hj => by have := (LA.out j hj).1; omega))
            have G9 : Hid (w.grownBy w9 (some g)) := Lib.hid (grown_new2 (grown_alloc2 G8.out (.cells #[.slice A8 n c8] 25)) g9 (fun j hj => by have := (LA.out j hj).1; have := G3.out.size; omega))
            have hz9 : wc.heap.size ≤ w9.heap.size := by have := g9.size; simp at this; omega
            have Ln9 : Hid (∀ i, i < m + 1 → ((us ++ [((A8, n, c8) : SV)]).getD i sd0).2.1 = n) := Lib.hid fun i hi => by
              by_cases e9 : i < m
              · rw [getD_app _ _ _ _ (by rw [Ss8.out.lv]; exact e9)]; exact Ln.out i e9
              · rw [getD_snoc _ _ _ _ (by rw [Ss8.out.lv]; omega)]
            clear ss9 g9
            go_wp2_with fail
            go_roundg (9 - (m + 1))
            case rel => exact ⟨A9, m + 1, c9, _, _, by omega, by omega, rfl, Ss9.out, Ln9.out, Sr9.out, G9.out, hz9⟩
            case measure => omega
          · have d7 : decide ((m : Int) < 8 + (r7 : Int)) = false := decide_eq_false hlt
            go_wp2_with fail
            go_ret2
            exact ⟨_, _, _, _, us, xss, rfl, by unfold B64; omega, (RX.of_ss Ss7.out (by omega) (by omega)), by omega, Ss7.out.lens_le Ln.out (by omega), Sr7.out, G7.out⟩
end Go.Proofs.Ytooafmifbplbhaa

/- The draws of chapter 4's named laws. Condition: at most 4096 bytes. -/
namespace Go.Proofs.Ytooafmifbplbhaa
open Go.RowKit

theorem drawAnyK (g n : Nat) (N : Int) (w : World) (hs : Src w g) (hN : N = (n : Int)) (h1 : 1 ≤ n) (hn : n ≤ 20) :
    Calls Try.prog 91 #[.pointer (some ⟨g, 0, none⟩), .int .i64 N] w fun e w' => ∃ A m c xs, e = .returned (.slice A m c) ∧ Pm w' w.heap.size A m c xs ∧ m ≤ 21 ∧ Src w' g ∧ w.grownBy w' (some g) := by
  subst hN; exact drawAny g n w hs h1 hn

set_option maxHeartbeats 4000000 in
set_option maxRecDepth 100000 in
/-- drawMember. -/
theorem drawMemberT (g lo : Nat) (z : Int) (A : Option Addr) (m c : Nat) (vs : List SV) (xss : List (List Int)) (w : World) (hs : Src w g) (hB : B64 z) (rx : RX w lo A m vs xss) (hg : g < lo) (hm : m ≤ 9) (hln : ∀ i, i < m → (vs.getD i sd0).2.1 ≤ 21) :
    Calls Try.prog 76 #[.pointer (some ⟨g, 0, none⟩), .int .i64 z, .slice A m c] w fun e w' => ∃ (A' : Option Addr) (n' c' : Nat) (p : List Int), e = .returned (.slice A' n' c') ∧ Pm w' w.heap.size A' n' c' p ∧ n' ≤ 21 ∧ Src w' g ∧ w.grownBy w' (some g) := by
  have Sr0 := Lib.hid hs
  have Rx0 := Lib.hid rx
  have hgw := hs.lt
  have Ln : Hid (∀ i, i < m → (vs.getD i sd0).2.1 ≤ 1048576) := Lib.hid fun i hi => by have := hln i hi; omega
  have hlx : Hid (xss.length = m) := Lib.hid rx.rr.lx
  clear hs rx hln
  go_enter Try.func76, Try.ntmps76
  go_wp2_with fail
  refine (specGS z A m c vs xss w Rx0.out.rr (by omega) Ln hB).mono ?_
  rintro e w1 ⟨rfl, b1⟩
  have Sr1 := Lib.hid (Sr0.out.below b1 hgw)
  have Rx1 := Lib.hid (Rx0.out.up b1)
  have G1 : Hid (w.grownBy w1 (some g)) := Lib.hid (grown_below2 (grown_refl w _) b1)
  clear b1
  rcases hq : gB z xss with _ | _
  · clear hq
    obtain hz | hz | hz : z < 1 ∨ (1 ≤ z ∧ z ≤ 7) ∨ 7 < z := by omega
    · go_wp2_with fail
      refine (drawAnyK g 1 1 w1 Sr1.out rfl (by omega) (by omega)).mono ?_
      rintro e w2 ⟨A2, n2, c2, p2, rfl, pm2, hn2, s2, g2⟩
      have Pm2 : Hid (Pm w2 w.heap.size A2 n2 c2 p2) := Lib.hid (pm2.mono G1.out.size)
      have Sr2 := Lib.hid s2
      have G2 : Hid (w.grownBy w2 (some g)) := Lib.hid (grown_trans' G1.out g2)
      clear pm2 s2 g2
      go_wp2_with fail
      go_ret
      exact ⟨_, _, _, _, rfl, Pm2.out, hn2, Sr2.out, G2.out⟩
    · obtain ⟨n, rfl⟩ : ∃ n : Nat, z = (n : Int) := ⟨z.toNat, by omega⟩
      obtain ⟨hz1, hz2⟩ := hz
      go_wp2_with fail
      all_goals
        refine (drawAnyK g n _ w1 Sr1.out (by omega) (by omega) (by omega)).mono ?_
        rintro e w2 ⟨A2, n2, c2, p2, rfl, pm2, hn2, s2, g2⟩
        have Pm2 : Hid (Pm w2 w.heap.size A2 n2 c2 p2) := Lib.hid (pm2.mono G1.out.size)
        have Sr2 := Lib.hid s2
        have G2 : Hid (w.grownBy w2 (some g)) := Lib.hid (grown_trans' G1.out g2)
        clear pm2 s2 g2
        go_wp2_with fail
        go_ret
        exact ⟨_, _, _, _, rfl, Pm2.out, hn2, Sr2.out, G2.out⟩
    · go_wp2_with fail
      refine (drawAnyK g 7 7 w1 Sr1.out rfl (by omega) (by omega)).mono ?_
      rintro e w2 ⟨A2, n2, c2, p2, rfl, pm2, hn2, s2, g2⟩
      have Pm2 : Hid (Pm w2 w.heap.size A2 n2 c2 p2) := Lib.hid (pm2.mono G1.out.size)
      have Sr2 := Lib.hid s2
      have G2 : Hid (w.grownBy w2 (some g)) := Lib.hid (grown_trans' G1.out g2)
      clear pm2 s2 g2
      go_wp2_with fail
      go_ret
      exact ⟨_, _, _, _, rfl, Pm2.out, hn2, Sr2.out, G2.out⟩
  · obtain ⟨N, rfl, hN1, hN2, hg8, hpm, hok⟩ := gB_pm hq
    have Ok := Lib.hid hok
    clear hq hpm hok
    go_wp2_with fail
    refine (specIdent N w1 (by omega)).mono ?_
    rintro e w2 ⟨A2, c2, rfl, s2, b2⟩
    have Sl2 : Hid (Slc w2 w.heap.size A2 N c2 (idL N)) := Lib.hid (s2.mono G1.out.size)
    have Sr2 := Lib.hid (Sr1.out.below b2 Sr1.out.lt)
    have Rx2 := Lib.hid (Rx1.out.up b2)
    have G2 : Hid (w.grownBy w2 (some g)) := Lib.hid (grown_below2 G1.out b2)
    clear s2 b2
    go_wp2_with fail
    refine (srcBelow g _ 8 w2 Sr2.out rfl (by omega) (by omega)).mono ?_
    rintro e w3 ⟨r3, hr3, rfl, s3, g3⟩
    have Sr3 := Lib.hid s3
    have Sl3 : Hid (Slc w3 w.heap.size A2 N c2 (idL N)) := Lib.hid (Sl2.out.kept g3 (.inr fun e => by have := (Sl2.out.lt_ g e).1; omega))
    have Rx3 := Lib.hid (Rx2.out.gro g3 hg)
    have G3 : Hid (w.grownBy w3 (some g)) := Lib.hid (grown_trans' G2.out g3)
    have I0 : Hid (Pn N (idL N)) := Lib.hid (pn_id hN1 hN2)
    clear s3 g3
    go_wp2_with fail
    go_loopg [7, 8] 8 (fun gg v i wr => ∃ (k cc : Nat) (A' : Option Addr) (p : List Int), k ≤ 8 ∧ k ≤ gg ∧ i = .int .i64 (k : Nat) ∧ v = .slice A' N cc ∧ Slc wr w.heap.size A' N cc p ∧ Pn N p ∧ Src wr g ∧ RX wr lo A m vs xss ∧ w.grownBy wr (some g))
    case atStart => exact ⟨r3, _, _, _, by omega, by omega, rfl, rfl, Sl3.out, I0.out, Sr3.out, Rx3.out, G3.out⟩
    case round =>
      clear Sl3 I0 Sr3 Rx3 G3 Sl2 Sr2 Rx2 G2
      obtain ⟨k, cc, A3, p, hk, hkg, rfl, rfl, hsl, hpp, hsr, hrx, hgr⟩ := hrel
      have Sl := Lib.hid hsl
      have Pp := Lib.hid hpp
      have Sr := Lib.hid hsr
      have Rx := Lib.hid hrx
      have Gr := Lib.hid hgr
      have hwr := hgr.size
      clear hsl hpp hsr hrx hgr
      by_cases hk0 : 0 < k ∧ 0 < m
      · obtain ⟨hk1, hm1⟩ := hk0
        have d1 : decide (0 < k) = true := decide_eq_true hk1
        have d2 : decide (0 < m) = true := decide_eq_true hm1
        have d3 : decide ((0 : Int) < (k : Int)) = true := by simp; omega
        have d4 : decide ((0 : Int) < (m : Int)) = true := by simp; omega
        have wk : IntKind.i64.wrap ((k : Int) - 1) = ((k - 1 : Nat) : Int) := by rw [IntKind.wrap_i64]; omega
        have Hk1 := Lib.hid hk1
        clear hk1
        go_wp2_with fail
        refine (srcBelow g _ m wr Sr.out rfl (by omega) (by omega)).mono ?_
        rintro e w4 ⟨r4, hr4, rfl, s4, g4⟩
        have Sr4 := Lib.hid s4
        have Sl4 : Hid (Slc w4 w.heap.size A3 N cc p) := Lib.hid (Sl.out.kept g4 (.inr fun e => by have := (Sl.out.lt_ g e).1; omega))
        have Rx4 := Lib.hid (Rx.out.gro g4 hg)
        have G4 : Hid (w.grownBy w4 (some g)) := Lib.hid (grown_trans' Gr.out g4)
        clear s4 g4
        obtain ⟨b, off, A5, l, c5, y, rfl, hb, hv, ey, x1, ri, ly, hl5⟩ := Rx4.out.rr.at_ hr4
        have hyP := Ok.out y (by rw [← ey]; exact getD_memL (by rw [hlx.out]; exact hr4))
        obtain rfl : l = N := by omega
        have Yp : Hid (Pn l y) := Lib.hid hyP
        have Ri := Lib.hid ri
        have q0 : (0 : Int) ≤ r4 := by omega
        have q1 : (r4 : Int) < m := by omega
        clear hb hv ey ri ly hl5 hyP
        go_wp2_with fail
        refine (specComp A3 A5 cc c5 l p y w4 Sl4.out.ri_ Ri.out (Lib.hid Pp.out.2) (Lib.hid Yp.out.2) (Lib.hid Pp.out.1) hN2).mono ?_
        rintro e w5 ⟨A6, c6, rfl, s5, b5⟩
        have Sl5 : Hid (Slc w5 w.heap.size A6 l c6 (compL p y)) := Lib.hid (s5.mono G4.out.size)
        have Sr5 := Lib.hid (Sr4.out.below b5 Sr4.out.lt)
        have Rx5 := Lib.hid (Rx4.out.up b5)
        have G5 : Hid (w.grownBy w5 (some g)) := Lib.hid (grown_below2 G4.out b5)
        have P5 : Hid (Pn l (compL p y)) := Lib.hid (Pp.out.comp Yp.out)
        clear s5 b5
        go_wp2_with fail
        go_roundg (k - 1)
        case rel => exact ⟨k - 1, _, _, _, by omega, by omega, by go_num, rfl, Sl5.out, P5.out, Sr5.out, Rx5.out, G5.out⟩
        case measure => have := Hk1.out; omega
      · have Done : Hid (¬ (0 < k ∧ 0 < m)) := Lib.hid hk0
        have d1 : (decide (0 < k) && decide (0 < m)) = false := by
          rw [Bool.and_eq_false_iff, decide_eq_false_iff_not, decide_eq_false_iff_not]; omega
        by_cases hk1 : 0 < k
        · have d2 : decide (0 < k) = true := decide_eq_true hk1
          have d3 : decide ((0 : Int) < (k : Int)) = true := by simp; omega
          have d4 : decide (0 < m) = false := decide_eq_false (by omega)
          have d5 : decide ((0 : Int) < (m : Int)) = false := by simp; omega
          clear hk0 hk1 d1
          go_wp2_with fail
          refine (srcOne g _ 3 wr Sr.out rfl (by omega) (by omega)).mono ?_
          rintro e w4 ⟨bb, rfl, s4, g4⟩
          have Sr4 := Lib.hid s4
          have Sl4 : Hid (Slc w4 w.heap.size A3 N cc p) := Lib.hid (Sl.out.kept g4 (.inr fun e => by have := (Sl.out.lt_ g e).1; omega))
          have G4 : Hid (w.grownBy w4 (some g)) := Lib.hid (grown_trans' Gr.out g4)
          clear s4 g4
          cases bb
          · go_wp2_with fail
            go_ret
            exact ⟨_, _, _, _, rfl, Pm.of_slc Sl4.out, by omega, Sr4.out, G4.out⟩
          · go_wp2_with fail
            refine (drawAnyK g N _ w4 Sr4.out rfl hN1 hN2).mono ?_
            rintro e w5 ⟨A5, n5, c5, p5, rfl, pm5, hn5, s5, g5⟩
            have Pm5 : Hid (Pm w5 w.heap.size A5 n5 c5 p5) := Lib.hid (pm5.mono G4.out.size)
            have Sr5 := Lib.hid s5
            have G5 : Hid (w.grownBy w5 (some g)) := Lib.hid (grown_trans' G4.out g5)
            clear pm5 s5 g5
            go_wp2_with fail
            go_ret
            exact ⟨_, _, _, _, rfl, Pm5.out, hn5, Sr5.out, G5.out⟩
        · have d2 : decide (0 < k) = false := decide_eq_false hk1
          have d3 : decide ((0 : Int) < (k : Int)) = false := by simp; omega
          clear hk0 hk1 d1
          go_wp2_with fail
          refine (srcOne g _ 3 wr Sr.out rfl (by omega) (by omega)).mono ?_
          rintro e w4 ⟨bb, rfl, s4, g4⟩
          have Sr4 := Lib.hid s4
          have Sl4 : Hid (Slc w4 w.heap.size A3 N cc p) := Lib.hid (Sl.out.kept g4 (.inr fun e => by have := (Sl.out.lt_ g e).1; omega))
          have G4 : Hid (w.grownBy w4 (some g)) := Lib.hid (grown_trans' Gr.out g4)
          clear s4 g4
          cases bb
          · go_wp2_with fail
            go_ret
            exact ⟨_, _, _, _, rfl, Pm.of_slc Sl4.out, by omega, Sr4.out, G4.out⟩
          · go_wp2_with fail
            refine (drawAnyK g N _ w4 Sr4.out rfl hN1 hN2).mono ?_
            rintro e w5 ⟨A5, n5, c5, p5, rfl, pm5, hn5, s5, g5⟩
            have Pm5 : Hid (Pm w5 w.heap.size A5 n5 c5 p5) := Lib.hid (pm5.mono G4.out.size)
            have Sr5 := Lib.hid s5
            have G5 : Hid (w.grownBy w5 (some g)) := Lib.hid (grown_trans' G4.out g5)
            clear pm5 s5 g5
            go_wp2_with fail
            go_ret
            exact ⟨_, _, _, _, rfl, Pm5.out, hn5, Sr5.out, G5.out⟩
set_option maxHeartbeats 1000000 in
/-- drawGroupAndMember. -/
theorem drawGM (g : Nat) (w : World) (hs : Src w g) :
    Calls Try.prog 46 #[.pointer (some ⟨g, 0, none⟩)] w fun e w' => ∃ (z : Int) (A : Option Addr) (m c : Nat) (vs : List SV) (xss : List (List Int)) (P : Option Addr) (np cp : Nat) (p : List Int), e = .returned (.tuple #[.int .i64 z, .slice A m c, .slice P np cp]) ∧ B64 z ∧ RX w' w.heap.size A m vs xss ∧ m ≤ 9 ∧ (∀ i, i < m → (vs.getD i sd0).2.1 ≤ 21) ∧ Pm w' w.heap.size P np cp p ∧ np ≤ 21 ∧ Src w' g ∧ w.grownBy w' (some g) := by
  have Hs := Lib.hid hs
  have hgw := hs.lt
  go_enter Try.func46, Try.ntmps46
  go_wp2_with fail
  refine (drawGroupX g w hs).mono ?_
  rintro e w1 ⟨z, A1, m, c, vs, xss, rfl, hB, rx, hm, hln, s1, g1⟩
  have HB := Lib.hid hB
  have Rx1 := Lib.hid rx
  have Ln := Lib.hid hln
  have Sr1 := Lib.hid s1
  have G1 := Lib.hid g1
  clear hB rx hln s1 g1 hs
  go_wp2_with fail
  refine (drawMemberT g w.heap.size z A1 m c vs xss w1 Sr1.out HB.out Rx1.out hgw hm Ln.out).mono ?_
  rintro e w2 ⟨P, np, cp, p, rfl, pm2, hnp, s2, g2⟩
  have Pm2 : Hid (Pm w2 w.heap.size P np cp p) := Lib.hid (pm2.mono G1.out.size)
  have Sr2 := Lib.hid s2
  have Rx2 := Lib.hid (Rx1.out.gro g2 hgw)
  have G2 : Hid (w.grownBy w2 (some g)) := Lib.hid (grown_trans' G1.out g2)
  clear pm2 s2 g2
  go_wp2_with fail
  go_ret3
  exact ⟨_, _, _, _, vs, xss, _, _, _, p, rfl, HB.out, Rx2.out, hm, Ln.out, Pm2.out, hnp, Sr2.out, G2.out⟩
end Go.Proofs.Ytooafmifbplbhaa

/- The walk of the law FnMembership: it returns true at every input, and writes nothing that was there. No condition but the program's own contracts. -/
namespace Go.Proofs.Ytooafmifbplbhaa
open Go.RowKit

set_option maxHeartbeats 400000 in
theorem bigF4 (A : Option Addr) (len cap : Nat) (w : World) (hl : len ≤ 4096) : Calls Try.prog 13 #[.slice A len cap] w fun e w' => e = .returned (.bool false) ∧ w = w' := by
  have d : decide ((4096 : Int) < (len : Int)) = false := by simp; omega
  go_enter Try.func13, Try.ntmps13
  go_wp2
  go_ret
  exact ⟨rfl, rfl⟩
set_option maxHeartbeats 400000 in
theorem bigT4 (A : Option Addr) (len cap : Nat) (w : World) (hl : 4096 < len) : Calls Try.prog 13 #[.slice A len cap] w fun e w' => e = .returned (.bool true) ∧ w = w' := by
  have d : decide ((4096 : Int) < (len : Int)) = true := by simp; omega
  go_enter Try.func13, Try.ntmps13
  go_wp2
  go_ret
  exact ⟨rfl, rfl⟩
theorem below_gro4 {w0 w w' : World} {g : Nat} (h : Below w0.heap.size w0 w) (hg : w.grownBy w' (some g)) (hB : w0.heap.size ≤ g) : Below w0.heap.size w0 w' := h.grown hg h.size (fun k e => by injection e with e; omega)
theorem likeI_eq (A B : Option Addr) (c d n m : Nat) (xs : List Int) (w : World) (hx : RI w w.heap.size A xs) (hy : RI w w.heap.size B xs) (lx : Hid (xs.length = n)) (ly : Hid (xs.length = m)) (hn : n ≤ 2097152) :
    Calls Try.prog 21 #[.slice A n c, .slice B m d] w fun e w' => e = .returned (.bool true) ∧ Below w.heap.size w w' :=
  (quiet_below (likeI_any A B c d n m _ _ w hx hy lx ly hn (by rw [← ly.out, lx.out]; exact hn))).mono fun e w' ⟨he, hb⟩ => ⟨he.trans (ret_bool (by simp)), hb⟩

set_option maxHeartbeats 1000000 in
theorem drawIM (len cap : Nat) (A : Option Addr) (w : World) (hb : SB w w.heap.size A len) (hl : len ≤ 4096) :
    Calls Try.prog 14 #[.slice A len cap] w fun e w' => ∃ (z : Int) (A : Option Addr) (m c : Nat) (vs : List SV) (xss : List (List Int)) (P : Option Addr) (np cp : Nat) (p : List Int), e = .returned (.tuple #[.int .i64 z, .slice A m c, .slice P np cp]) ∧ I64 z ∧ GIn w' A m vs xss ∧ m ≤ 9 ∧ (∀ i, i < m → (vs.getD i sd0).2.1 ≤ 21) ∧ SIn w' P np cp p ∧ np ≤ 21 ∧ Below w.heap.size w w' := by
  go_enter Try.func14, Try.ntmps14
  go_wp2_with fail
  refine (newSrc len cap A w hb hl).mono ?_
  rintro e w1 ⟨rfl, s1, b1⟩
  have S1 := Lib.hid s1
  have B1 := Lib.hid b1
  clear s1 b1
  go_wp2_with fail
  refine (drawGM w.heap.size w1 S1.out).mono ?_
  rintro e w2 ⟨z, A2, m, c, vs, xss, P, np, cp, p, rfl, hB, rx, hm, hln, pm, hnp, s2, g2⟩
  have HB := Lib.hid hB
  have Gi : Hid (GIn w2 A2 m vs xss) := Lib.hid ⟨rx.rr, by omega, fun i hi => by have := hln i hi; omega⟩
  have Si : Hid (SIn w2 P np cp p) := Lib.hid ⟨pm.ri, pm.1, by omega, pm.2.1⟩
  have Ln := Lib.hid hln
  have B2 : Hid (Below w.heap.size w w2) := Lib.hid (below_gro4 B1.out g2 (Nat.le_refl _))
  clear hB rx hln s2 g2 pm
  go_wp2_with fail
  go_ret3
  exact ⟨_, _, _, _, vs, xss, _, _, _, p, rfl, HB.out, Gi.out, hm, Ln.out, Si.out, hnp, B2.out⟩

/-! ### what the answers tell of each other -/
section
variable {N k np : Nat} {gs : List (List Int)} {p m : List Int}
theorem take_at {t : Nat} (h : t < (p.take k).length) : (p.take k).getD t 0 = p.getD t 0 := by
  rw [List.length_take] at h
  rw [List.getD_eq_getElem?_getD, List.getElem?_take, if_pos (by omega), ← List.getD_eq_getElem?_getD]
theorem lmp_all (hp : Pn N p) (h1 : 1 ≤ N) (h2 : N ≤ 20) (hg : ∀ g ∈ gs, Pn N g) (h : LmpOK N gs p k) : Mb gs N p ↔ k = N := by
  obtain ⟨a, ⟨q, hq, hq2⟩, b⟩ := h
  constructor
  · intro hm
    rcases Nat.lt_or_ge k N with hl | hl
    · exact absurd ⟨p, hm, fun _ _ => rfl⟩ (b hl)
    · omega
  · rintro rfl
    have : q = p := (hq.pn hg h1 h2).ext hp fun x hx => hq2 x hx
    exact this ▸ hq
theorem lmp_pre (hp : Pn N p) (h : LmpOK N gs p k) : ¬ NoMem N gs (p.take k) := by
  obtain ⟨a, ⟨q, hq, hq2⟩, _⟩ := h
  refine fun hn => hn q hq fun t ht => ?_
  rw [take_at ht]
  rw [List.length_take] at ht
  rw [hq2 t (by omega), nx_val hp.1 (by rw [hp.2]; omega)]
theorem lmp_none (hp : Pn N p) (h : LmpOK N gs p k) (hk : k < N) : ∀ q, Mb gs N q → ¬ ∀ t, t < (p.take (k + 1)).length → (nx q t : Int) = (p.take (k + 1)).getD t 0 := fun q hq hq2 => by
  refine h.2.2 hk ⟨q, hq, fun t ht => ?_⟩
  have h3 := hq2 t (by rw [List.length_take, hp.2]; omega)
  rw [take_at (by rw [List.length_take, hp.2]; omega), nx_val hp.1 (by rw [hp.2]; omega)] at h3
  omega
theorem greedy_all (hp : Pn N p) (h1 : 1 ≤ N) (h2 : N ≤ 20) (hg : ∀ g ∈ gs, Pn N g) (h : Greedy N gs p m) : m = p :=
  (h.1.pn hg h1 h2).ext hp fun x hx => by
    have := (h.2 x hx).1 (by rw [hp.2]; exact hx)
    rw [nx_val hp.1 (by rw [hp.2]; exact hx)] at this
    omega
end

set_option maxHeartbeats 8000000 in
set_option maxRecDepth 100000 in
theorem lawMembership (IM : CtImsB 15 IsMem) (IL : CtImsI 16 IsLmp) (IW : CtImsP 19 IsMw) (A : Option Addr) (cap len : Nat) (w : World) (hb : SB w w.heap.size A len) :
    Calls Try.prog 3 #[.slice A len cap] w fun e w' => e = .returned (.bool true) ∧ Below w.heap.size w w' := by
  by_cases hl : len ≤ 4096
  · go_enter Try.func3, Try.ntmps3
    go_wp2_with fail
    refine (bigF4 A len cap w hl).mono ?_
    rintro e w0 ⟨rfl, rfl⟩
    go_wp2_with fail
    refine (drawIM len cap A w hb hl).mono ?_
    rintro e w1 ⟨z, A1, m, c, vs, xss, P, np, cp, p, rfl, hB, gi, hm, hln, si, hnp, b1⟩
    have G1 := Lib.hid gi
    have P1 := Lib.hid si
    have HB := Lib.hid hB
    have B1 := Lib.hid b1
    clear gi b1 hln hB hb si
    go_wp2_with fail
    refine (IM z A1 m c vs xss P np cp p w1 G1.out P1.out HB.out).mono ?_
    rintro e w2 ⟨b, rfl, rb, b2⟩
    have Rb := Lib.hid rb
    have G2 := Lib.hid (G1.out.up b2)
    have P2 := Lib.hid (P1.out.up b2)
    have B2 : Hid (Below w.heap.size w w2) := Lib.hid (btr B1.out b2)
    clear rb b2
    go_wp2_with fail
    refine (IL z A1 m c vs xss P np cp p w2 G2.out P2.out HB.out).mono ?_
    rintro e w3 ⟨v, rfl, rv, b3⟩
    have Rv := Lib.hid rv
    have G3 := Lib.hid (G2.out.up b3)
    have P3 := Lib.hid (P2.out.up b3)
    have B3 : Hid (Below w.heap.size w w3) := Lib.hid (btr B2.out b3)
    clear rv b3
    go_wp2_with fail
    refine (ctMem z A1 m c vs xss P np cp p w3 G3.out P3.out HB.out).mono ?_
    rintro e w4 ⟨b', rfl, rb', b4⟩
    obtain rfl : b' = b := rb'.uniq Rb.out
    have G4 := Lib.hid (G3.out.up b4)
    have P4 := Lib.hid (P3.out.up b4)
    have B4 : Hid (Below w.heap.size w w4) := Lib.hid (btr B3.out b4)
    have ne1 : (b' != b') = false := by simp
    clear rb' b4
    go_wp2_with fail
    refine (ctLmp z A1 m c vs xss P np cp p w4 G4.out P4.out HB.out).mono ?_
    rintro e w5 ⟨v', rfl, rv', b5⟩
    obtain rfl : v' = v := rv'.uniq Rv.out
    have G5 := Lib.hid (G4.out.up b5)
    have P5 := Lib.hid (P4.out.up b5)
    have B5 : Hid (Below w.heap.size w w5) := Lib.hid (btr B4.out b5)
    have ne2 : (v' != v') = false := by simp
    clear rv' b5
    rcases Rv.out with ⟨hgB, hlp, hip, k, rfl, hk⟩ | ⟨hno, rfl⟩
    · obtain ⟨N, rfl, hN1, hN2, hg8, hpm, hok⟩ := gB_pm hgB
      rw [Int.toNat_natCast] at hk
      have Hk := Lib.hid hk
      have Ok := Lib.hid hok
      have PP : Hid (Pn N p) := Lib.hid ⟨isP_iff.1 hip, by omega⟩
      have Hg := Lib.hid hgB
      have hkN : k ≤ N := hk.1
      obtain rfl : np = N := by have := P1.out.lp; rw [PP.out.2] at this; exact this.symm
      obtain ⟨pb, po, rfl, _, _⟩ := P5.out.ri (by rw [P5.out.lp]; omega)
      rename_i hpb hpc
      clear hpb hpc
      have hcp : np ≤ cp := P5.out.hc
      have Bk : Hid (b' = ((k : Int) == (np : Int))) := Lib.hid (by
        have h3 := lmp_all PP.out hN1 hN2 Ok.out Hk.out
        have h4 := Rb.out
        unfold IsMem Memb at h4
        rw [Bool.eq_iff_iff, h4, beq_iff_eq, Int.toNat_natCast, h3]
        exact ⟨fun h => by have := h.2.2.2; omega, fun h => ⟨Hg.out, by rw [PP.out.2], hip, by omega⟩⟩)
      have Tk : Hid (SIn w5 (some ⟨pb, po, none⟩) k cp (p.take k)) := Lib.hid ⟨takeRI P5.out.ri k, by rw [List.length_take, PP.out.2]; omega, by omega, by omega⟩
      have dk : decide ((k : Int) < 0) = false := by simp
      have q0 : (0 : Int) ≤ k := by omega
      have q1 : (k : Int) ≤ cp := by omega
      clear hgB hlp hip hk hok hpm
      go_wp2_with fail
      refine (IW np A1 m c vs xss _ k cp (p.take k) w5 G5.out Tk.out HB.out).mono ?_
      rintro e w6 ⟨A6, n6, c6, x, ok, rfl, s6, r6, b6⟩
      have r7 : ok = true ∧ Greedy np xss (p.take k) x := by
        rcases r6 with ⟨_, _, h⟩ | ⟨h, _⟩
        · rw [Int.toNat_natCast] at h
          rcases h with ⟨e1, e2⟩ | ⟨_, _, e2⟩
          · exact ⟨e1, e2⟩
          · exact absurd e2 (lmp_pre PP.out Hk.out)
        · exact absurd ⟨Hg.out, by rw [List.length_take, PP.out.2]; omega⟩ h
      obtain ⟨rfl, gr⟩ := r7
      have Gr := Lib.hid gr
      have hx := gr.1.pn Ok.out hN1 hN2
      obtain rfl : n6 = np := by rw [← s6.1]; exact hx.2
      have Xp := Lib.hid hx
      have S6 := Lib.hid s6
      have G6 := Lib.hid (G5.out.up b6)
      have P6 := Lib.hid (P5.out.up b6)
      have B6 : Hid (Below w.heap.size w w6) := Lib.hid (btr B5.out b6)
      have Xs : Hid (SIn w6 A6 n6 c6 x) := Lib.hid ⟨s6.ri_, hx.2, by omega, s6.le.1⟩
      have ne3 : (b' != ((k : Int) == (n6 : Int))) = false := by rw [Bk.out]; simp
      clear s6 b6 r6 gr hx Tk
      go_wp2_with fail
      refine (ctMem n6 A1 m c vs xss A6 n6 c6 x w6 G6.out Xs.out HB.out).mono ?_
      rintro e w7 ⟨b7, rfl, rb7, b77⟩
      obtain rfl : b7 = true := rb7.2 ⟨Hg.out, by rw [Xp.out.2], isP_iff.2 Xp.out.1, by rw [Int.toNat_natCast]; exact Gr.out.1⟩
      have G7 := Lib.hid (G6.out.up b77)
      have P7 := Lib.hid (P6.out.up b77)
      have X7 := Lib.hid (Xs.out.up b77)
      have B7 : Hid (Below w.heap.size w w7) := Lib.hid (btr B6.out b77)
      clear rb7 b77
      by_cases hlt : k < n6
      · have dlt : decide ((k : Int) < (n6 : Int)) = true := by simp; omega
        have wk : IntKind.i64.wrap ((k : Int) + 1) = ((k + 1 : Nat) : Int) := by rw [IntKind.wrap_i64]; omega
        have q2 : (0 : Int) ≤ ((k + 1 : Nat) : Int) := by omega
        have q3 : ((k + 1 : Nat) : Int) ≤ cp := by omega
        have Tk2 : Hid (SIn w7 (some ⟨pb, po, none⟩) (k + 1) cp (p.take (k + 1))) := Lib.hid ⟨takeRI P7.out.ri (k + 1), by rw [List.length_take, PP.out.2]; omega, by omega, by omega⟩
        go_wp2_with fail
        refine (IW n6 A1 m c vs xss _ (k + 1) cp (p.take (k + 1)) w7 G7.out Tk2.out HB.out).mono ?_
        rintro e w8 ⟨A8, n8, c8, x8, ok8, rfl, s8, r8, b8⟩
        have B8 : Hid (Below w.heap.size w w8) := Lib.hid (btr B7.out b8)
        obtain rfl : ok8 = false := by
          rcases r8 with ⟨_, _, h⟩ | ⟨_, _, h⟩
          · rw [Int.toNat_natCast] at h
            rcases h with ⟨_, e2⟩ | ⟨e1, _⟩
            · exact absurd (fun t ht => (e2.2 t (by rw [List.length_take, PP.out.2] at ht; omega)).1 ht) (lmp_none PP.out Hk.out hlt x8 e2.1)
            · exact e1
          · exact h
        clear s8 r8 b8
        go_wp2_with fail
        go_ret
        exact ⟨rfl, B8.out⟩
      · obtain rfl : k = n6 := by omega
        have dlt : decide ((k : Int) < (k : Int)) = false := by simp
        have Ex : Hid (x = p) := Lib.hid (greedy_all PP.out hN1 hN2 Ok.out (by have := Gr.out; rwa [List.take_of_length_le (by rw [PP.out.2]; exact Nat.le_refl _)] at this))
        have PM : Hid (Mb xss k p) := Lib.hid ((lmp_all PP.out hN1 hN2 Ok.out Hk.out).2 rfl)
        go_wp2_with fail
        go_loopw [12] (fun i wr => ∃ j : Nat, j ≤ m ∧ i = .int .i64 (j : Nat) ∧ GIn wr A1 m vs xss ∧ SIn wr (some ⟨pb, po, none⟩) k cp p ∧ SIn wr A6 k c6 x ∧ Below w.heap.size w wr) (fun i _ => m - (intOf i).toNat)
        case atStart => exact ⟨0, Nat.zero_le _, rfl, G7.out, P7.out, X7.out, B7.out⟩
        case round =>
          clear G7 P7 X7 B7
          obtain ⟨j, hj, rfl, gi, si, xi, bel⟩ := hrel
          have G8 := Lib.hid gi
          have P8 := Lib.hid si
          have X8 := Lib.hid xi
          have B8 := Lib.hid bel
          clear gi si xi bel
          by_cases hjm : j < m
          · obtain ⟨b, off, A5, l, c5, y, rfl, hb, hv, ey, x1, ri, ly, hl5⟩ := G8.out.rr.at_ hjm
            have hym : y ∈ xss := by rw [← ey]; exact getD_memL (by rw [G8.out.rr.lx]; exact hjm)
            have hyP := Ok.out y hym
            have hcl : l ≤ c5 := by have := G8.out.rr.caps j hjm; rw [hv] at this; exact this
            obtain rfl : l = k := by omega
            have Yp : Hid (Pn l y) := Lib.hid hyP
            have Ym : Hid (y ∈ xss) := Lib.hid hym
            have Ri := Lib.hid ri
            have q2 : (0 : Int) ≤ j := by omega
            have q3 : (j : Int) < m := by omega
            clear hb hv ey ri ly hl5 hyP hym
            go_wp2_with fail
            refine (specCompose _ A5 cp c5 l l p y wr P8.out.ri Ri.out (Lib.hid PP.out.2) (Lib.hid Yp.out.2) (by omega) (by omega) (by omega) hcl).mono ?_
            rintro e w9 ⟨A9, n9, c9, rfl, s9, hn9, b9⟩
            have Ec : composeL p y = compL p y := if_pos (sameD_iff.2 ⟨by rw [PP.out.2, Yp.out.2], PP.out.1, Yp.out.1⟩)
            rw [Ec] at s9
            have Cp : Hid (Pn l (compL p y)) := Lib.hid (PP.out.comp Yp.out)
            obtain rfl : n9 = l := by rw [← s9.1]; exact Cp.out.2
            have S9 : Hid (SIn w9 A9 n9 c9 (compL p y)) := Lib.hid ⟨s9.ri_, Cp.out.2, by omega, s9.le.1⟩
            have G9 := Lib.hid (G8.out.up b9)
            have P9 := Lib.hid (P8.out.up b9)
            have X9 := Lib.hid (X8.out.up b9)
            have B9 : Hid (Below w.heap.size w w9) := Lib.hid (btr B8.out b9)
            clear s9 b9 Ec
            go_wp2_with fail
            refine (IM n9 _ m c vs xss A9 n9 c9 (compL p y) w9 G9.out S9.out HB.out).mono ?_
            rintro e w10 ⟨b10, rfl, rb10, bb10⟩
            obtain rfl : b10 = true := rb10.2 ⟨Hg.out, by rw [Cp.out.2], isP_iff.2 Cp.out.1, by rw [Int.toNat_natCast]; exact .mul PM.out Ym.out⟩
            have G10 := Lib.hid (G9.out.up bb10)
            have P10 := Lib.hid (P9.out.up bb10)
            have X10 := Lib.hid (X9.out.up bb10)
            have B10 : Hid (Below w.heap.size w w10) := Lib.hid (btr B9.out bb10)
            clear rb10 bb10
            go_wp2_with fail
            go_roundw
            case rel => exact ⟨j + 1, by omega, by go_num, G10.out, P10.out, X10.out, B10.out⟩
            case measure => simp [intOf]; omega
          · obtain rfl : j = m := by omega
            have hx8 := X8.out.ri
            rw [Ex.out] at hx8
            have Hx8 := Lib.hid hx8
            clear hx8
            go_wp2_with fail
            refine (likeI_eq A6 _ c6 cp k k p wr Hx8.out P8.out.ri (Lib.hid PP.out.2) (Lib.hid PP.out.2) (by omega)).mono ?_
            rintro e w9 ⟨rfl, b9⟩
            have B9 : Hid (Below w.heap.size w w9) := Lib.hid (btr B8.out b9)
            clear b9
            go_wp2_with fail
            go_ret
            exact ⟨rfl, B9.out⟩
    · obtain rfl : b' = false := by
        rcases b' with _ | _
        · rfl
        · have h4 := Rb.out.1 rfl
          exact absurd ⟨h4.1, h4.2.1, h4.2.2.1⟩ hno
      clear hno
      go_wp2_with fail
      go_ret
      exact ⟨rfl, B5.out⟩
  · clear hb
    go_enter Try.func3, Try.ntmps3
    go_wp2_with fail
    refine (bigT4 A len cap w (by omega)).mono ?_
    rintro e w0 ⟨rfl, rfl⟩
    go_wp2_with fail
    go_ret
    exact ⟨rfl, Below.refl _ _⟩
end Go.Proofs.Ytooafmifbplbhaa
