/- Part 3 of the texts: Vi, WpA, WalkA8, Arg, ItG, ItB, PcM, PcH, PcW, PcI, PcA, PcC, Ins, ChR, ChT, ChX, ChY, ChZ, ChV, Stb, StbS, Ct4, PcF, PcG, PcN, PcS, Supp, PcT, PcU, WsB, WsC, WsD, WpC, WpI, WalkC8, WpF. No condition of its own: each text tells its own. -/
import Derived.Test.YtoaaoikmkomofaaMg1
import Derived.Test.YtoaaoikmkomofaaMg2
import Derived.OpenShut
import Derived.Laws.Small
import Derived.ChangeArms
import Derived.ProofKit
import Derived.ChangeSlices
import Derived.RangeFuncNested
import Derived.RangeFuncBound
import Derived.RangeFuncCalls
import Derived.RangeFuncLeaves
import Derived.OwnWalkIn
import Derived.TacticsInMore
import Derived.LoopNIn
import Derived.LoopIn
import Derived.BigQuiet
import Derived.WalkSpells
import Derived.Deep.LoopGhost
import Derived.Maps.AppendAt
import Derived.Deep.RegionHeld3
import Derived.Deep.CutRange
import Derived.Deep.Upon
import Derived.Lib.AppendZerosOnto
import Derived.Lib.AppendZeros
import Derived.Shelf.Abstract
set_option linter.unusedVariables false
set_option linter.unusedSimpArgs false

/- Numbers of 64 bits in a row. No condition. -/
namespace Go.Proofs.Ytoaaoikmkomofaa
open Go.RowKit

def VI (xs : List Int) : Prop := ∀ x ∈ xs, -9223372036854775808 ≤ x ∧ x ≤ 9223372036854775807
theorem VI.at_ {xs : List Int} (h : VI xs) {i : Nat} (hi : i < xs.length) : -9223372036854775808 ≤ xs.getD i 0 ∧ xs.getD i 0 ≤ 9223372036854775807 :=
  h _ (by rw [List.getD_eq_getElem?_getD, List.getElem?_eq_getElem hi]; exact List.getElem_mem _)
theorem VI.nil_ : VI [] := fun x h => by cases h
theorem VI.snoc {xs : List Int} {x : Int} (h : VI xs) (hx : -9223372036854775808 ≤ x ∧ x ≤ 9223372036854775807) : VI (xs ++ [x]) := fun y hy => by
  rcases List.mem_append.1 hy with hy | hy
  · exact h y hy
  · rw [List.mem_singleton.1 hy]; exact hx
/-- As RI.of_row, and the numbers are of 64 bits. -/
theorem RI.of_rowV {w : World} {a : Option Addr} {len cap : Nat} {zs : List Int}
    (h : (a = none ∧ len = 0 ∧ cap = 0 ∧ zs = []) ∨ ∃ x, a = some x ∧ len ≤ cap ∧ cap ≤ maxLen ∧ zs.length = cap ∧ (∀ i, i < zs.length → w.cell? (x.add i) = some (.int .i64 (zs.getD i 0))) ∧ ∀ n ∈ zs, (Lit.int .i64 n).wf = true) :
    ∃ xs : List Int, Hid (xs.length = len) ∧ RI w w.heap.size a xs ∧ Hid (VI xs) := by
  rcases h with ⟨rfl, rfl, rfl, rfl⟩ | ⟨⟨b, off, spot⟩, rfl, hl, hm, hz, hc, hw⟩
  · exact ⟨[], Lib.hid rfl, RI.nil_, Lib.hid VI.nil_⟩
  · refine ⟨zs.take len, Lib.hid (by rw [List.length_take]; omega), fun hp => ?_, Lib.hid fun x hx => bounds_i64 (hw x (List.mem_of_mem_take hx))⟩
    rw [List.length_take] at hp
    have h0 := hc 0 (by omega)
    have hspot : spot = none := by simpa [Addr.add] using World.cell?_spot h0
    subst hspot
    refine ⟨b, off, rfl, ?_, fun j hj => ?_⟩
    · have := World.block_lt_of_cell? w _ h0
      simpa [Addr.add] using this
    · rw [List.length_take] at hj
      rw [List.getD_eq_getElem?_getD, List.getElem?_take, if_pos (by omega), ← List.getD_eq_getElem?_getD, ← hc j (by omega)]
      unfold Addr.add
      split <;> simp_all
end Go.Proofs.Ytoaaoikmkomofaa

/- The program's letters and valid words. Condition: at most 2097152 letters, numbers of 64 bits. -/
namespace Go.Proofs.Ytoaaoikmkomofaa
open Go.RowKit

/-- A letter without its sign. -/
def gnL (l : Int) : Int := if l = -9223372036854775808 then l else if 0 ≤ l then l else -l
theorem gnL_pos {l : Int} (h : 0 ≤ l) : gnL l = l := by unfold gnL; rw [if_neg (by omega), if_pos h]
theorem gnL_neg {l : Int} (h : l < 0) (h2 : l ≠ -9223372036854775808) : gnL l = -l := by unfold gnL; rw [if_neg h2, if_neg (by omega)]
theorem okL_gn {g l : Int} (h : -9223372036854775808 ≤ l ∧ l ≤ 9223372036854775807) : okL g l = decide (1 ≤ gnL l ∧ gnL l ≤ g ∧ gnL l ≤ 8) := by
  unfold okL
  rw [Bool.eq_iff_iff, decide_eq_true_eq, decide_eq_true_eq]
  by_cases h1 : l = -9223372036854775808
  · subst h1; unfold gnL; rw [if_pos rfl]; omega
  · by_cases h2 : 0 ≤ l
    · rw [gnL_pos h2]; omega
    · rw [gnL_neg (by omega) h1]; omega

set_option maxHeartbeats 1600000 in
/-- generatorOf. -/
theorem implGen (l : Int) (w : World) (hl : -9223372036854775808 ≤ l ∧ l ≤ 9223372036854775807) :
    Calls Try.prog 81 #[.int .i64 l] w fun e w' => e = .returned (.int .i64 (gnL l)) ∧ w = w' := by
  unfold gnL
  by_cases h1 : l = -9223372036854775808
  · subst h1
    rw [if_pos rfl]
    have w2 : wrap64 9223372036854775808 = -9223372036854775808 := by unfold wrap64; omega
    go_enter Try.func81, Try.ntmps81
    go_wp2_with fail
    go_ret
    exact ⟨rfl, rfl⟩
  · rw [if_neg h1]
    have wl : IntKind.i64.wrap (-l) = -l := by rw [IntKind.wrap_i64]; omega
    by_cases h2 : 0 ≤ l
    · rw [if_pos h2]
      have d0 : decide (l < -l) = false := by simp; omega
      go_enter Try.func81, Try.ntmps81
      go_wp2_with fail
      go_ret
      exact ⟨rfl, rfl⟩
    · rw [if_neg h2]
      go_enter Try.func81, Try.ntmps81
      go_wp2_with fail
      go_ret
      exact ⟨rfl, rfl⟩

set_option maxHeartbeats 1600000 in
set_option maxRecDepth 100000 in
/-- IsValidWord. -/
theorem implIsValidWord (g : Int) (A : Option Addr) (n c : Nat) (wd : List Int) (w : World) (hx : RI w w.heap.size A wd) (lx : Hid (wd.length = n)) (hn : n ≤ 2097152) (vi : Hid (VI wd)) (wfg : -9223372036854775808 ≤ g ∧ g ≤ 9223372036854775807) :
    Calls Try.prog 44 #[.int .i64 g, .slice A n c] w fun e w' => e = .returned (.bool (vW g wd)) ∧ w = w' := by
  have HX := Lib.hid hx
  clear hx
  by_cases h200 : n ≤ 200
  · have d0 : decide ((200 : Int) < n) = false := by simp; omega
    go_enter Try.func44, Try.ntmps44
    go_wp2_with fail
    go_loopw [13] (fun i wr => ∃ k : Nat, k ≤ n ∧ i = .int .i64 (k : Nat) ∧ (∀ j, j < k → okL g (wd.getD j 0) = true) ∧ w = wr) (fun i _ => n - (intOf i).toNat)
    case atStart => exact ⟨0, Nat.zero_le _, rfl, fun j h => absurd h (Nat.not_lt_zero _), rfl⟩
    case round =>
      clear d0
      obtain ⟨k, hk, rfl, hok, rfl⟩ := hrel
      have Hok := Lib.hid hok
      clear hok
      by_cases hlt : k < n
      · obtain ⟨b, off, rfl, hb, hc⟩ := HX.out (by rw [lx.out]; omega)
        have c1 := hc k (by rw [lx.out]; exact hlt)
        have hll := vi.out.at_ (i := k) (by rw [lx.out]; exact hlt)
        obtain ⟨l, el⟩ : ∃ l, wd.getD k 0 = l := ⟨_, rfl⟩
        rw [el] at c1 hll
        have El := Lib.hid el
        have p0 : (0 : Int) ≤ k := by omega
        have p1 : (k : Int) < n := by omega
        have hkl : Hid (k < wd.length) := Lib.hid (by rw [lx.out]; exact hlt)
        have Okg := Lib.hid (okL_gn (g := g) hll)
        obtain ⟨q, eq⟩ : ∃ q, gnL l = q := ⟨_, rfl⟩
        have K := implGen l w hll
        rw [eq] at K Okg
        clear el hc eq
        by_cases f1 : 1 ≤ q
        · have d1 : decide (q < 1) = false := by simp; omega
          by_cases f2 : q ≤ g
          · have d2 : decide (g < q) = false := by simp; omega
            by_cases f3 : q ≤ 8
            · have d3 : decide (8 < q) = false := by simp; omega
              have Nx : Hid (okL g l = true) := Lib.hid (by rw [Okg.out]; exact decide_eq_true ⟨f1, f2, f3⟩)
              go_wp2_with fail
              refine K.mono ?_
              rintro e w' ⟨rfl, rfl⟩
              clear K
              go_wp2_with fail
              go_roundw
              case rel => exact ⟨k + 1, by omega, by go_num, fun j hj => by
                by_cases e : j = k
                · subst e; rw [El.out]; exact Nx.out
                · exact Hok.out j (by omega), trivial⟩
              case measure => simp [intOf]; omega
            · have d3 : decide (8 < q) = true := by simp; omega
              have Bad : Hid (vW g wd = false) := Lib.hid (vW_bad hkl.out (by rw [El.out, Okg.out, decide_eq_false_iff_not]; intro h; exact f3 h.2.2))
              go_wp2_with fail
              refine K.mono ?_
              rintro e w' ⟨rfl, rfl⟩
              clear K
              go_wp2_with fail
              go_ret
              exact ⟨by rw [Bad.out]; try rfl, rfl⟩
          · have d2 : decide (g < q) = true := by simp; omega
            have Bad : Hid (vW g wd = false) := Lib.hid (vW_bad hkl.out (by rw [El.out, Okg.out, decide_eq_false_iff_not]; intro h; exact f2 h.2.1))
            go_wp2_with fail
            refine K.mono ?_
            rintro e w' ⟨rfl, rfl⟩
            clear K
            go_wp2_with fail
            go_ret
            exact ⟨by rw [Bad.out]; try rfl, rfl⟩
        · have d1 : decide (q < 1) = true := by simp; omega
          have Bad : Hid (vW g wd = false) := Lib.hid (vW_bad hkl.out (by rw [El.out, Okg.out, decide_eq_false_iff_not]; intro h; exact f1 h.1))
          go_wp2_with fail
          refine K.mono ?_
          rintro e w' ⟨rfl, rfl⟩
          clear K
          go_wp2_with fail
          go_ret
          exact ⟨by rw [Bad.out]; try rfl, rfl⟩
      · obtain rfl : k = n := by omega
        have Ok : Hid (vW g wd = true) := Lib.hid ((vW_all (by rw [lx.out]; omega)).2 fun i hi => Hok.out i (by rw [← lx.out]; exact hi))
        go_wp2_with fail
        go_ret
        exact ⟨by rw [Ok.out]; try rfl, rfl⟩
  · have d0 : decide ((200 : Int) < n) = true := by simp; omega
    have Bad : Hid (vW g wd = false) := Lib.hid (vW_long (by rw [lx.out]; omega))
    go_enter Try.func44, Try.ntmps44
    go_wp2_with fail
    go_ret
    exact ⟨by rw [Bad.out]; try rfl, rfl⟩

theorem specIsValidWordB (g : Int) (A : Option Addr) (n c : Nat) (wd : List Int) (w : World) (hx : RI w w.heap.size A wd) (lx : Hid (wd.length = n)) (hn : n ≤ 2097152) :
    Calls Try.prog 28 #[.int .i64 g, .slice A n c] w fun e w' => e = .returned (.bool (vW g wd)) ∧ Below w.heap.size w w' :=
  (specIsValidWord g A n c wd w hx lx hn).mono fun _ _ ⟨h1, h2⟩ => ⟨h1, h2 ▸ Below.refl _ _⟩
theorem implIsValidWordB (g : Int) (A : Option Addr) (n c : Nat) (wd : List Int) (w : World) (hx : RI w w.heap.size A wd) (lx : Hid (wd.length = n)) (hn : n ≤ 2097152) (vi : Hid (VI wd)) (wfg : -9223372036854775808 ≤ g ∧ g ≤ 9223372036854775807) :
    Calls Try.prog 44 #[.int .i64 g, .slice A n c] w fun e w' => e = .returned (.bool (vW g wd)) ∧ Below w.heap.size w w' :=
  (implIsValidWord g A n c wd w hx lx hn vi wfg).mono fun _ _ ⟨h1, h2⟩ => ⟨h1, h2 ▸ Below.refl _ _⟩

/-- isWord. -/
theorem implIsWord (A : Option Addr) (n c : Nat) (wd : List Int) (w : World) (hx : RI w w.heap.size A wd) (lx : Hid (wd.length = n)) (hn : n ≤ 2097152) (vi : Hid (VI wd)) :
    Calls Try.prog 65 #[.slice A n c] w fun e w' => e = .returned (.bool (vW 8 wd)) ∧ w = w' := by
  have HX := Lib.hid hx
  clear hx
  go_enter Try.func65, Try.ntmps65
  go_wp2_with fail
  refine (implIsValidWord 8 A n c wd w HX.out lx hn vi (by omega)).mono ?_
  rintro e w' ⟨rfl, rfl⟩
  go_wp2_with fail
  go_ret
  exact ⟨rfl, rfl⟩
end Go.Proofs.Ytoaaoikmkomofaa

/- The walk of the law FnExactIsValidWord: it returns true at every input, and writes nothing that was there. No condition. -/
namespace Go.Proofs.Ytoaaoikmkomofaa
open Go.RowKit

set_option maxHeartbeats 4000000 in
set_option maxRecDepth 100000 in
/-- The law FnExactIsValidWord. -/
theorem lawIsValidWord (i0 : Int) (s1A : Option Addr) (s1n s1c : Nat) (s1x : List Int) (w : World) (wfi0 : -9223372036854775808 ≤ i0 ∧ i0 ≤ 9223372036854775807) (hs1 : RI w w.heap.size s1A s1x) (ls1 : Hid (s1x.length = s1n)) (vs1 : Hid (VI s1x)) :
    Calls Try.prog 6 #[.int .i64 i0, .slice s1A s1n s1c] w fun e w' => e = .returned (.bool true) ∧ Below w.heap.size w w' := by
  have Hs1 := Lib.hid hs1
  clear hs1
  by_cases hns1 : s1n ≤ 1048576
  · skip
    go_enter Try.func6, Try.ntmps6
    go_wp2_with fail
    refine (toS_any s1A s1c s1n s1x w Hs1.out ls1 (by omega)).mono ?_
    rintro e w1 ⟨A1, c1, rfl, s1, b1⟩
    have B1 : Hid (Below w.heap.size w w1) := Lib.hid b1
    have Fts1_1 := Lib.hid s1
    have Lts1 := Lib.hid s1.lies
    have lets1 := s1.le.1
    clear s1 b1
    go_wp2_with fail
    refine (specIsValidWordB i0 _ _ _ s1x w1 Fts1_1.out.ri_ ls1 (by omega)).mono ?_
    rintro e w2 ⟨rfl, b2⟩
    have B1_2 : Hid (Below w1.heap.size w1 w2) := Lib.hid b2
    have B2 : Hid (Below w.heap.size w w2) := Lib.hid (btr B1.out b2)
    have Fts1_2 := Lib.hid (Fts1_1.out.up b2)
    clear Fts1_1
    clear b2
    clear Fts1_2
    go_wp2_with fail
    refine (toS_any s1A s1c s1n s1x w2 (Hs1.out.up B2.out) ls1 (by omega)).mono ?_
    rintro e w3 ⟨A3, c3, rfl, s3, b3⟩
    have B1_3 : Hid (Below w1.heap.size w1 w3) := Lib.hid (btr B1_2.out b3)
    have B2_3 : Hid (Below w2.heap.size w2 w3) := Lib.hid b3
    have B3 : Hid (Below w.heap.size w w3) := Lib.hid (btr B2.out b3)
    have Fxs1_3 := Lib.hid s3
    have Lxs1 := Lib.hid s3.lies
    have lexs1 := s3.le.1
    clear s3 b3
    go_wp2_with fail
    refine (implIsValidWordB i0 _ _ _ s1x w3 Fxs1_3.out.ri_ ls1 (by omega) vs1 wfi0).mono ?_
    rintro e w4 ⟨rfl, b4⟩
    have B1_4 : Hid (Below w1.heap.size w1 w4) := Lib.hid (btr B1_3.out b4)
    have B2_4 : Hid (Below w2.heap.size w2 w4) := Lib.hid (btr B2_3.out b4)
    have B3_4 : Hid (Below w3.heap.size w3 w4) := Lib.hid b4
    have B4 : Hid (Below w.heap.size w w4) := Lib.hid (btr B3.out b4)
    have Fxs1_4 := Lib.hid (Fxs1_3.out.up b4)
    clear Fxs1_3
    clear b4
    go_wp2_with fail
    refine (toS_any s1A s1c s1n s1x w4 (Hs1.out.up B4.out) ls1 (by omega)).mono ?_
    rintro e w5 ⟨A5, c5, rfl, s5, b5⟩
    have B1_5 : Hid (Below w1.heap.size w1 w5) := Lib.hid (btr B1_4.out b5)
    have B2_5 : Hid (Below w2.heap.size w2 w5) := Lib.hid (btr B2_4.out b5)
    have B3_5 : Hid (Below w3.heap.size w3 w5) := Lib.hid (btr B3_4.out b5)
    have B4_5 : Hid (Below w4.heap.size w4 w5) := Lib.hid b5
    have B5 : Hid (Below w.heap.size w w5) := Lib.hid (btr B4.out b5)
    have Fxs1_5 := Lib.hid (Fxs1_4.out.up b5)
    clear Fxs1_4
    have Fys1_5 := Lib.hid s5
    have Lys1 := Lib.hid s5.lies
    have leys1 := s5.le.1
    clear s5 b5
    go_wp2_with fail
    refine (eqS_same _ _ A3 A5 s1n c3 s1n c5 w5 Fxs1_5.out Fys1_5.out (by omega)).mono ?_
    rintro e w6 ⟨rfl, b6⟩
    have B1_6 : Hid (Below w1.heap.size w1 w6) := Lib.hid (btr B1_5.out b6)
    have B2_6 : Hid (Below w2.heap.size w2 w6) := Lib.hid (btr B2_5.out b6)
    have B3_6 : Hid (Below w3.heap.size w3 w6) := Lib.hid (btr B3_5.out b6)
    have B4_6 : Hid (Below w4.heap.size w4 w6) := Lib.hid (btr B4_5.out b6)
    have B5_6 : Hid (Below w5.heap.size w5 w6) := Lib.hid b6
    have B6 : Hid (Below w.heap.size w w6) := Lib.hid (btr B5.out b6)
    have Fxs1_6 := Lib.hid (Fxs1_5.out.up b6)
    clear Fxs1_5
    have Fys1_6 := Lib.hid (Fys1_5.out.up b6)
    clear Fys1_5
    clear b6
    clear Fys1_6
    go_wp2_with fail
    go_ret
    exact ⟨rfl, B6.out⟩
  · have d1 : decide ((1048576 : Int) < s1n) = true := by simp; omega
    go_enter Try.func6, Try.ntmps6
    go_wp2
    go_ret
    exact ⟨rfl, Below.refl _ _⟩
end Go.Proofs.Ytoaaoikmkomofaa

/- What the frame of a proof knows of a slice of slices of int64 that came in. No condition. -/
namespace Go.Proofs.Ytoaaoikmkomofaa
open Go.ChangeShapes Go.WideShapes Go.ChangeAt Go.RowKit

theorem cellsS1 : Try.prog.cellsOf 25 = 1 := by kernel_rfl
theorem one_cell {W : World} {x : Addr} {cs : List Value} (h : W.cells? 0 x 1 = some cs) : ∃ c, cs = [c] ∧ W.cell? x = some c := by
  have e0 : x.add 0 = x := by simp [Addr.add]
  simp [World.cells?, List.range_succ, e0] at h
  cases hc : W.cell? x with
  | none => simp [hc] at h
  | some c =>
    simp [hc] at h
    exact ⟨c, h.symm, rfl⟩

theorem argSS {H : Type} {enc : TypeId × Value → H} {W : World} {a : Option Addr} {len cap : Nat} {d : DataW H} {ps : List MemPlace}
    (h : ∃ fuel, DataW.trod enc Try.prog W 0 (fun _ => true) true fuel 24 (Value.slice a len cap).cells.toList = some (d, ps)) :
    len ≤ maxLen ∧ ∃ vs xss, RR W W.heap.size a len vs xss ∧ ∀ i, i < len → (vs.getD i sd0).2.1 ≤ maxLen := by
  obtain ⟨fuel, hf⟩ := h
  rcases DataW.trod_slice Try.underlying24 hf with ⟨hcs, hx⟩ | ⟨a', len', cap', elems, rest, n, rfl, hcs, hx, _, hl, hm, hlen, hel, _, _⟩
  · simp [Value.cells] at hcs
    obtain ⟨rfl, rfl, rfl⟩ := hcs
    exact ⟨Nat.zero_le _, [], [], RR.nil_, fun i h => absurd h (by omega)⟩
  · simp [Value.cells] at hcs
    obtain ⟨rfl, rfl, rfl⟩ := hcs
    obtain ⟨b, off, spot⟩ := a'
    -- each element
    have key : ∀ i, i < len → ∃ (A : Option Addr) (l c : Nat) (xs : List Int), W.cell? (Addr.add ⟨b, off, spot⟩ i) = some (.slice A l c) ∧ xs.length = l ∧ l ≤ c ∧ c ≤ maxLen ∧ RI W W.heap.size A xs := by
      intro i hi
      have hE := hel i hi
      rw [cellsS1, Nat.mul_one, List.getElem?_eq_getElem (by omega)] at hE
      simp only [Option.bind_eq_some_iff] at hE
      obtain ⟨cs1, hc1, hy1⟩ := hE
      obtain ⟨c, rfl, hcc⟩ := one_cell hc1
      rcases open_ints Try.underlying25 Try.underlying2 (by kernel_rfl) hy1 with ⟨hcs, _⟩ | ⟨ia, il, ic, zs, hcs, _, hil, him, hiz, _, hicell, hiw⟩
      · injection hcs with hcs _
        subst hcs
        exact ⟨none, 0, 0, [], hcc, rfl, Nat.le_refl _, Nat.zero_le _, RI.nil_⟩
      · injection hcs with hcs _
        subst hcs
        have hiz' : zs.length = ic := by simpa using hiz
        obtain ⟨xs, hxl, hR⟩ := RI.of_row (w := W) (a := some ia) (len := il) (cap := ic) (zs := zs) (.inr ⟨ia, rfl, hil, him, hiz', hicell, hiw⟩)
        exact ⟨some ia, il, ic, xs, hcc, hxl.out, hil, him, hR⟩
    refine ⟨Nat.le_trans hl hm, ?_⟩
    have hch : ∃ f : Nat → SV × List Int, ∀ i, i < len → W.cell? (Addr.add ⟨b, off, spot⟩ i) = some (.slice (f i).1.1 (f i).1.2.1 (f i).1.2.2) ∧ (f i).2.length = (f i).1.2.1 ∧ (f i).1.2.1 ≤ (f i).1.2.2 ∧ (f i).1.2.2 ≤ maxLen ∧ RI W W.heap.size (f i).1.1 (f i).2 := by
      refine ⟨fun i => if hi : i < len then (((Classical.choose (key i hi)), Classical.choose (Classical.choose_spec (key i hi)), Classical.choose (Classical.choose_spec (Classical.choose_spec (key i hi)))), Classical.choose (Classical.choose_spec (Classical.choose_spec (Classical.choose_spec (key i hi))))) else (sd0, []), fun i hi => ?_⟩
      have := Classical.choose_spec (Classical.choose_spec (Classical.choose_spec (Classical.choose_spec (key i hi))))
      simp only [hi, dif_pos]
      exact this
    obtain ⟨f, hf⟩ := hch
    have g1 : ∀ j, j < len → ((List.range len).map fun i => (f i).1).getD j sd0 = (f j).1 := fun j hj => by
      rw [List.getD_eq_getElem?_getD, List.getElem?_map, List.getElem?_range hj]; rfl
    have g2 : ∀ j, j < len → ((List.range len).map fun i => (f i).2).getD j [] = (f j).2 := fun j hj => by
      rw [List.getD_eq_getElem?_getD, List.getElem?_map, List.getElem?_range hj]; rfl
    refine ⟨(List.range len).map fun i => (f i).1, (List.range len).map fun i => (f i).2, ⟨by simp, by simp, fun hp => ?_, fun j hj => ?_, fun j hj => ?_, fun j hj => ?_⟩, fun i hi => ?_⟩
    · have h0 := (hf 0 hp).1
      have hs : spot = none := by simpa [Addr.add] using World.cell?_spot h0
      subst hs
      refine ⟨b, off, rfl, ?_, fun j hj => ?_⟩
      · have := World.block_lt_of_cell? W _ h0
        simpa [Addr.add] using this
      · rw [g1 j hj, ← (hf j hj).1]
        unfold Addr.add
        split <;> simp_all
    · rw [g1 j hj, g2 j hj]; exact (hf j hj).2.2.2.2
    · rw [g1 j hj, g2 j hj]; exact (hf j hj).2.1
    · rw [g1 j hj]; exact (hf j hj).2.2.1
    · rw [g1 i hi]; exact Nat.le_trans (hf i hi).2.2.1 (hf i hi).2.2.2.1
end Go.Proofs.Ytoaaoikmkomofaa

/- What an iterator's walk needs of blocks, of slices of slices, of append inside a round. No condition. -/
namespace Go.Proofs.Ytoaaoikmkomofaa
open Go.RowKit
attribute [local go_sem] Oper.semAt_some

/-- From A to C the blocks below b and beyond b + 2 lie as they lay. -/
structure Xk (b : Nat) (A C : World) : Prop where
  os : C.os = A.os
  tape : C.tape = A.tape
  output : C.output = A.output
  size : A.heap.size ≤ C.heap.size
  block : ∀ k, k < A.heap.size → (k < b ∨ b + 2 < k) → C.heap[k]? = A.heap[k]?
theorem Xk.of_grown {b r : Nat} {A C : World} (h : A.grownBy C (some r)) (hr : b ≤ r ∧ r ≤ b + 2) : Xk b A C :=
  ⟨h.os, h.tape, h.output, h.size, fun k hk hb => h.block k hk (fun e => by cases e; omega)⟩
theorem Xk.trans {b : Nat} {A C D : World} (h : Xk b A C) (k : Xk b C D) : Xk b A D :=
  ⟨k.os.trans h.os, k.tape.trans h.tape, k.output.trans h.output, Nat.le_trans h.size k.size, fun i hi hb => (k.block i (Nat.lt_of_lt_of_le hi h.size) hb).trans (h.block i hi hb)⟩
theorem Xk.put {b r : Nat} (A : World) (o : Obj) (hr : b ≤ r ∧ r ≤ b + 2) : Xk b A (A.putObj r o) := Xk.of_grown (grownBy_putObj' A r o) hr
theorem Xk.below {b B : Nat} {A C : World} (h : Xk b A C) (hB : B ≤ b) (hA : B ≤ A.heap.size) : Below B A C := ⟨h.os, h.tape, h.output, h.size, fun k hk => h.block k (by omega) (.inl (by omega))⟩
theorem Slc.xk {b base n c : Nat} {A C : World} {S : Option Addr} {xs : List Int} (h : Slc A base S n c xs) (hk : Xk b A C) (ho : ∀ k, (Value.slice S n c).ownBlock = some k → k < b ∨ b + 2 < k) : Slc C base S n c xs := by
  refine ⟨h.1, h.2.1, ?_⟩
  rcases h.2.2 with hn | ⟨g, cap, cur, e, hb', hg, rest⟩
  · exact .inl hn
  · exact .inr ⟨g, cap, cur, e, hb', by rw [hk.block g (Array.getElem?_eq_some_iff.1 hg).1 (ho g (by rw [e]; rfl))]; exact hg, rest⟩

theorem SS.keptR {w w' : World} {bo bi n c : Nat} {A : Option Addr} {vs : List SV} {xss : List (List Int)} {row : Option Nat} (h : SS w bo bi A n c vs xss) (hg : w.grownBy w' row)
    (ho : (Value.slice A n c).ownBlock = none ∨ (Value.slice A n c).ownBlock ≠ row) (hr : ∀ i, i < n → (sval (vs.getD i sd0)).ownBlock = none ∨ (sval (vs.getD i sd0)).ownBlock ≠ row) : SS w' bo bi A n c vs xss :=
  ⟨World.ownsRow.kept h.own hg ho, h.lv, h.lx, fun i hi' => (h.row i hi').kept hg (hr i hi'), h.dis⟩
theorem SS.xk {b bo bi n c : Nat} {W C : World} {A : Option Addr} {vs : List SV} {xss : List (List Int)} (h : SS W bo bi A n c vs xss) (hk : Xk b W C) (h1 : b + 2 < bo) (h2 : b + 2 < bi) : SS C bo bi A n c vs xss := by
  refine ⟨⟨h.own.1, ?_⟩, h.lv, h.lx, fun i hi => (h.row i hi).xk hk (fun k e => .inr (by have := ((h.row i hi).lt_ k e).1; omega)), h.dis⟩
  rcases h.own.2 with hn | ⟨g, cap, cur, e, hb', hg, rest⟩
  · exact .inl hn
  · exact .inr ⟨g, cap, cur, e, hb', by rw [hk.block g (Array.getElem?_eq_some_iff.1 hg).1 (.inr (by omega))]; exact hg, rest⟩

/-- append of one slice onto a slice of slices of the call's own, inside a round. -/
theorem wpListIn_app2 {F : Fence} {nn : Nat} {w : World} {base bi n c : Nat} {A : Option Addr} {vs : List SV} {xss : List (List Int)} {ops : Array Oper} {rest : List Oper} {o : Oper} {a : Act} {Q : Exit → Act → World → Prop} (hgd : o.guard = none) (s x : Operand)
    (ho : o.op = .call { callee := .builtin .append, args := #[s, x], argTypes := #[24, 24] })
    (hs : a.eval s = .slice A n c) (hss : SS w base bi A n c vs xss) (g : Nat) (dA : Option Addr) (dn dc : Nat) (ys : List Int) (hx : a.eval x = .slice (some ⟨g, 0, none⟩) 1 1)
    (hcell : w.cell? ⟨g, 0, none⟩ = some (.slice dA dn dc)) (hys : Slc w bi dA dn dc ys)
    (hdis : ∀ i, i < n → (sval (vs.getD i sd0)).ownBlock = none ∨ (sval (vs.getD i sd0)).ownBlock ≠ (Value.slice dA dn dc).ownBlock) (hn : n ≤ 1000000000) (hbase : base ≤ w.heap.size)
    (h : ∀ g' c' w', SS w' base bi (some ⟨g', 0, none⟩) (n + 1) c' (vs ++ [(dA, dn, dc)]) (xss ++ [ys]) → w.grownBy w' (Value.slice A n c).ownBlock → wpListIn F nn Try.prog ops Q rest (a.put o.dst (.slice (some ⟨g', 0, none⟩) (n + 1) c')) w') : wpListIn F nn Try.prog ops Q (o :: rest) a w := by
  obtain ⟨i0, hi, hz0, hz1, hz2⟩ := info_parts infoS
  refine wpListIn_append_own w hgd s x 24 ho base 25 i0 (.slice none 0 0) 1 24 Try.underlying24 hi hz0 hz1 hz2 rfl (by decide) _ n _ hs hss.own ⟨g, 0, none⟩ 1 1 [.slice dA dn dc] hx rfl ?_ ?_ ?_ (by omega) hbase ?_
  · intro j v hj
    match j, hj with
    | 0, hj => simp at hj; subst hj; simpa [Addr.add] using hcell
    | j + 1, hj => simp at hj
  · intro v hv; simp at hv; subst hv; rfl
  · unfold maxLen; omega
  · intro v' w' hown' hg _
    have hform : ∃ g' c', v' = .slice (some ⟨g', 0, none⟩) (n + 1) c' := by
      rcases hown'.2 with ⟨rfl, h0⟩ | ⟨g', cap, cur, rfl, _⟩
      · omega
      · exact ⟨_, _, rfl⟩
    obtain ⟨A', c', rfl⟩ := hform
    refine h A' c' w' ⟨?_, by simp [hss.lv], by simp [hss.lx], fun i hi' => ?_, fun i j hij hj => ?_⟩ hg
    · rw [List.map_append]; exact hown'
    · by_cases e : i < n
      · rw [getD_app _ _ _ _ (by rw [hss.lv]; exact e), getD_app _ _ _ _ (by rw [hss.lx]; exact e)]
        exact (hss.row i e).kept hg (apart_types (hss.row i e) hss.own)
      · obtain rfl : i = n := by omega
        rw [getD_snoc _ _ _ _ hss.lv.symm, getD_snoc _ _ _ _ hss.lx.symm]
        exact hys.kept hg (apart_types hys hss.own)
    · rw [getD_app _ _ _ i (by rw [hss.lv]; omega)]
      by_cases e : j < n
      · rw [getD_app _ _ _ j (by rw [hss.lv]; exact e)]; exact hss.dis i j hij e
      · obtain rfl : j = n := by omega
        rw [getD_snoc _ _ _ _ hss.lv.symm]
        exact hdis i hij

theorem take_next {xss : List (List Int)} {i : Nat} (hi : i < xss.length) : xss.take (i + 1) = xss.take i ++ [xss.getD i []] := by
  rw [List.take_succ_eq_append_getElem hi, List.getD_eq_getElem?_getD, List.getElem?_eq_getElem hi]; rfl
/-- A box of another type is not the slice's row. -/
theorem Blk.not_outer {w : World} {b base n : Nat} {v : Value} {cs : Array Value} {ys : List Value} (h : Blk w b 24 cs) (ho : w.ownsRow base 25 1 v n ys) : some b ≠ v.ownBlock := by
  rcases ho.2 with ⟨rfl, _⟩ | ⟨g', cap', cur', rfl, hb', hg', _⟩
  · simp [Value.ownBlock]
  · intro e
    have e2 : b = g' := by simpa [Value.ownBlock] using e
    subst e2
    have := (show w.heap[b]? = _ from h).symm.trans hg'
    simp at this

theorem grown_any {a b : World} {row : Option Nat} (h : a.grownBy b none) : a.grownBy b row := ⟨h.os, h.tape, h.output, h.size, fun k hk _ => h.block k hk (fun e => nomatch e)⟩
end Go.Proofs.Ytoaaoikmkomofaa

/- A range over an iterator that hands out two numbers a round, for a body that always goes on; slices.Backward. No condition but lengths. -/
namespace Go.Proofs.Ytoaaoikmkomofaa
open Go.RowKit
attribute [local go_sem] Oper.semAt_some

/-- WHAT THE ITERATOR PROMISES: called at the yield of whatever loop, it hands the rounds av1 i and av2 i, one after the other, for i below n, and turns nothing itself; a round keeps the blocks of kp. -/
def ItB (gf : Nat) (lb : Array Value) (kp : Nat → Prop) (n : Nat) (av1 av2 : Nat → Value) (w0 : World) : Prop :=
  ∀ (l : Nat) (J : Nat → World → Prop) (W : World), (∀ k, kp k → W.heap[k]? = w0.heap[k]?) → w0.heap.size ≤ W.heap.size →
    (∀ i W1, J i W1 → i < n → YieldAt Fence.wide 4 Try.prog l #[av1 i, av2 i] W1 fun e W' => e = .returned (.bool true) ∧ J (i + 1) W' ∧ (∀ k, kp k → W'.heap[k]? = W1.heap[k]?) ∧ W1.heap.size ≤ W'.heap.size) →
    J 0 W →
    CallsIn Fence.wide 5 Try.prog gf (#[.func (.yield l) #[] #[]] ++ lb) W fun e W' => (∃ v, e = .returned v) ∧ J n W'

set_option maxHeartbeats 1000000 in
/-- A RANGE OVER IT, whose body always goes on. -/
theorem rangeB {g : Operand} {p1 p2 : Tmp} {assign body : Code} {Q : Exit → Act → World → Prop} {a : Act} {w w0 : World} {gf : Nat} {lb : Array Value} {kp : Nat → Prop} {n : Nat} {av1 av2 : Nat → Value}
    (hg : a.eval g = .func (.func gf) #[] lb) (eg : ∀ args w, (callFunc gf args).run Try.prog w = .ok (.enter gf args) w)
    (hs : ItB gf lb kp n av1 av2 w0) (hk0 : ∀ k, kp k → k < w.heap.size ∧ w.heap[k]? = w0.heap[k]?) (hsz : w0.heap.size ≤ w.heap.size)
    (I : Nat → World → Prop) (hI : ∀ i A C, I i A → Xk w.heap.size A C → I i C) (h0 : I 0 w) (ax : Value → Value → Act)
    (hassign : ∀ (l : Nat) (v1 v2 : Value) (W : World) (K : Act → World → Prop), K (ax v1 v2) W → assign.wpIn (Fence.wide.inRound l) 4 Try.prog (Exit.then K (fun _ _ _ => False)) { tmps := (a.tmps.setIfInBounds p1 v1).setIfInBounds p2 v2, defers := [] } W)
    (hbody : ∀ (l i : Nat) (W1 W2 : World), I i W1 → i < n → w.heap.size + 2 ≤ W1.heap.size → Xk w.heap.size W1 W2 →
      body.wpIn (Fence.wide.inRound l) 4 Try.prog (Exit.then (fun _ W' => I (i + 1) W' ∧ (∀ k, (kp k ∨ (w.heap.size ≤ k ∧ k ≤ w.heap.size + 1)) → W'.heap[k]? = W2.heap[k]?) ∧ W2.heap.size ≤ W'.heap.size) (fun _ _ _ => False)) (ax (av1 i) (av2 i)) W2)
    (hdone : ∀ W, I n W → W.heap[w.heap.size]? = some (.deferred (some [])) → Q .normal { a with defers := { target := .collected w.heap.size, args := #[] } :: a.defers } W) :
    (Code.rangeFunc g #[p1, p2] assign body).wpIn Fence.wide 6 Try.prog Q a w := by
  refine wpIn_rangeFunc ?_
  intro fn hfn
  obtain ⟨rc, hrc⟩ : ∃ rc : LoopState → Option Code → Loop, rc = fun st pe => { state := st, pending := pe, fn, tmps := a.tmps, params := #[p1, p2], assign, body, defers := w.heap.size } := ⟨_, rfl⟩
  obtain ⟨V, hV⟩ : ∃ V, (w.alloc (.deferred (some []))).alloc (.loop (rc .ready none)) = V := ⟨_, rfl⟩
  have hVs : V.heap.size = w.heap.size + 2 := by rw [← hV]; simp
  have hVl : V.heap[w.heap.size + 1]? = some (.loop (rc .ready none)) := by
    rw [← hV]; have := World.alloc_heap_new (w.alloc (.deferred (some []))) (.loop (rc .ready none)); rwa [World.size_alloc] at this
  have hVd : V.heap[w.heap.size]? = some (.deferred (some [])) := by
    rw [← hV]; exact (Below.heap_alloc _ _ _ (by simp)).trans (World.alloc_heap_new w _)
  have hVk : ∀ k, k < w.heap.size → V.heap[k]? = w.heap[k]? := fun k hk => by
    rw [← hV]; exact (Below.heap_alloc _ _ _ (by simp; omega)).trans (Below.heap_alloc _ _ _ hk)
  have hVx : Xk w.heap.size w V := by
    rw [← hV]; exact ⟨rfl, rfl, rfl, by simp; omega, fun k hk _ => (Below.heap_alloc _ _ _ (by simp; omega)).trans (Below.heap_alloc _ _ _ hk)⟩
  refine ⟨w.heap.size + 1, [{ target := .collected w.heap.size, args := #[] }], V, { target := .fn (.func gf) lb, args := #[.func (.yield (w.heap.size + 1)) #[] #[]] }, V, gf,
    #[.func (.yield (w.heap.size + 1)) #[] #[]] ++ lb, V, ?_, ?_, ?_, ?_, fun _ => by omega, ?_⟩
  · rw [← hV, hrc]; exact run_enterLoop_outer _ _ _ _ _
  · simp only [resolve, hg]
    simp [go_sem]
  · intro f' hf'; trivial
  · simp [invoke, go_sem, eg]
  · refine (hs (w.heap.size + 1) (fun i W => I i W ∧ W.heap[w.heap.size + 1]? = some (.loop (rc .ready none)) ∧ W.heap[w.heap.size]? = some (.deferred (some []))) V
      (fun k hk => (hVk k (hk0 k hk).1).trans (hk0 k hk).2) (by omega) ?_ ⟨hI 0 w V h0 hVx, hVl, hVd⟩).mono ?_
    · rintro i W2 ⟨hi, hl2, hd2⟩ hlt
      have hlt2 : w.heap.size + 1 < W2.heap.size := (Array.getElem?_eq_some_iff.1 hl2).1
      have hy := run_yield (P := Try.prog) (args := #[av1 i, av2 i]) hl2 (by rw [hrc]; rfl)
      rw [hrc] at hy
      have hy2 : (Instr.yield (w.heap.size + 1) #[av1 i, av2 i]).run Try.prog W2 = .ok (.round (w.heap.size + 1) fn ((a.tmps.setIfInBounds p1 (av1 i)).setIfInBounds p2 (av2 i)) assign body) W2 := by simpa using hy
      refine ⟨fn, _, assign, body, hy2, roundIn_of_wpIn hfn (hassign _ (av1 i) (av2 i) W2 _ ?_)⟩
      refine ⟨_, run_beginRound hl2 (by rw [hrc]), ?_⟩
      have hX : Xk w.heap.size W2 (W2.putObj (w.heap.size + 1) (.loop { rc .ready none with state := .busy })) := Xk.put _ _ (by omega)
      have hl3 : (W2.putObj (w.heap.size + 1) (.loop { rc .ready none with state := .busy })).heap[w.heap.size + 1]? = some (.loop { rc .ready none with state := .busy }) := World.putObj_heap_same hlt2
      have hd3 : (W2.putObj (w.heap.size + 1) (.loop { rc .ready none with state := .busy })).heap[w.heap.size]? = some (.deferred (some [])) := (World.putObj_heap_other (by omega)).trans hd2
      refine wpIn_mono (hbody _ i W2 _ hi hlt (by omega) hX) ?_
      rintro e a3 W3 hp
      cases e with
      | normal =>
        obtain ⟨hi3, hk3, hs3⟩ := hp
        have hl4 := (hk3 (w.heap.size + 1) (.inr (by omega))).trans hl3
        have hd4 := (hk3 w.heap.size (.inr (by omega))).trans hd3
        have hr := run_endRound (P := Try.prog) none hl4
        refine ⟨_, _, hr, ?_⟩
        rw [World.putObj_size] at hs3
        have h5 : (W3.putObj (w.heap.size + 1) (.loop (rc .ready none))).heap[w.heap.size + 1]? = some (.loop (rc .ready none)) := World.putObj_heap_same (Array.getElem?_eq_some_iff.1 hl4).1
        have e1 : (Loop.mk (if (none : Option Code).isNone then LoopState.ready else .done) none (rc .ready none).fn (rc .ready none).tmps (rc .ready none).params (rc .ready none).assign (rc .ready none).body (rc .ready none).defers) = rc .ready none := by rw [hrc]; rfl
        have e2 : ({ rc .ready none with state := LoopState.busy } : Loop).fn = (rc .ready none).fn := rfl
        refine ⟨rfl, ⟨hI _ _ _ hi3 (Xk.put _ _ (by omega)), ?_, (World.putObj_heap_other (by omega)).trans hd4⟩, ?_, by rw [World.putObj_size]; exact hs3⟩
        · rw [hrc]; rw [World.putObj_heap_same (Array.getElem?_eq_some_iff.1 hl4).1]; rfl
        · intro k hk
          have hne : k ≠ w.heap.size + 1 := by have := (hk0 k hk).1; omega
          exact (World.putObj_heap_other hne).trans ((hk3 k (.inl hk)).trans (World.putObj_heap_other hne))
      | ret => exact hp.elim
      | exit id => exact hp.elim
      | goto t => exact hp.elim
      | panic ch => exact hp.elim
      | outgrown => exact hp.elim
    · rintro e W2 ⟨⟨v, rfl⟩, hi, hl, hd⟩
      refine ⟨none, _, by have := run_endLoop (P := Try.prog) hl (by rw [hrc]; simp); rw [hrc] at this; exact this, hdone _ (hI _ _ _ hi (Xk.put _ _ (by omega))) ((World.putObj_heap_other (by omega)).trans hd)⟩


/-- slices.Backward: a closure over a box. -/
theorem implBack (A : Option Addr) (n c : Nat) (w : World) :
    Calls Try.prog 66 #[.slice A n c] w fun e w' => e = .returned (.func (.func 91) #[] #[.pointer (some ⟨w.heap.size, 0, none⟩)]) ∧ w' = w.alloc (.cells #[.slice A n c] 25) := by
  have hmf : ∀ (fn : Fn) (first cap : Array Value) (w : World), (Instr.makeFunc fn first cap).run Try.prog w = .ok (.func fn first cap) w := fun _ _ _ _ => rfl
  go_enter Try.func66, Try.ntmps66
  go_wp2
  go_ret
  exact ⟨rfl, rfl⟩

set_option maxHeartbeats 4000000 in
set_option maxRecDepth 100000 in
/-- The iterator's contract. -/
theorem itsBack (n c B c1 : Nat) (A : Option Addr) (xs : List Int) (w0 : World) (hx : RI w0 B A xs) (lx : Hid (xs.length = n)) (hn : n ≤ 2097152) (hB : B ≤ w0.heap.size) (h1 : Blk w0 c1 25 #[.slice A n c]) :
    ItB 91 #[.pointer (some ⟨c1, 0, none⟩)] (fun k => k < B ∨ k = c1) n (fun i => .int .i64 ((n : Int) - 1 - (i : Int))) (fun i => .int .i64 (xs.getD (n - 1 - i) 0)) w0 := by
  intro l J W hW hsz hY h0
  have HX := Lib.hid hx
  have HY := Lib.hid hY
  have H1 : Hid (Blk W c1 25 #[.slice A n c]) := Lib.hid ((hW c1 (.inr rfl)).trans h1)
  have k1 : W.cell? ⟨c1, 0, none⟩ = some (.slice A n c) := H1.out.cell 0
  have W1 : Hid (Blk w0 c1 25 #[.slice A n c]) := Lib.hid h1
  have hKW := Lib.hid hW
  have J0 : Hid (J 0 W) := Lib.hid h0
  have wn : IntKind.i64.wrap ((n : Int) - 1) = (n : Int) - 1 := by rw [IntKind.wrap_i64]; omega
  clear hx hY hW h1 h0
  refine callsIn_wide.2 ?_
  show Calls Try.prog 91 #[.func (.yield l) #[] #[], .pointer (some ⟨c1, 0, none⟩)] W _
  go_enter Try.func91, Try.ntmps91
  go_wp2_with fail
  refine (wpIn_wide (n := 5)).1 ?_
  gi_loopw [3] (fun iv wr => ∃ k : Nat, k ≤ n ∧ iv = .int .i64 ((n : Int) - 1 - (k : Int)) ∧ J k wr ∧ (∀ q, (q < B ∨ q = c1) → wr.heap[q]? = w0.heap[q]?)) (fun iv _ => (intOf iv + 1).toNat)
  case atStart => exact ⟨0, Nat.zero_le _, by go_num, J0.out, hKW.out⟩
  case round =>
    clear J0 k1 wn
    obtain ⟨k, hk, rfl, hj, hkp⟩ := hrel
    have Hj := Lib.hid hj
    have Kp := Lib.hid hkp
    clear hj hkp
    by_cases hlt : k < n
    · have Xr : Hid (RI wr B A xs) := Lib.hid (HX.out.keep fun p hp => World.cell?_of_block (Kp.out p.block (.inl hp)))
      obtain ⟨b, off, rfl, hb, hc⟩ := Xr.out (by rw [lx.out]; omega)
      have hy0 := HY.out k wr Hj.out hlt
      obtain ⟨I, hI⟩ : ∃ I : Nat, n - 1 - k = I := ⟨_, rfl⟩
      have eI : (n : Int) - 1 - k = (I : Int) := by omega
      rw [hI] at hy0
      have c1' := hc I (by rw [lx.out]; omega)
      obtain ⟨x, ex⟩ : ∃ x, xs.getD I 0 = x := ⟨_, rfl⟩
      rw [ex] at c1' hy0
      rw [eI] at hy0 ⊢
      have cc : wr.cell? ⟨c1, 0, none⟩ = some (.slice (some ⟨b, off, none⟩) n c) := ((show Blk wr c1 25 #[.slice (some ⟨b, off, none⟩) n c] from (Kp.out c1 (.inr rfl)).trans W1.out).cell 0)
      have p0 : (0 : Int) ≤ (I : Int) := by omega
      have p1 : (I : Int) < (n : Int) := by omega
      have wI : IntKind.i64.wrap ((I : Int) - 1) = (I : Int) - 1 := by rw [IntKind.wrap_i64]; omega
      obtain ⟨fn, tmps, assign, body, hy, hR⟩ := hy0
      have HR := Lib.hid hR
      clear hc hR ex
      gi_wp2
      refine HR.out.mono ?_
      rintro e w3 ⟨rfl, hj3, hk3, hs3⟩
      have Hj3 := Lib.hid hj3
      have Kp3 : Hid (∀ q, (q < B ∨ q = c1) → w3.heap[q]? = w0.heap[q]?) := Lib.hid fun q hq => (hk3 q hq).trans (Kp.out q hq)
      clear hj3 hk3
      gi_wp2
      go_roundw
      case rel => exact ⟨k + 1, by omega, by congr 1; omega, Hj3.out, Kp3.out⟩
      case measure => simp [intOf] <;> omega
    · obtain rfl : k = n := by omega
      have d0 : decide ((0 : Int) ≤ (k : Int) - 1 - k) = false := by simp; omega
      gi_wp2
      go_end0
      exact ⟨⟨_, rfl⟩, Hj.out⟩
end Go.Proofs.Ytoaaoikmkomofaa

/- The program's chain: what including one product leaves; the loop over an orbit; members with given entries found link by link. No Go in it. No condition. -/
namespace Go.Proofs.Ytoaaoikmkomofaa
open Go.RowKit

theorem nd_subP {l' : List Nat} : ∀ {l : List Nat}, l'.Nodup → (∀ x ∈ l', x ∈ l) → l'.length ≤ l.length := by
  induction l' with
  | nil => intro l _ _; simp
  | cons a t ih =>
    intro l hd h
    rw [List.nodup_cons] at hd
    have ha : a ∈ l := h a (by simp)
    have := ih (l := l.erase a) hd.2 fun x hx => by
      have hne : x ≠ a := fun e => hd.1 (e ▸ hx)
      exact (List.mem_erase_of_ne hne).2 (h x (by simp [hx]))
    rw [List.length_erase_of_mem ha] at this
    have h0 : 0 < l.length := List.length_pos_of_mem ha
    simp; omega
section
variable {N k : Nat} {c c' cj : Ch} {p q m : List Int} {O O' : List Nat}

/-- What including one product leaves. -/
structure Ic (N k : Nat) (c c' : Ch) (q : List Int) : Prop where
  low : Low N c' k
  grw : Grw k c c'
  gen : c'.gen k = c.gen k
  sv : Sv N c' k q
  mono : ∀ p, Sv N c k p → Sv N c' k p
theorem Ic.old (h : Low N c k) (hk : k < N) (h1 : 1 ≤ N) (h2 : N ≤ 20) (hq : Mb (c.gen k) N q) (hr : c.rep k (nx q k) ≠ []) (ha : Ap N (k + 1) c c' (compL q (iv (c.rep k (nx q k))))) : Ic N k c c' q :=
  have b := Bp.old h hk h1 h2 hq hr ha
  ⟨b.low, b.grw, b.gen, b.sv, b.mono⟩
theorem Ic.put (h : Low N c k) (hk : k < N) (h1 : 1 ≤ N) (h2 : N ≤ 20) (hq : Mb (c.gen k) N q) (hr : c.rep k (nx q k) = []) : Ic N k c (c.set k (nx q k) q) q := by
  obtain ⟨l1, g1⟩ := h.put hk h1 h2 hq hr
  have hp := hq.pn h.pn h1 h2
  have hne : q ≠ [] := by intro e; have := hp.2; rw [e] at this; simp at this; omega
  refine ⟨l1, g1, rfl, ?_, fun p hs => h.mono_sv l1 g1 hk (fun _ h => h) hs⟩
  have := l1.rep_sv hk (y := nx q k) (by rw [set_at]; exact hne)
  rw [set_at] at this; exact this

/-- The orbit lists the points that have a representative, each once. -/
def Orb (c : Ch) (k : Nat) (O : List Nat) : Prop := O.Nodup ∧ ∀ y, y ∈ O ↔ c.rep k y ≠ []
theorem Orb.congr (h : Orb c k O) (e : ∀ y, c'.rep k y = c.rep k y) : Orb c' k O := ⟨h.1, fun y => by rw [h.2, e]⟩
theorem Orb.put (h : Orb c k O) {y : Nat} (hr : c.rep k y = []) (hq : q ≠ []) : Orb (c.set k y q) k (O ++ [y]) := by
  refine ⟨List.nodup_append.2 ⟨h.1, by simp, fun a ha b hb e => ?_⟩, fun z => ?_⟩
  · rw [List.mem_singleton] at hb
    subst hb; subst e
    exact (h.2 a).1 ha hr
  · rw [List.mem_append, List.mem_singleton, h.2]
    by_cases e : z = y
    · subst e; rw [set_at]; exact ⟨fun _ => hq, fun _ => .inr rfl⟩
    · rw [set_ne (.inr e)]; exact ⟨fun h => h.resolve_right e, fun h => .inl h⟩
theorem Orb.lt (h : Orb c k O) (hr : RepOK N c k) {y : Nat} (hy : y ∈ O) : y < N := (hr.at_ y ((h.2 y).1 hy)).1
theorem Orb.len (h : Orb c k O) (hr : RepOK N c k) : O.length ≤ N := by
  have : O.length ≤ (List.range N).length := nd_subP h.1 fun y hy => List.mem_range.2 (h.lt hr hy)
  simpa using this

/-- Which generators the products of the t-th orbit point are formed with. -/
def gsA (kn : Nat) (gs : List (List Int)) (p : List Int) (t : Nat) : List (List Int) := if t < kn then [p] else gs
/-- The loop over the orbit: i points are done, of the next one j products. -/
structure Bf (N k : Nat) (c1 cj : Ch) (O : List Nat) (p : List Int) (kn i j : Nat) : Prop where
  low : Low N cj k
  grw : Grw k c1 cj
  gen : cj.gen k = c1.gen k
  mono : ∀ q, Sv N c1 k q → Sv N cj k q
  old : ∀ t, t < kn → c1.rep k (O.getD t 0) ≠ []
  len : kn ≤ O.length
  done : ∀ t, t < i → ∀ g ∈ gsA kn (c1.gen k) p t, Sv N cj k (compL (cj.rep k (O.getD t 0)) g)
  part : ∀ s, s < j → Sv N cj k (compL (cj.rep k (O.getD i 0)) ((gsA kn (c1.gen k) p i).getD s []))
theorem Bf.start {c1 : Ch} (h : Low N c1 k) (hO : Orb c1 k O) : Bf N k c1 c1 O p O.length 0 0 :=
  ⟨h, .refl _ _, rfl, fun _ h => h, fun t ht => (hO.2 _).1 (by rw [List.getD_eq_getElem?_getD, List.getElem?_eq_getElem ht]; exact List.getElem_mem _), Nat.le_refl _, fun t ht => absurd ht (by omega), fun t ht => absurd ht (by omega)⟩
theorem getD_pre {O O' : List Nat} (h : O <+: O') {t : Nat} (ht : t < O.length) : O'.getD t 0 = O.getD t 0 := by
  obtain ⟨l, rfl⟩ := h
  rw [List.getD_eq_getElem?_getD, List.getD_eq_getElem?_getD, List.getElem?_append_left ht]
theorem Bf.next {c1 : Ch} {kn i j : Nat} (h : Bf N k c1 cj O p kn i j) (hO : Orb cj k O) (hi : i < O.length) (hpre : O <+: O') (hc : Ic N k cj c' (compL (cj.rep k (O.getD i 0)) ((gsA kn (c1.gen k) p i).getD j []))) : Bf N k c1 c' O' p kn i (j + 1) := by
  have hrep : ∀ t, t < O.length → c'.rep k (O'.getD t 0) = cj.rep k (O.getD t 0) := fun t ht => by
    rw [getD_pre hpre ht]
    exact hc.grw.keep _ _ ((hO.2 _).1 (by rw [List.getD_eq_getElem?_getD, List.getElem?_eq_getElem ht]; exact List.getElem_mem _))
  refine ⟨hc.low, h.grw.trans hc.grw, by rw [hc.gen, h.gen], fun p hs => hc.mono _ (h.mono _ hs), fun t ht => by rw [getD_pre hpre (by have := h.len; omega)]; exact h.old t ht, Nat.le_trans h.len hpre.length_le, fun t ht g hg => ?_, fun s hs => ?_⟩
  · rw [hrep t (by omega)]; exact hc.mono _ (h.done t ht g hg)
  · rw [hrep i hi]
    rcases Nat.lt_or_ge s j with hl | hl
    · exact hc.mono _ (h.part s hl)
    · obtain rfl : s = j := by omega
      exact hc.sv
theorem Bf.round {c1 : Ch} {kn i : Nat} (h : Bf N k c1 cj O p kn i (gsA kn (c1.gen k) p i).length) : Bf N k c1 cj O p kn (i + 1) 0 := by
  refine ⟨h.low, h.grw, h.gen, h.mono, h.old, h.len, fun t ht g hg => ?_, fun s hs => absurd hs (by omega)⟩
  rcases Nat.lt_or_ge t i with hl | hl
  · exact h.done t hl g hg
  · obtain rfl : t = i := by omega
    obtain ⟨s, hs, rfl⟩ := mem_at hg
    exact h.part s hs
/-- The product that is formed next lies in the group of the level. -/
theorem Bf.mb {kn i j : Nat} (h : Bf N k (c.push k p) cj O p kn i j) (hO : Orb cj k O) (hi : i < O.length) (hj : j < (gsA kn ((c.push k p).gen k) p i).length) :
    Mb (cj.gen k) N (compL (cj.rep k (O.getD i 0)) ((gsA kn ((c.push k p).gen k) p i).getD j [])) ∧ Pn N (cj.rep k (O.getD i 0)) ∧ (gsA kn ((c.push k p).gen k) p i).getD j [] ∈ cj.gen k := by
  have hr : cj.rep k (O.getD i 0) ≠ [] := (hO.2 _).1 (by rw [List.getD_eq_getElem?_getD, List.getElem?_eq_getElem hi]; exact List.getElem_mem _)
  have hm : (gsA kn ((c.push k p).gen k) p i).getD j [] ∈ gsA kn ((c.push k p).gen k) p i := by
    rw [List.getD_eq_getElem?_getD, List.getElem?_eq_getElem hj]; exact List.getElem_mem _
  have hg : (gsA kn ((c.push k p).gen k) p i).getD j [] ∈ cj.gen k := by
    rw [h.gen]
    unfold gsA at hm ⊢
    by_cases e : i < kn
    · simp only [if_pos e] at hm ⊢
      rw [List.mem_singleton] at hm
      rw [hm, push_at]; simp
    · simp only [if_neg e] at hm ⊢; exact hm
  exact ⟨.mul (h.low.inn _ hr) hg, (h.low.rep.at_ _ hr).2.1, hg⟩
theorem Bf.all {kn : Nat} (h : UpTo N c k) (hk : k < N) (h1 : 1 ≤ N) (h2 : N ≤ 20) (hp : Pn N p) (hf : Fx k p) (hs : ¬ Sv N c k p) (hb : Bf N k (c.push k p) cj O p kn O.length 0) (hO : Orb cj k O) : Ap N k c cj p := by
  have hl := h.low hk h1 h2
  have hg1 : cj.gen k = c.gen k ++ [p] := by rw [hb.gen, push_at]
  have g0 : Grw k c (c.push k p) := ⟨fun _ _ _ => rfl, fun _ _ _ => rfl, fun i hi => push_ne (by omega)⟩
  have hG := g0.trans hb.grw
  have hat : ∀ y, cj.rep k y ≠ [] → ∃ t, t < O.length ∧ O.getD t 0 = y := fun y hy => by
    obtain ⟨t, ht, e⟩ := List.mem_iff_getElem.1 ((hO.2 y).2 hy)
    exact ⟨t, ht, by rw [List.getD_eq_getElem?_getD, List.getElem?_eq_getElem ht, ← e]; rfl⟩
  have hclose : ∀ y, cj.rep k y ≠ [] → ∀ g ∈ cj.gen k, Sv N cj k (compL (cj.rep k y) g) := fun y hy g hg => by
    obtain ⟨t, ht, et⟩ := hat y hy
    by_cases e : t < kn
    · have hc1 := hb.old t e
      rw [et] at hc1
      rw [hg1] at hg
      rcases List.mem_append.1 hg with hg | hg
      · rw [hG.keep _ _ hc1]
        refine hb.mono _ (Sv.congr (c := c) ?_ fun _ _ _ => rfl)
        exact (h.sv k (Nat.le_refl _) (by omega) _).2 (.mul (hl.inn y hc1) hg)
      · have := hb.done t ht g (by unfold gsA; rw [if_pos e]; exact hg)
        rw [et] at this; exact this
    · have := hb.done t ht g (by unfold gsA; rw [if_neg e, ← hb.gen]; exact hg)
      rw [et] at this; exact this
  have hid : c.rep k k ≠ [] := by rw [hl.rep.one]; intro e; have := idL_length N; rw [e] at this; simp at this; omega
  have hsv : Sv N cj k p := by
    have h3 := hclose k (by rw [hG.keep _ _ hid]; exact hid) p (by rw [hg1]; simp)
    rw [hG.keep _ _ hid, hl.rep.one, hp.idl] at h3
    exact h3
  have hcnt : cnt N c k < cnt N cj k := by
    have hle := cnt_mono (N := N) hG k
    rcases Nat.lt_or_ge (cnt N c k) (cnt N cj k) with hlt | hge
    · exact hlt
    · exfalso
      refine hs (sv_back hsv (Nat.le_refl _) fun j y hj hjN hy => (cnt_same hG hge hj hjN hy).symm)
  refine ⟨hb.low.whole hk h1 h2 hclose ?_, hG, fun q => by rw [hg1]⟩
  rw [hg1, List.length_append]
  have := h.len k (Nat.le_refl _) hk
  simp; omega
/-- At the last link everything that fixes the points before is known. -/
theorem sv_last (h : UpTo N c k) (hk : k + 1 = N) (h1 : 1 ≤ N) (h2 : N ≤ 20) (hp : Pn N p) (hf : Fx k p) : Sv N c k p := by
  have e : nx p k = k := by
    have a := hf.ge hp (by omega)
    have b := hp.lt (x := k) (by omega)
    omega
  have hid := (hf.succ e)
  rw [hk] at hid
  rw [hid.all hp]
  exact (sv_down (h.rep k (Nat.le_refl _) (by omega)) (by omega) (pn_id h1 h2) (fx_id (by omega)) (nx_id (by omega))).2 ((h.sv (k + 1) (by omega) (by omega) _).2 .one)

/-! ### members with given entries -/
theorem UpTo.stab (h : UpTo N c k) (h1 : 1 ≤ N) (h2 : N ≤ 20) {j : Nat} (hj : k ≤ j) (hjN : j ≤ N) (hp : Pn N p) (hf : Fx j p) : Sv N c k p ↔ Sv N c j p := by
  induction j with
  | zero => obtain rfl : k = 0 := by omega
            exact Iff.rfl
  | succ j ih =>
    by_cases e : k = j + 1
    · subst e; exact Iff.rfl
    · rw [ih (by omega) (by omega) (hf.mono (by omega))]
      exact sv_down (h.rep j (by omega) (by omega)) (by omega) hp (hf.mono (by omega)) (hf j (by omega))
theorem UpTo.gpn (h : UpTo N c k) (hk : k ≤ N) : ∀ g ∈ c.gen k, Pn N g := h.pn (Nat.le_refl _) hk
theorem UpTo.mfx (h : UpTo N c k) (h1 : 1 ≤ N) (h2 : N ≤ 20) (hk : k ≤ N) (hm : Mb (c.gen k) N p) : Fx k p := by
  rcases Nat.lt_or_ge k N with hl | hl
  · exact hm.fx (h.gp k (Nat.le_refl _) hl) h1 h2 hk
  · obtain rfl : k = N := by omega
    rw [h.top] at hm
    rw [hm.none_]; exact fx_id (Nat.le_refl _)
/-- A representative of a later link is a member of this one. -/
theorem UpTo.rep_mb (h : UpTo N c k) (h1 : 1 ≤ N) (h2 : N ≤ 20) {j y : Nat} (hj : k ≤ j) (hjN : j < N) (hy : c.rep j y ≠ []) : Mb (c.gen k) N (c.rep j y) := by
  obtain ⟨a1, a2, a3, a4⟩ := (h.rep j hj hjN).at_ y hy
  refine (h.sv k (Nat.le_refl _) (by omega) _).1 ((h.stab h1 h2 hj (by omega) a2 a3).2 ?_)
  exact ((h.mono hj).low hjN h1 h2).rep_sv hjN hy
/-- A member that has the given entries from k on, as far as j. -/
structure Mt (N : Nat) (c : Ch) (k : Nat) (vals : List Int) (m : List Int) (j : Nat) : Prop where
  kj : k ≤ j
  jN : j ≤ N
  pn : Pn N m
  mb : Mb (c.gen k) N m
  ag : ∀ i, k ≤ i → i < j → (nx m i : Int) = vals.getD i 0
  jl : j = k ∨ j ≤ vals.length
/-- No member has one entry more. -/
def NoM (N : Nat) (c : Ch) (k : Nat) (vals : List Int) (j : Nat) : Prop := j < N → j < vals.length → ∀ q, Mb (c.gen k) N q → ¬ ∀ i, k ≤ i → i ≤ j → (nx q i : Int) = vals.getD i 0
theorem Mt.start {vals : List Int} (h1 : 1 ≤ N) (h2 : N ≤ 20) (hk : k ≤ N) : Mt N c k vals (idL N) k :=
  ⟨Nat.le_refl _, hk, pn_id h1 h2, .one, fun i a b => absurd b (by omega), .inl rfl⟩
theorem Mt.step {vals : List Int} {j y : Nat} (h : Mt N c k vals m j) (hu : UpTo N c k) (h1 : 1 ≤ N) (h2 : N ≤ 20) (hj : j < N) (hl : j < vals.length) (hy : c.rep j y ≠ []) (hv : (nx m y : Int) = vals.getD j 0) : Mt N c k vals (compL (c.rep j y) m) (j + 1) := by
  obtain ⟨a1, a2, a3, a4⟩ := (hu.rep j h.kj hj).at_ y hy
  have hkj := h.kj
  refine ⟨by omega, by omega, a2.comp h.pn, (hu.rep_mb h1 h2 h.kj hj hy).comp (hu.gpn (by omega)) h1 h2 h.mb, fun i hi hij => ?_, .inr (by omega)⟩
  rcases Nat.lt_or_ge i j with hlt | hge
  · rw [a2.nxc (by omega), a3 i hlt]; exact h.ag i hi hlt
  · obtain rfl : i = j := by omega
    rw [a2.nxc hj, a4]; exact hv
theorem Mt.stop {vals : List Int} {j : Nat} (h : Mt N c k vals m j) (hu : UpTo N c k) (h1 : 1 ≤ N) (h2 : N ≤ 20) (hn : ∀ y, y < N → (nx m y : Int) = vals.getD j 0 → c.rep j y = []) : NoM N c k vals j := fun hj hl q hq hag => by
  have hkj := h.kj
  have hqp := hq.pn (hu.gpn (by omega)) h1 h2
  have hqf := hu.mfx h1 h2 (by omega) hq
  have hmf := hu.mfx h1 h2 (by omega) h.mb
  have hr := hqp.comp h.pn.iv
  have hfx : Fx j (compL q (iv m)) := fun i hi => by
    rw [hqp.nxc (by omega)]
    have e : nx q i = nx m i := by
      rcases Nat.lt_or_ge i k with hlt | hge
      · rw [hqf i hlt, hmf i hlt]
      · have a := hag i hge (by omega)
        have b := h.ag i hge hi
        omega
    rw [e, h.pn.nxi (by omega)]
  have hmb : Mb (c.gen k) N (compL q (iv m)) := hq.comp (hu.gpn (by omega)) h1 h2 (h.mb.inv (hu.gpn (by omega)) h1 h2)
  have hs := (hu.stab h1 h2 h.kj h.jN hr hfx).1 ((hu.sv k (Nat.le_refl _) (by omega) _).2 hmb)
  have h3 := (hs.inv_low hj).2.2.1
  rw [hqp.nxc hj] at h3
  have hlt := hqp.lt hj
  refine h3 (hn _ (h.pn.iv.lt hlt) ?_)
  rw [h.pn.nxi' hlt]
  exact hag j h.kj (Nat.le_refl _)
/-- Membership: all entries are found. -/
theorem Mt.mem {j : Nat} (h : Mt N c k p m j) (hn : NoM N c k p j) (hu : UpTo N c k) (h1 : 1 ≤ N) (h2 : N ≤ 20) (hk : k ≤ N) (hp : Pn N p) (hf : Fx k p) : j = N ↔ Mb (c.gen k) N p := by
  constructor
  · rintro rfl
    have hmf := hu.mfx h1 h2 hk h.mb
    have : m = p := h.pn.ext hp fun x hx => by
      rcases Nat.lt_or_ge x k with hlt | hge
      · rw [hmf x hlt, hf x hlt]
      · have a := h.ag x hge hx
        rw [nx_val hp.1 (by rw [hp.2]; exact hx)] at a
        omega
    rw [← this]; exact h.mb
  · intro hm
    rcases Nat.lt_or_ge j N with hl | hl
    · exfalso
      refine hn hl (by rw [hp.2]; exact hl) p hm fun i _ hi => ?_
      rw [nx_val hp.1 (by rw [hp.2]; omega)]
    · have := h.jN; omega
end
end Go.Proofs.Ytoaaoikmkomofaa

/- The program's chain in memory: linked structs, each with generators, an orbit and movers; how it reads, what one store, one append, one call on a later link leave of it. No condition. -/

/- The program's search in its chain: slices.Index, withValue, match, contains. Conditions: at most 20 points; the chain whole from the link on. -/
namespace Go.Proofs.Ytoaaoikmkomofaa
open Go.RowKit

theorem pcDrewBelow (w : World) (k : Nat) : Below w.heap.size w (w.drewN k) := ⟨rfl, rfl, rfl, Nat.le_refl _, fun _ _ => rfl⟩




end Go.Proofs.Ytoaaoikmkomofaa

/- The program's include: one product is taken as a mover or divided away. Conditions: at most 20 points; the chain whole above the link; add one link on keeps its contract. -/

/- The program's add: a permutation that fixes every point before the base is added to a link. Conditions: at most 20 points; the chain whole from the link on. -/
namespace Go.Proofs.Ytoaaoikmkomofaa
open Go.RowKit

theorem boolOf (P : Prop) : ∃ b : Bool, b = true ↔ P := by
  by_cases h : P
  · exact ⟨true, fun _ => h, fun _ => rfl⟩
  · exact ⟨false, fun e => (Bool.false_ne_true e).elim, fun e => (h e).elim⟩

end Go.Proofs.Ytoaaoikmkomofaa

/- The program's chainOf: a chain whole from link 0 on, of what the generators generate. Conditions: at most 20 points, 8 generators. -/

/- insertSorted and sortedInts of the model. No condition but lengths. -/
namespace Go.Proofs.Ytoaaoikmkomofaa
open Go.RowKit

/-- The sorted list with v put in at k. -/
def putIn (ys : List Int) (k : Nat) (v : Int) : List Int := ys.take k ++ [v] ++ ys.drop k
theorem putIn_perm (ys : List Int) (k : Nat) (v : Int) : (putIn ys k v).Perm (v :: ys) := by
  unfold putIn
  have h : (ys.take k ++ [v]).Perm (v :: ys.take k) := List.perm_append_comm
  have := h.append_right (ys.drop k)
  rw [List.cons_append, List.take_append_drop] at this
  exact this
theorem putIn_sorted {ys : List Int} {k : Nat} {v : Int} (hs : ys.Pairwise (· ≤ ·)) (h1 : ∀ j, j < k → ys.getD j 0 < v) (h2 : k < ys.length → v ≤ ys.getD k 0) : (putIn ys k v).Pairwise (· ≤ ·) := by
  unfold putIn
  have hd : ∀ b ∈ ys.drop k, v ≤ b := fun b hb => by
    obtain ⟨j, hj, e⟩ := List.mem_iff_getElem.1 hb
    rw [List.length_drop] at hj
    rw [List.getElem_drop] at e
    have h3 := h2 (by omega)
    rw [List.getD_eq_getElem?_getD, List.getElem?_eq_getElem (by omega : k < ys.length)] at h3
    rw [List.pairwise_iff_getElem] at hs
    rw [← e]
    by_cases e0 : j = 0
    · subst e0; simpa using h3
    · have := hs k (k + j) (by omega) (by omega) (by omega)
      have h3' : v ≤ ys[k] := by simpa using h3
      omega
  have ht : ∀ a ∈ ys.take k, a < v := fun a ha => by
    obtain ⟨j, hj, e⟩ := List.mem_iff_getElem.1 ha
    rw [List.length_take] at hj
    rw [List.getElem_take] at e
    have := h1 j (by omega)
    rw [List.getD_eq_getElem?_getD, List.getElem?_eq_getElem (by omega)] at this
    rw [← e]; simpa using this
  rw [List.append_assoc, List.pairwise_append]
  refine ⟨hs.sublist (List.take_sublist _ _), ?_, fun a ha b hb => ?_⟩
  · rw [List.singleton_append, List.pairwise_cons]
    exact ⟨hd, hs.sublist (List.drop_sublist _ _)⟩
  · have := ht a ha
    rcases List.mem_append.1 hb with hb | hb
    · obtain rfl : b = v := by simpa using hb
      omega
    · have := hd b hb; omega


end Go.Proofs.Ytoaaoikmkomofaa

/- Members with given entries, by the model's chain. Conditions: at most 20 points, 8 generators. -/
namespace Go.Proofs.Ytoaaoikmkomofaa
open Go.RowKit

/-- The entries that level i allows behind p, among the first m points. -/
def chL (c : Ch) (i : Nat) (p : List Int) (m : Nat) : List Int := ((List.range m).filter fun y => !(c.rep i y).isEmpty).map fun y => (nx p y : Int)
theorem chL_yes {c : Ch} {i m : Nat} {p : List Int} (h : c.rep i m ≠ []) : chL c i p (m + 1) = chL c i p m ++ [(nx p m : Int)] := by
  unfold chL; rw [List.range_succ, List.filter_append]; simp [List.isEmpty_eq_false_iff.2 h]
theorem chL_no {c : Ch} {i m : Nat} {p : List Int} (h : c.rep i m = []) : chL c i p (m + 1) = chL c i p m := by
  unfold chL; rw [List.range_succ, List.filter_append]; simp [h]
theorem chL_mem {c : Ch} {i m : Nat} {p : List Int} {v : Int} : v ∈ chL c i p m ↔ ∃ y, y < m ∧ c.rep i y ≠ [] ∧ (nx p y : Int) = v := by
  simp only [chL, List.mem_map, List.mem_filter, List.mem_range, Bool.not_eq_true', List.isEmpty_eq_false_iff, and_assoc]
theorem chL_len (c : Ch) (i : Nat) (p : List Int) (m : Nat) : (chL c i p m).length ≤ m := by
  unfold chL; rw [List.length_map]
  have := List.length_filter_le (fun y => !(c.rep i y).isEmpty) (List.range m)
  simpa using this


end Go.Proofs.Ytoaaoikmkomofaa

/- The smallest member with a prefix: what it is, and that the model finds it. Conditions: at most 20 points, 8 generators. -/
namespace Go.Proofs.Ytoaaoikmkomofaa
open Go.RowKit

/-- m is the member with the prefix whose further entries are as small as can be, one after the other. -/
def Greedy (N : Nat) (gs : List (List Int)) (pre m : List Int) : Prop :=
  Mb gs N m ∧ ∀ i, i < N → (i < pre.length → (nx m i : Int) = pre.getD i 0) ∧ (pre.length ≤ i → ∀ q, Mb gs N q → (∀ t, t < i → nx q t = nx m t) → nx m i ≤ nx q i)
def NoMem (N : Nat) (gs : List (List Int)) (pre : List Int) : Prop := ∀ q, Mb gs N q → ¬ ∀ t, t < pre.length → (nx q t : Int) = pre.getD t 0
/-- What MemberWithPrefix answers. -/
def IsMwp (N : Nat) (gs : List (List Int)) (pre m : List Int) (ok : Bool) : Prop := (ok = true ∧ Greedy N gs pre m) ∨ (ok = false ∧ m = [] ∧ NoMem N gs pre)
section
variable {N : Nat} {gs : List (List Int)} {pre m m' : List Int}
theorem Greedy.uniq (h1 : 1 ≤ N) (h2 : N ≤ 20) (hg : ∀ g ∈ gs, Pn N g) (h : Greedy N gs pre m) (h' : Greedy N gs pre m') : m = m' := by
  have hp := h.1.pn hg h1 h2
  have hp' := h'.1.pn hg h1 h2
  refine hp.ext hp' fun x hx => ?_
  induction x using Nat.strongRecOn with
  | ind x ih =>
    by_cases hl : x < pre.length
    · have a := (h.2 x hx).1 hl
      have b := (h'.2 x hx).1 hl
      omega
    · have a := (h.2 x hx).2 (by omega) m' h'.1 fun t ht => (ih t ht (by omega)).symm
      have b := (h'.2 x hx).2 (by omega) m h.1 fun t ht => ih t ht (by omega)
      omega
theorem Greedy.has (h : Greedy N gs pre m) (hl : pre.length ≤ N) : ¬ NoMem N gs pre := fun hn => hn m h.1 fun t ht => (h.2 t (by omega)).1 ht
theorem IsMwp.uniq {ok ok' : Bool} (h1 : 1 ≤ N) (h2 : N ≤ 20) (hg : ∀ g ∈ gs, Pn N g) (hl : pre.length ≤ N) (h : IsMwp N gs pre m ok) (h' : IsMwp N gs pre m' ok') : m = m' ∧ ok = ok' := by
  rcases h with ⟨rfl, a⟩ | ⟨rfl, rfl, a⟩ <;> rcases h' with ⟨rfl, b⟩ | ⟨rfl, rfl, b⟩
  · exact ⟨a.uniq h1 h2 hg b, rfl⟩
  · exact absurd b (a.has hl)
  · exact absurd a (b.has hl)
  · exact ⟨rfl, rfl⟩
/-- m keeps to it in its first k entries. -/
def GrTo (N : Nat) (gs : List (List Int)) (pre m : List Int) (k : Nat) : Prop :=
  Mb gs N m ∧ ∀ i, i < k → (i < pre.length → (nx m i : Int) = pre.getD i 0) ∧ (pre.length ≤ i → ∀ q, Mb gs N q → (∀ t, t < i → nx q t = nx m t) → nx m i ≤ nx q i)
/-- The entries that level i allows are those of the members that agree before. -/
theorem Whole.choice {c : Ch} (h : Whole N gs c) (h1 : 1 ≤ N) (h2 : N ≤ 20) (hg : ∀ g ∈ gs, Pn N g) {i : Nat} (hi : i < N) (hm : Mb gs N m) {v : Int} : v ∈ chL c i m N ↔ ∃ q, Mb gs N q ∧ (∀ t, t < i → nx q t = nx m t) ∧ (nx q i : Int) = v := by
  have hp := hm.pn hg h1 h2
  rw [chL_mem]
  constructor
  · rintro ⟨y, hy, hr, rfl⟩
    obtain ⟨a, b, d, _⟩ := h.rep_mb h1 h2 hi hr
    have hr' := a.pn hg h1 h2
    refine ⟨compL (c.rep i y) m, a.comp hg h1 h2 hm, fun t ht => ?_, ?_⟩
    · rw [hr'.nxc (by omega), b t ht]
    · rw [hr'.nxc hi, d]
  · rintro ⟨q, hq, ha, rfl⟩
    have hq' := hq.pn hg h1 h2
    have hmi := hp.iv
    refine ⟨nx (iv m) (nx q i), hmi.lt (hq'.lt hi), (h.rep_iff h1 h2 hi).2 ⟨compL q (iv m), hq.comp hg h1 h2 (hm.inv hg h1 h2), fun t ht => ?_, ?_⟩, ?_⟩
    · rw [hq'.nxc (by omega), ha t ht, hp.nxi (by omega)]
    · rw [hq'.nxc hi]
    · rw [hp.nxi' (hq'.lt hi)]
theorem GrTo.step {c : Ch} {k : Nat} (h : GrTo N gs pre m k) (hw : Whole N gs c) (h1 : 1 ≤ N) (h2 : N ≤ 20) (hg : ∀ g ∈ gs, Pn N g) (hk : k < N) {y : Nat} (hr : c.rep k y ≠ []) (hv : (k < pre.length → (nx m y : Int) = pre.getD k 0) ∧ (pre.length ≤ k → ∀ v ∈ chL c k m N, (nx m y : Int) ≤ v)) : GrTo N gs pre (compL (c.rep k y) m) (k + 1) := by
  obtain ⟨a, b, d, _⟩ := hw.rep_mb h1 h2 hk hr
  have hr' := a.pn hg h1 h2
  have e : ∀ t, t < k → nx (compL (c.rep k y) m) t = nx m t := fun t ht => by rw [hr'.nxc (by omega), b t ht]
  have e2 : nx (compL (c.rep k y) m) k = nx m y := by rw [hr'.nxc hk, d]
  refine ⟨a.comp hg h1 h2 h.1, fun i hi => ?_⟩
  rcases Nat.lt_or_ge i k with hl | hl
  · rw [e i hl]
    exact ⟨(h.2 i hl).1, fun hp q hq hag => (h.2 i hl).2 hp q hq fun t ht => (hag t ht).trans (e t (by omega))⟩
  · obtain rfl : i = k := by omega
    rw [e2]
    refine ⟨hv.1, fun hp q hq hag => ?_⟩
    have := hv.2 hp (nx q i : Int) ((hw.choice h1 h2 hg hk h.1).2 ⟨q, hq, fun t ht => (hag t ht).trans (e t ht), rfl⟩)
    omega
theorem GrTo.no {c : Ch} {k : Nat} (h : GrTo N gs pre m k) (hw : Whole N gs c) (h1 : 1 ≤ N) (h2 : N ≤ 20) (hg : ∀ g ∈ gs, Pn N g) (hk : k < N) (hl : k < pre.length) (hn : pre.getD k 0 ∉ chL c k m N) : NoMem N gs pre := fun q hq hag =>
  hn ((hw.choice h1 h2 hg hk h.1).2 ⟨q, hq, fun t ht => by
    have a := hag t (by omega)
    have b := (h.2 t ht).1 (by omega)
    omega, hag k hl⟩)
theorem hasB_in (xs : List Int) (x : Int) : hasB xs x = decide (x ∈ xs) := by
  unfold hasB
  rw [Bool.eq_iff_iff]
  simp only [decide_eq_true_eq]
  constructor
  · rintro ⟨k, hk, e⟩
    rw [← e, List.getD_eq_getElem?_getD, List.getElem?_eq_getElem hk]; exact List.getElem_mem _
  · intro h
    obtain ⟨k, hk, e⟩ := List.mem_iff_getElem.1 h
    exact ⟨k, hk, by rw [List.getD_eq_getElem?_getD, List.getElem?_eq_getElem hk, ← e]; rfl⟩
end

end Go.Proofs.Ytoaaoikmkomofaa

/- GroupOrder, OrbitSizes, IsMember and MemberWithPrefix of the model: what they answer. Conditions: at most 1048576 lists of at most 1048576 numbers. -/
namespace Go.Proofs.Ytoaaoikmkomofaa
open Go.RowKit

/-- What GroupOrder answers. -/
def IsOrd (a : Int) (gs : List (List Int)) (v : Int) : Prop := (gB a gs = true ∧ ∃ xs, IsOS a.toNat gs xs ∧ v = prodL xs) ∨ (gB a gs = false ∧ v = 0)
theorem IsOrd.uniq {a v v' : Int} {gs : List (List Int)} (h : IsOrd a gs v) (h' : IsOrd a gs v') : v = v' := by
  rcases h with ⟨e, xs, h, rfl⟩ | ⟨e, rfl⟩ <;> rcases h' with ⟨e', ys, h', rfl⟩ | ⟨e', rfl⟩
  · rw [h.uniq h']
  · rw [e] at e'; cases e'
  · rw [e] at e'; cases e'
  · rfl
/-- What OrbitSizes answers. -/
def IsSiz (a : Int) (gs : List (List Int)) (xs : List Int) : Prop := (gB a gs = true ∧ IsOS a.toNat gs xs) ∨ (gB a gs = false ∧ xs = [])
theorem IsSiz.uniq {a : Int} {gs : List (List Int)} {xs ys : List Int} (h : IsSiz a gs xs) (h' : IsSiz a gs ys) : xs = ys := by
  rcases h with ⟨e, h⟩ | ⟨e, rfl⟩ <;> rcases h' with ⟨e', h'⟩ | ⟨e', rfl⟩
  · exact h.uniq h'
  · rw [e] at e'; cases e'
  · rw [e] at e'; cases e'
  · rfl
theorem IsSiz.len {a : Int} {gs : List (List Int)} {xs : List Int} (h : IsSiz a gs xs) : xs.length ≤ 20 := by
  rcases h with ⟨e, h⟩ | ⟨e, rfl⟩
  · obtain ⟨N, rfl, _, hN, _⟩ := gB_pm e
    rw [h.1]; simpa using hN
  · simp
/-- p is a member. -/
def Memb (a : Int) (gs : List (List Int)) (p : List Int) : Prop := gB a gs = true ∧ (p.length : Int) = a ∧ isP p = true ∧ Mb gs a.toNat p
theorem memb_uniq {a : Int} {gs : List (List Int)} {p : List Int} {b b' : Bool} (h : b = true ↔ Memb a gs p) (h' : b' = true ↔ Memb a gs p) : b = b' := by
  rw [Bool.eq_iff_iff, h, h']
/-- What MemberWithPrefix answers. -/
def IsMw (a : Int) (gs : List (List Int)) (pre m : List Int) (ok : Bool) : Prop :=
  (gB a gs = true ∧ (pre.length : Int) ≤ a ∧ IsMwp a.toNat gs pre m ok) ∨ (¬ (gB a gs = true ∧ (pre.length : Int) ≤ a) ∧ m = [] ∧ ok = false)
theorem IsMw.uniq {a : Int} {gs : List (List Int)} {pre m m' : List Int} {ok ok' : Bool} (h : IsMw a gs pre m ok) (h' : IsMw a gs pre m' ok') : m = m' ∧ ok = ok' := by
  rcases h with ⟨e, hl, h⟩ | ⟨e, rfl, rfl⟩ <;> rcases h' with ⟨e', hl', h'⟩ | ⟨e', rfl, rfl⟩
  · obtain ⟨N, rfl, h1, hN, _, _, ok⟩ := gB_pm e
    exact h.uniq (by simpa using h1) (by simpa using hN) (fun g hg => by rw [Int.toNat_natCast]; exact ok g hg) (by simp; omega) h'
  · exact absurd ⟨e, hl⟩ e'
  · exact absurd ⟨e', hl'⟩ e
  · exact ⟨rfl, rfl⟩
theorem IsMwp.len {N : Nat} {gs : List (List Int)} {pre m : List Int} {ok : Bool} (h1 : 1 ≤ N) (h2 : N ≤ 20) (hg : ∀ g ∈ gs, Pn N g) (h : IsMwp N gs pre m ok) : m.length ≤ 20 := by
  rcases h with ⟨_, h⟩ | ⟨_, rfl, _⟩
  · rw [(h.1.pn hg h1 h2).2]; exact h2
  · simp
theorem IsMw.len {a : Int} {gs : List (List Int)} {pre m : List Int} {ok : Bool} (h : IsMw a gs pre m ok) : m.length ≤ 20 := by
  rcases h with ⟨e, hl, h⟩ | ⟨e, rfl, rfl⟩
  · obtain ⟨N, rfl, h1, hN, _, _, ok⟩ := gB_pm e
    rw [Int.toNat_natCast] at h
    exact h.len h1 hN ok
  · simp

section
variable (a : Int) (A : Option Addr) (n c : Nat) (vs : List SV) (xss : List (List Int)) (w : World)
end
end Go.Proofs.Ytoaaoikmkomofaa

/- IsMember, LongestMemberPrefix and SameGroup of the model: what they answer. Conditions: at most 1048576 lists of at most 1048576 numbers. -/
namespace Go.Proofs.Ytoaaoikmkomofaa
open Go.RowKit

/-- p's first k entries are those of a member, and no more of them are. -/
def LmpOK (N : Nat) (gs : List (List Int)) (p : List Int) (k : Nat) : Prop := k ≤ N ∧ (∃ q, Mb gs N q ∧ ∀ t, t < k → nx q t = nx p t) ∧ (k < N → ¬ ∃ q, Mb gs N q ∧ ∀ t, t ≤ k → nx q t = nx p t)
theorem LmpOK.uniq {N k k' : Nat} {gs : List (List Int)} {p : List Int} (h : LmpOK N gs p k) (h' : LmpOK N gs p k') : k = k' := by
  obtain ⟨a, ⟨q, hq, hq2⟩, b⟩ := h
  obtain ⟨a', ⟨q', hq', hq2'⟩, b'⟩ := h'
  rcases Nat.lt_trichotomy k k' with hl | hl | hl
  · exact absurd ⟨q', hq', fun t ht => hq2' t (by omega)⟩ (b (by omega))
  · exact hl
  · exact absurd ⟨q, hq, fun t ht => hq2 t (by omega)⟩ (b' (by omega))
/-- What LongestMemberPrefix answers. -/
def IsLmp (a : Int) (gs : List (List Int)) (p : List Int) (v : Int) : Prop :=
  (gB a gs = true ∧ (p.length : Int) = a ∧ isP p = true ∧ ∃ k : Nat, v = k ∧ LmpOK a.toNat gs p k) ∨ (¬ (gB a gs = true ∧ (p.length : Int) = a ∧ isP p = true) ∧ v = -1)
theorem IsLmp.uniq {a v v' : Int} {gs : List (List Int)} {p : List Int} (h : IsLmp a gs p v) (h' : IsLmp a gs p v') : v = v' := by
  rcases h with ⟨e1, e2, e3, k, rfl, h⟩ | ⟨e, rfl⟩ <;> rcases h' with ⟨e1', e2', e3', k', rfl, h'⟩ | ⟨e', rfl⟩
  · rw [h.uniq h']
  · exact absurd ⟨e1, e2, e3⟩ e'
  · exact absurd ⟨e1', e2', e3'⟩ e
  · rfl
/-- The two lists generate the same group. -/
def SameG (a : Int) (xs ys : List (List Int)) : Prop := gB a xs = true ∧ gB a ys = true ∧ (∀ g ∈ ys, Mb xs a.toNat g) ∧ ∀ g ∈ xs, Mb ys a.toNat g

theorem bool_of (P : Prop) : ∃ b : Bool, b = true ↔ P := by
  rcases Classical.em P with h | h
  · exact ⟨true, fun _ => h, fun _ => rfl⟩
  · exact ⟨false, fun e => (by cases e), fun e => absurd e h⟩
section
variable (a : Int) (A : Option Addr) (n c : Nat) (vs : List SV) (xss : List (List Int)) (w : World)
theorem specIsPB (N : Nat) (xs : List Int) (ans : Bool) (hx : RI w w.heap.size A xs) (lx : Hid (xs.length = n)) (hn : n ≤ 2097152) (hnc : n ≤ c) (ha : Hid (isP xs = ans)) :
    Calls Try.prog 88 #[.slice A n c] w fun e w' => e = .returned (.bool ans) ∧ Below w.heap.size w w' :=
  (quiet_below (specIsP A c n xs w hx lx hn hnc)).mono fun e w' ⟨he, hb⟩ => ⟨he.trans (ret_bool ha.out), hb⟩

end
end Go.Proofs.Ytoaaoikmkomofaa

/- LongestMemberPrefix and StrongGeneratingSet of the model: what they answer. Conditions: at most 1048576 lists of at most 1048576 numbers. -/
namespace Go.Proofs.Ytoaaoikmkomofaa
open Go.RowKit

section
variable (a : Int) (A : Option Addr) (n c : Nat) (vs : List SV) (xss : List (List Int)) (w : World)

/-! ### StrongGeneratingSet -/
end
/-- The prefix for level i and point y. -/
def preOf (pr : Nat × Nat) : List Int := idL pr.1 ++ [(pr.2 : Int)]
/-- The smallest members for a list of levels and points, where there are any. -/
def Sgs (N : Nat) (gs : List (List Int)) : List (Nat × Nat) → List (List Int) → Prop
  | [], l => l = []
  | pr :: ps, l => ∃ m ok rest, IsMwp N gs (preOf pr) m ok ∧ Sgs N gs ps rest ∧ l = (if ok = true then [m] else []) ++ rest
theorem Sgs.snoc {N : Nat} {gs : List (List Int)} {m : List Int} {ok : Bool} {pr : Nat × Nat} (hm : IsMwp N gs (preOf pr) m ok) : ∀ {ps : List (Nat × Nat)} {l : List (List Int)}, Sgs N gs ps l → Sgs N gs (ps ++ [pr]) (l ++ if ok = true then [m] else [])
  | [], l, h => by
    obtain rfl : l = [] := h
    exact ⟨m, ok, [], hm, rfl, by simp⟩
  | p :: ps, l, h => by
    obtain ⟨m', ok', rest, h1, h2, rfl⟩ := h
    exact ⟨m', ok', _, h1, h2.snoc hm, by rw [List.append_assoc]⟩
theorem Sgs.uniq {N : Nat} {gs : List (List Int)} (h1 : 1 ≤ N) (h2 : N ≤ 20) (hg : ∀ g ∈ gs, Pn N g) : ∀ {ps : List (Nat × Nat)} {l l' : List (List Int)}, (∀ pr ∈ ps, pr.1 < N) → Sgs N gs ps l → Sgs N gs ps l' → l = l'
  | [], l, l', _, h, h' => by rw [show l = [] from h, show l' = [] from h']
  | p :: ps, l, l', hp, h, h' => by
    obtain ⟨m, ok, rest, a1, a2, rfl⟩ := h
    obtain ⟨m', ok', rest', b1, b2, rfl⟩ := h'
    have hl : (preOf p).length ≤ N := by
      have := hp p (by simp)
      unfold preOf; rw [List.length_append, idL_length]; simp; omega
    obtain ⟨e1, e2⟩ := a1.uniq h1 h2 hg hl b1
    rw [e1, e2, Sgs.uniq h1 h2 hg (fun pr hpr => hp pr (by simp [hpr])) a2 b2]
theorem Sgs.ok {N : Nat} {gs : List (List Int)} (h1 : 1 ≤ N) (h2 : N ≤ 20) (hg : ∀ g ∈ gs, Pn N g) : ∀ {ps : List (Nat × Nat)} {l : List (List Int)}, Sgs N gs ps l → l.length ≤ ps.length ∧ ∀ y ∈ l, Mb gs N y ∧ y.length = N
  | [], l, h => by rw [show l = [] from h]; simp
  | p :: ps, l, h => by
    obtain ⟨m, ok, rest, a1, a2, rfl⟩ := h
    obtain ⟨b1, b2⟩ := a2.ok h1 h2 hg
    rcases a1 with ⟨rfl, a1⟩ | ⟨rfl, _, _⟩
    · refine ⟨by simp; omega, fun y hy => ?_⟩
      simp at hy
      rcases hy with rfl | hy
      · exact ⟨a1.1, (a1.1.pn hg h1 h2).2⟩
      · exact b2 y hy
    · refine ⟨by simp; omega, fun y hy => b2 y (by simpa using hy)⟩
/-- The levels below k, and the points behind each. -/
def prsI (N i m : Nat) : List (Nat × Nat) := (List.range m).map fun t => (i, i + 1 + t)
def prs (N : Nat) : Nat → List (Nat × Nat)
  | 0 => []
  | k + 1 => prs N k ++ prsI N k (N - (k + 1))
theorem prsI_succ (N i m : Nat) : prsI N i (m + 1) = prsI N i m ++ [(i, i + 1 + m)] := by simp [prsI, List.range_succ]
theorem prs_lt (N : Nat) : ∀ k, k ≤ N → ∀ pr ∈ prs N k, pr.1 < N
  | 0, _, pr, h => by simp [prs] at h
  | k + 1, hk, pr, h => by
    rcases List.mem_append.1 h with h | h
    · exact prs_lt N k (by omega) pr h
    · simp only [prsI, List.mem_map] at h
      obtain ⟨t, _, rfl⟩ := h
      exact hk
theorem prs_len (N : Nat) : ∀ k, (prs N k).length ≤ k * N
  | 0 => by simp [prs]
  | k + 1 => by
    have := prs_len N k
    simp only [prs, prsI, List.length_append, List.length_map, List.length_range, Nat.add_mul, Nat.one_mul]
    omega
/-- What StrongGeneratingSet answers. -/
def IsSgs (a : Int) (gs l : List (List Int)) : Prop := (gB a gs = true ∧ Sgs a.toNat gs (prs a.toNat a.toNat) l) ∨ (gB a gs = false ∧ l = [])
theorem IsSgs.uniq {a : Int} {gs l l' : List (List Int)} (h : IsSgs a gs l) (h' : IsSgs a gs l') : l = l' := by
  rcases h with ⟨e, h⟩ | ⟨e, rfl⟩ <;> rcases h' with ⟨e', h'⟩ | ⟨e', rfl⟩
  · obtain ⟨N, rfl, h1, hN, _, _, ok⟩ := gB_pm e
    rw [Int.toNat_natCast] at h h'
    exact h.uniq h1 hN ok (prs_lt N N (Nat.le_refl _)) h'
  · rw [e] at e'; cases e'
  · rw [e] at e'; cases e'
  · rfl
end Go.Proofs.Ytoaaoikmkomofaa

/- StrongGeneratingSet of the model. Conditions: at most 1048576 lists of at most 1048576 numbers. -/
namespace Go.Proofs.Ytoaaoikmkomofaa
open Go.RowKit

theorem ownsRow_mid {w w' : World} {base n size lo : Nat} {e : TypeId} {v : Value} {xs : List Value} (h : w.ownsRow base e size v n xs) (hm : ∀ k, lo ≤ k → k < w.heap.size → w'.heap[k]? = w.heap[k]?) (hl : lo ≤ base) : w'.ownsRow base e size v n xs := by
  refine ⟨h.1, ?_⟩
  rcases h.2 with h0 | ⟨g, cap, cur, e2, hb, hg, rest⟩
  · exact .inl h0
  · exact .inr ⟨g, cap, cur, e2, hb, by rw [hm g (by omega) (Array.getElem?_eq_some_iff.1 hg).1]; exact hg, rest⟩

end Go.Proofs.Ytoaaoikmkomofaa

/- What StabilizerOrder answers; isPointSet and moveToFront of the model. Conditions: at most 20 points; lists of at most 1048576 numbers. -/
namespace Go.Proofs.Ytoaaoikmkomofaa
open Go.RowKit

/-- A strictly increasing list of points. -/
def PtS (N : Nat) (pts : List Int) : Prop := pts.length ≤ N ∧ ∀ i, i < pts.length → 0 ≤ pts.getD i 0 ∧ pts.getD i 0 < N ∧ (0 < i → pts.getD (i - 1) 0 < pts.getD i 0)
/-- What StabilizerOrder answers: how many members fix the points. -/
def IsStb (a : Int) (gs : List (List Int)) (pts : List Int) (v : Int) : Prop :=
  (gB a gs = true ∧ PtS a.toNat pts ∧ ∃ c : Nat, Crd (fun p => Mb gs a.toNat p ∧ Fxs pts p) c ∧ v = (c : Int)) ∨ (¬ (gB a gs = true ∧ PtS a.toNat pts) ∧ v = 0)
theorem IsStb.uniq {a v v' : Int} {gs : List (List Int)} {pts : List Int} (h : IsStb a gs pts v) (h' : IsStb a gs pts v') : v = v' := by
  rcases h with ⟨e, f, c, hc, rfl⟩ | ⟨e, rfl⟩ <;> rcases h' with ⟨e', f', c', hc', rfl⟩ | ⟨e', rfl⟩
  · rw [hc.uniq hc']
  · exact absurd ⟨e, f⟩ e'
  · exact absurd ⟨e', f'⟩ e
  · rfl
section
variable {N : Nat} {pts : List Int}
theorem PtS.lt (h : PtS N pts) {i : Nat} : ∀ j, i < j → j < pts.length → pts.getD i 0 < pts.getD j 0
  | 0, hij, _ => absurd hij (Nat.not_lt_zero _)
  | j + 1, hij, hj => by
    have h1 := (h.2 (j + 1) hj).2.2 (Nat.succ_pos j)
    rw [Nat.add_sub_cancel] at h1
    by_cases e : i = j
    · rw [e]; exact h1
    · have := h.lt (i := i) j (by omega) (by omega)
      omega
theorem gdx {l : List Int} {i : Nat} (h : i < l.length) : l.getD i 0 = l[i] := by
  rw [List.getD_eq_getElem?_getD, List.getElem?_eq_getElem h]; rfl
theorem PtS.nodup (h : PtS N pts) : pts.Nodup := List.pairwise_iff_getElem.2 fun i j hi hj hij => by
  have := h.lt j hij hj
  rw [gdx hi, gdx hj] at this
  exact fun e => by rw [e] at this; omega
theorem PtS.mem (h : PtS N pts) {x : Int} (hx : x ∈ pts) : 0 ≤ x ∧ x < N := by
  obtain ⟨i, hi, rfl⟩ := List.mem_iff_getElem.1 hx
  have := h.2 i hi
  rw [gdx hi] at this
  exact ⟨this.1, this.2.1⟩
theorem hasB_mem {l : List Int} {x : Int} : hasB l x = true ↔ x ∈ l := by
  unfold hasB
  rw [decide_eq_true_eq, List.mem_iff_getElem]
  exact ⟨fun ⟨j, hj, e⟩ => ⟨j, hj, by rw [← gdx hj, e]⟩, fun ⟨j, hj, e⟩ => ⟨j, hj, by rw [gdx hj, e]⟩⟩
/-- The points in a new order: those of the list, then the others. -/
def mtf (pts : List Int) (k : Nat) : List Int := pts ++ ((List.range k).map Int.ofNat).filter fun x => !hasB pts x
theorem mtf_zero : mtf pts 0 = pts := by simp [mtf]
theorem mtf_yes {k : Nat} (h : hasB pts (k : Int) = true) : mtf pts (k + 1) = mtf pts k := by
  unfold mtf
  rw [List.range_succ, List.map_append, List.filter_append]
  simp [h]
theorem mtf_no {k : Nat} (h : hasB pts (k : Int) = false) : mtf pts (k + 1) = mtf pts k ++ [(k : Int)] := by
  unfold mtf
  rw [List.range_succ, List.map_append, List.filter_append]
  simp [h]
theorem mtf_le (k : Nat) : (mtf pts k).length ≤ pts.length + k := by
  unfold mtf
  rw [List.length_append]
  have := List.length_filter_le (fun x => !hasB pts x) ((List.range k).map Int.ofNat)
  simp at this ⊢; omega
theorem mtf_pre (k : Nat) {j : Nat} (hj : j < pts.length) : (mtf pts k).getD j 0 = pts.getD j 0 := getD_app _ _ _ _ hj
theorem PtS.mtf_mem (h : PtS N pts) (x : Int) : x ∈ mtf pts N ↔ 0 ≤ x ∧ x < N := by
  unfold mtf
  rw [List.mem_append, List.mem_filter, List.mem_map]
  constructor
  · rintro (hx | ⟨⟨i, hi, rfl⟩, _⟩)
    · exact h.mem hx
    · have := List.mem_range.1 hi
      exact ⟨Int.natCast_nonneg _, by show (i : Int) < N; omega⟩
  · rintro ⟨h0, h1⟩
    by_cases hx : x ∈ pts
    · exact .inl hx
    · refine .inr ⟨⟨x.toNat, List.mem_range.2 (by omega), by show ((x.toNat : Nat) : Int) = x; omega⟩, ?_⟩
      rw [Bool.not_eq_true', ← Bool.not_eq_true, hasB_mem]; exact hx
theorem PtS.mtf_nd (h : PtS N pts) : (mtf pts N).Nodup := by
  unfold mtf
  refine List.nodup_append.2 ⟨h.nodup, (nd_mapA List.nodup_range fun x _ y _ e => Int.ofNat.inj e).filter _, fun a ha b hb e => ?_⟩
  subst e
  have h2 := (List.mem_filter.1 hb).2
  rw [Bool.not_eq_true', ← Bool.not_eq_true, hasB_mem] at h2
  exact h2 ha
theorem PtS.mtf_pn (h : PtS N pts) (h1 : 1 ≤ N) (h2 : N ≤ 20) : Pn N (mtf pts N) := by
  have hr : ((List.range N).map Int.ofNat).Nodup := nd_mapA List.nodup_range fun x _ y _ e => Int.ofNat.inj e
  have hl : (mtf pts N).length = N := by
    have a := nd_subA (l := (List.range N).map Int.ofNat) h.mtf_nd fun x hx => by
      have := (h.mtf_mem x).1 hx
      exact List.mem_map.2 ⟨x.toNat, List.mem_range.2 (by omega), by show ((x.toNat : Nat) : Int) = x; omega⟩
    have b := nd_subA (l := mtf pts N) hr fun x hx => by
      obtain ⟨i, hi, rfl⟩ := List.mem_map.1 hx
      have := List.mem_range.1 hi
      exact (h.mtf_mem _).2 ⟨Int.natCast_nonneg _, by show (i : Int) < N; omega⟩
    simp at a b; omega
  have hm : ∀ i, i < (mtf pts N).length → 0 ≤ (mtf pts N).getD i 0 ∧ (mtf pts N).getD i 0 < N := fun i hi => by
    rw [gdx hi]; exact (h.mtf_mem _).1 (List.getElem_mem hi)
  refine ⟨⟨by omega, by omega, fun i hi => (hm i hi).1, fun i hi => by have := (hm i hi).2; omega, fun i j hi hj e => ?_⟩, hl⟩
  rw [gdx hi, gdx hj] at e
  have hp := List.pairwise_iff_getElem.1 h.mtf_nd
  rcases Nat.lt_trichotomy i j with hl | hl | hl
  · exact absurd e (hp i j hi hj hl)
  · exact hl
  · exact absurd e.symm (hp j i hj hi hl)
end

/-- append of nothing. -/
theorem wpList_app0 {w : World} {ops : Array Oper} {rest : List Oper} {o : Oper} {a : Act} {Q : Exit → Act → World → Prop} (hgd : o.guard = none) (s x : Operand)
    (ho : o.op = .call { callee := .builtin .append, args := #[s, x], argTypes := #[25, 25] })
    (b : Option Addr) (sl sc : Nat) (hle : sl ≤ sc) (hs : a.eval s = .slice b sl sc) (A : Option Addr) (c : Nat) (hx : a.eval x = .slice A 0 c)
    (h : wpList Try.prog ops Q rest (a.put o.dst (.slice b sl sc)) w) : wpList Try.prog ops Q (o :: rest) a w := by
  obtain ⟨i0, hi, hz0, hz1, hz2⟩ := info_parts infoI
  refine wpList_plain hgd fun _ hK => ?_
  have hr := run_append_nothing (P := Try.prog) w 25 25 o.type 2 i0 Try.underlying25 hi b sl sc hle (.slice A 0 c)
    ⟨.inl ⟨_, Try.underlying25⟩, fun w' => by cases A <;> rfl, by cases A <;> simp [Builtin.firstCells, loadCells, loadCellsFrom], by cases A <;> simp [Builtin.firstCells, loadCells, loadCellsFrom], by simp, fun u hu => by cases hu⟩
  unfold Oper.wp execOp
  simp only [ho, resolve, invoke, builtin, Sem.run_bind, Sem.run_pure, Result.andThen_ok, List.map_toArray, List.map_cons, List.map_nil, hs, hx, hr]
  exact hK _ _ h

/-- copyInts of whatever can be read. -/
theorem copyAny (A : Option Addr) (n c : Nat) (xs : List Int) (w : World) (h : RI w w.heap.size A xs) (lx : Hid (xs.length = n)) (hn : n ≤ 1000000) :
    Calls Try.prog 106 #[.slice A n c] w fun e w' => ∃ A' c', e = .returned (.slice A' n c') ∧ Slc w' w.heap.size A' n c' xs ∧ Below w.heap.size w w' := by
  by_cases h0 : 0 < n
  · obtain ⟨b, off, rfl, hb, hc⟩ := h (by rw [lx.out]; exact h0)
    exact copyRI b off n c xs w h lx.out hn
  · obtain rfl : n = 0 := by omega
    obtain rfl : xs = [] := List.length_eq_zero_iff.1 lx.out
    have H0 := Lib.hid (Slc.lit0 w w.heap.size (Nat.le_refl _))
    have B0 : Hid (Below w.heap.size w (w.alloc (.cells #[] 2))) := Lib.hid ((Below.refl _ w).alloc (Nat.le_refl _) _)
    clear h lx
    go_enter Try.func106, Try.ntmps106
    go_wp2_with (first | (at_builtin; refine wpList_app0 rfl _ _ rfl _ 0 0 (Nat.le_refl _) rfl A c rfl ?_))
    go_ret
    exact ⟨_, _, rfl, H0.out, B0.out⟩



end Go.Proofs.Ytoaaoikmkomofaa

/- StabilizerOrder of the model. Conditions: at most 1048576 lists of at most 1048576 numbers. -/
namespace Go.Proofs.Ytoaaoikmkomofaa
open Go.RowKit

theorem Whole.pr_le {N : Nat} {gs : List (List Int)} {c : Ch} (h : Whole N gs c) (h1 : 1 ≤ N) (k : Nat) : ∀ m, k + m ≤ N → 1 ≤ pr (osL N c N) k m ∧ pr (osL N c N) k m ≤ (facts N (k + m) : Int)
  | 0, hm => by
    have := facts_pos (N := N) (m := k) (by omega)
    exact ⟨Int.le_refl _, by show (1 : Int) ≤ (facts N (k + 0) : Int); rw [Nat.add_zero]; omega⟩
  | m + 1, hm => by
    obtain ⟨a, b⟩ := h.pr_le h1 k m (by omega)
    obtain ⟨d, e⟩ := h.nr_pos h1 (i := k + m) (by omega)
    have ex : pr (osL N c N) k (m + 1) = pr (osL N c N) k m * (nr N c (k + m) N : Int) := by
      show _ * (osL N c N).getD (k + m) 0 = _
      rw [osL_at (by omega)]
    rw [ex]
    refine ⟨?_, ?_⟩
    · have := Int.mul_le_mul a (show (1 : Int) ≤ (nr N c (k + m) N : Int) by omega) (by omega) (by omega)
      simpa using this
    · have := Int.mul_le_mul b (show (nr N c (k + m) N : Int) ≤ ((N - (k + m) : Nat) : Int) by omega) (by omega) (by omega)
      show _ ≤ ((facts N (k + m) * (N - (k + m)) : Nat) : Int)
      rw [Int.natCast_mul]; exact this
theorem take_cj {gs : List (List Int)} {o : List Int} {k : Nat} {y : List Int} (hk : k < gs.length) (ey : gs.getD k [] = y) : (gs.take (k + 1)).map (cj o) = (gs.take k).map (cj o) ++ [cj o y] := by
  rw [List.getD_eq_getElem?_getD, List.getElem?_eq_getElem hk] at ey
  have e' : gs[k] = y := ey
  rw [List.take_succ_eq_append_getElem hk, List.map_append, e']; rfl

/-- One slice more on a slice of slices of the call's own. -/
theorem SS.snocV {w w' : World} {base bi n c : Nat} {A : Option Addr} {vs : List SV} {xss : List (List Int)} {A' : Option Addr} {c' : Nat} {d : SV} {ys : List Int} (hss : SS w base bi A n c vs xss) (hys : Slc w bi d.1 d.2.1 d.2.2 ys)
    (hdis : ∀ i, i < n → (sval (vs.getD i sd0)).ownBlock = none ∨ (sval (vs.getD i sd0)).ownBlock ≠ (sval d).ownBlock) (hown : w'.ownsRow base 25 1 (.slice A' (n + 1) c') (n + 1) (vs.map sval ++ [sval d])) (hg : w.grownBy w' (Value.slice A n c).ownBlock) :
    SS w' base bi A' (n + 1) c' (vs ++ [d]) (xss ++ [ys]) := by
  refine ⟨?_, by simp [hss.lv], by simp [hss.lx], fun i hi' => ?_, fun i j hij hj => ?_⟩
  · rw [List.map_append]; exact hown
  · by_cases e : i < n
    · rw [getD_app _ _ _ _ (by rw [hss.lv]; exact e), getD_app _ _ _ _ (by rw [hss.lx]; exact e)]
      exact (hss.row i e).kept hg (apart_types (hss.row i e) hss.own)
    · obtain rfl : i = n := by omega
      rw [getD_snoc _ _ _ _ hss.lv.symm, getD_snoc _ _ _ _ hss.lx.symm]
      exact hys.kept hg (apart_types hys hss.own)
  · rw [getD_app _ _ _ i (by rw [hss.lv]; omega)]
    by_cases e : j < n
    · rw [getD_app _ _ _ j (by rw [hss.lv]; exact e)]; exact hss.dis i j hij e
    · obtain rfl : j = n := by omega
      rw [getD_snoc _ _ _ _ hss.lv.symm]
      exact hdis i hij
end Go.Proofs.Ytoaaoikmkomofaa

/- What the functions of chapter 4 answer, and that the model's do. No condition. -/
namespace Go.Proofs.Ytoaaoikmkomofaa
open Go.RowKit

def IsMem (a : Int) (gs : List (List Int)) (p : List Int) (b : Bool) : Prop := b = true ↔ Memb a gs p
def IsSam (a : Int) (xs ys : List (List Int)) (b : Bool) : Prop := b = true ↔ SameG a xs ys
theorem IsMem.uniq {a : Int} {gs : List (List Int)} {p : List Int} {b b' : Bool} (h : IsMem a gs p b) (h' : IsMem a gs p b') : b = b' := memb_uniq h h'
theorem IsSam.uniq {a : Int} {xs ys : List (List Int)} {b b' : Bool} (h : IsSam a xs ys b) (h' : IsSam a xs ys b') : b = b' := by
  unfold IsSam at h h'; rw [Bool.eq_iff_iff, h, h']
theorem boundSgs {a : Int} {gs l : List (List Int)} (h : IsSgs a gs l) : l.length ≤ 1048576 ∧ (∀ i, i < l.length → (l.getD i []).length ≤ 1048576) ∧ sumL l ≤ 1048576 := by
  rcases h with ⟨e, h⟩ | ⟨e, rfl⟩
  · obtain ⟨N, rfl, h1, hN, _, _, ok⟩ := gB_pm e
    rw [Int.toNat_natCast] at h
    obtain ⟨a1, a2⟩ := h.ok h1 hN ok
    have a3 := prs_len N N
    have a4 : N * N ≤ 20 * 20 := Nat.mul_le_mul hN hN
    exact bound_all (m := 400) (k := 20) (by omega) (fun y hy => by rw [(a2 y hy).2]; exact hN) (by omega)
  · exact bound_all (m := 0) (k := 0) (Nat.le_refl _) (fun y hy => by cases hy) (by omega)

end Go.Proofs.Ytoaaoikmkomofaa

/- The program's order, OrbitSizes, GroupOrder, IsMember, LongestMemberPrefix. Conditions: at most 1048576 lists of at most 1048576 numbers. -/
namespace Go.Proofs.Ytoaaoikmkomofaa
open Go.RowKit

section
end






end Go.Proofs.Ytoaaoikmkomofaa

/- The program's smallestLike and MemberWithPrefix. Conditions: at most 1048576 lists of at most 1048576 numbers. -/
namespace Go.Proofs.Ytoaaoikmkomofaa
open Go.RowKit


end Go.Proofs.Ytoaaoikmkomofaa

/- The program's containsAll. Conditions: at most 20 points, 8 generators. -/
namespace Go.Proofs.Ytoaaoikmkomofaa
open Go.RowKit

end Go.Proofs.Ytoaaoikmkomofaa

/- The program's StrongGeneratingSet and SameGroup. Conditions: at most 1048576 lists of at most 1048576 numbers. -/
namespace Go.Proofs.Ytoaaoikmkomofaa
open Go.RowKit

/-- As many, and all of them among the others: the same. -/
theorem Crd.same {P Q : List Int → Prop} {v : Nat} (hP : Crd P v) (hQ : Crd Q v) (h : ∀ p, P p → Q p) : ∀ p, Q p → P p := fun p hp => by
  obtain ⟨l, d, m, e⟩ := hP
  obtain ⟨l', d', m', e'⟩ := hQ
  refine (m p).1 ?_
  by_cases hm : p ∈ l
  · exact hm
  · exfalso
    have hnd : (p :: l).Nodup := List.nodup_cons.2 ⟨hm, d⟩
    have := nd_subA hnd fun x hx => by
      rcases List.mem_cons.1 hx with rfl | hx
      · exact (m' _).2 hp
      · exact (m' x).2 (h x ((m x).1 hx))
    simp at this; omega
theorem preOf_at {N k y : Nat} {g : List Int} (hf : Fx k g) (e : nx g k = y) : ∀ i, i < k + 1 → (nx g i : Int) = (preOf (k, y)).getD i 0 := fun i hi => by
  unfold preOf
  rcases Nat.lt_or_ge i k with hl | hl
  · rw [getD_app _ _ _ i (by rw [idL_length]; exact hl), idL_getD hl, hf i hl]
  · obtain rfl : i = k := by omega
    rw [getD_snoc _ _ _ i (by rw [idL_length]), e]
theorem preOf_len (k y : Nat) : (preOf (k, y)).length = k + 1 := by unfold preOf; rw [List.length_append, idL_length]; rfl


end Go.Proofs.Ytoaaoikmkomofaa

/- Support, of the program and of the model, and the program's search for points. Condition: at most 2097152 entries. -/
namespace Go.Proofs.Ytoaaoikmkomofaa
open Go.RowKit

def ptsL (f : Nat → Bool) (k : Nat) : List Int := ((List.range k).filter f).map Int.ofNat
theorem ptsL_yes {f : Nat → Bool} {k : Nat} (h : f k = true) : ptsL f (k + 1) = ptsL f k ++ [(k : Int)] := by simp [ptsL, List.range_succ, List.filter_append, h]
theorem ptsL_no {f : Nat → Bool} {k : Nat} (h : f k = false) : ptsL f (k + 1) = ptsL f k := by simp [ptsL, List.range_succ, List.filter_append, h]
theorem ptsL_le (f : Nat → Bool) (k : Nat) : (ptsL f k).length ≤ k := by
  unfold ptsL; rw [List.length_map]; exact Nat.le_trans (List.length_filter_le _ _) (by simp)
def movesB (p : List Int) (x : Nat) : Bool := p.getD x 0 != (x : Int)
theorem supp_eq (p : List Int) : supp p = ptsL (movesB p) p.length := rfl
def suppL (p : List Int) : List Int := if isP p = true then supp p else []

end Go.Proofs.Ytoaaoikmkomofaa

/- The program's areAscendingPoints, slices.Index, Contains, Grow, Concat and the points of a renumbering. Conditions: at most 20 points; lists of at most 1048576 numbers. -/
namespace Go.Proofs.Ytoaaoikmkomofaa
open Go.RowKit

theorem mtf_pts (pts : List Int) (N : Nat) : mtf pts N = pts ++ ptsL (fun x => !hasB pts (x : Int)) N := by
  unfold mtf ptsL
  rw [List.filter_map]; rfl
theorem cj_iv {N : Nat} {o p : List Int} (ho : Pn N o) : cj (iv o) p = compL (compL o p) (iv o) := by
  unfold cj; rw [ho.iviv]




end Go.Proofs.Ytoaaoikmkomofaa

/- The program's slices.Concat, renumbered and StabilizerOrder. Conditions: at most 1048576 lists of at most 1048576 numbers. -/
namespace Go.Proofs.Ytoaaoikmkomofaa
open Go.RowKit

/-- append of whatever can be read onto a row of the call's own. -/
theorem wpList_appA {w : World} {ops : Array Oper} {rest : List Oper} {o : Oper} {a : Act} {Q : Exit → Act → World → Prop} (hgd : o.guard = none) (s x : Operand)
    (ho : o.op = .call { callee := .builtin .append, args := #[s, x], argTypes := #[25, 25] })
    (base : Nat) (A : Option Addr) (n c : Nat) (xs : List Int) (hs : a.eval s = .slice A n c) (hown : Slc w base A n c xs) (B : Option Addr) (m c2 : Nat) (ys : List Int) (hx : a.eval x = .slice B m c2)
    (hy : RI w w.heap.size B ys) (ly : ys.length = m) (hn : n + m ≤ 1000000000000) (hbase : base ≤ w.heap.size)
    (h : ∀ A' c' w', Slc w' base A' (n + m) c' (xs ++ ys) → w.grownBy w' (Value.slice A n c).ownBlock → wpList Try.prog ops Q rest (a.put o.dst (.slice A' (n + m) c')) w') : wpList Try.prog ops Q (o :: rest) a w := by
  by_cases h0 : m = 0
  · subst h0
    obtain rfl : ys = [] := List.length_eq_zero_iff.1 ly
    have h3 := h A c w (by rw [List.append_nil]; exact hown) (grown_refl _ _)
    exact wpList_app0 hgd s x ho A n c hown.le.1 hs B c2 hx h3
  · obtain ⟨b, off, rfl, _, _⟩ := hy (by omega)
    exact wpList_appN hgd s x ho base A n c xs hs hown b off m c2 ys hx hy ly hn hbase h



end Go.Proofs.Ytoaaoikmkomofaa

/- The model's inverse words and concatenations. Condition: at most 2097152 letters in a word. -/
namespace Go.Proofs.Ytoaaoikmkomofaa
open Go.RowKit

def invF (wd : List Int) : List Int := if vW 8 wd = true then ivW wd else []
def redF (wd : List Int) : List Int := if vW 8 wd = true then redW wd else []
/-- Whether words can be written one after the other, and what they make. -/
def okF (xss : List (List Int)) : Bool := xss.all (vW 8) && decide (xss.flatten.length ≤ 200)
def catF (xss : List (List Int)) : List Int := if okF xss = true then xss.flatten else []
theorem catF_len (xss : List (List Int)) : (catF xss).length ≤ 200 := by
  unfold catF
  split
  · rename_i h
    unfold okF at h
    rw [Bool.and_eq_true, decide_eq_true_eq] at h
    exact h.2
  · simp
theorem okF_bad {xss : List (List Int)} {i : Nat} (hi : i < xss.length) (h : vW 8 (xss.getD i []) = false) : okF xss = false := by
  unfold okF
  have : xss.all (vW 8) = false := by
    rw [List.all_eq_false]
    refine ⟨xss.getD i [], ?_, by rw [h]; simp⟩
    rw [List.getD_eq_getElem?_getD, List.getElem?_eq_getElem hi]; exact List.getElem_mem _
  rw [this, Bool.false_and]
theorem okF_all {xss : List (List Int)} (h : ∀ i, i < xss.length → vW 8 (xss.getD i []) = true) : okF xss = decide (xss.flatten.length ≤ 200) := by
  unfold okF
  have : xss.all (vW 8) = true := by
    rw [List.all_eq_true]
    intro y hy
    obtain ⟨i, hi, rfl⟩ := List.mem_iff_getElem.1 hy
    have := h i hi
    rwa [List.getD_eq_getElem?_getD, List.getElem?_eq_getElem hi] at this
  rw [this, Bool.true_and]
theorem flat_take {xss : List (List Int)} {k : Nat} (hk : k < xss.length) : (xss.take (k + 1)).flatten = (xss.take k).flatten ++ xss.getD k [] := by
  rw [List.take_succ_eq_append_getElem hk, List.flatten_append, List.getD_eq_getElem?_getD, List.getElem?_eq_getElem hk]
  simp
theorem flat_len {xss : List (List Int)} (h : ∀ i, i < xss.length → (xss.getD i []).length ≤ 200) : ∀ k, k ≤ xss.length → (xss.take k).flatten.length ≤ 200 * k
  | 0, _ => by simp
  | k + 1, hk => by
    rw [flat_take hk, List.length_append]
    have h1 := flat_len h k (by omega)
    have h2 := h k hk
    omega

/-- A row that a call's dots make. -/
theorem rrLit (w : World) (t : TypeId) (vs : List SV) (xss : List (List Int)) (hl : xss.length = vs.length) (hr : ∀ j, j < vs.length → RI w w.heap.size (vs.getD j sd0).1 (xss.getD j [])) (hn : ∀ j, j < vs.length → (xss.getD j []).length = (vs.getD j sd0).2.1) (hc : ∀ j, j < vs.length → (vs.getD j sd0).2.1 ≤ (vs.getD j sd0).2.2) :
    RR (w.alloc (.cells (vs.map sval).toArray t)) (w.alloc (.cells (vs.map sval).toArray t)).heap.size (some ⟨w.heap.size, 0, none⟩) vs.length vs xss := by
  refine ⟨rfl, hl, fun _ => ⟨w.heap.size, 0, rfl, by simp, fun j hj => ?_⟩, fun j hj => (hr j hj).up ((Below.refl _ _).alloc (Nat.le_refl _) _), hn, hc⟩
  rw [World.cell?_alloc_at _ _ _ _ rfl, Nat.zero_add, List.getD_eq_getElem?_getD, List.getElem?_eq_getElem hj]
  simp [sval, hj]

theorem specInvertWord (A : Option Addr) (n c : Nat) (wd : List Int) (w : World) (hx : RI w w.heap.size A wd) (lx : Hid (wd.length = n)) (hn : n ≤ 2097152) :
    Calls Try.prog 37 #[.slice A n c] w fun e w' => ∃ A' m c', e = .returned (.slice A' m c') ∧ Slc w' w.heap.size A' m c' (invF wd) ∧ m ≤ 200 ∧ Below w.heap.size w w' := by
  have HX := Lib.hid hx
  clear hx
  rcases hv : vW 8 wd with _ | _
  · have Hv := Lib.hid hv
    have Fin : Hid (invF wd = []) := Lib.hid (by unfold invF; rw [hv]; rfl)
    clear hv
    go_enter Try.func37, Try.ntmps37
    go_wp2_with fail
    refine (specIsWd A n c wd w HX.out lx hn).mono ?_
    rintro e w' ⟨rfl, rfl⟩
    rw [Hv.out]
    go_wp2_with fail
    go_ret
    exact ⟨_, 0, _, rfl, by rw [Fin.out]; exact Slc.lit0 w _ (Nat.le_refl _), by omega, (Below.refl _ _).alloc (Nat.le_refl _) _⟩
  · have Hv := Lib.hid hv
    have h1 := vW_iff.1 hv
    have hn2 : n ≤ 200 := by rw [← lx.out]; exact h1.1
    have Hl : Hid (∀ i, i < n → -8 ≤ wd.getD i 0 ∧ wd.getD i 0 ≤ 8) := Lib.hid fun i hi => by
      have := h1.2 (wd.getD i 0) (by rw [List.getD_eq_getElem?_getD, List.getElem?_eq_getElem (by rw [lx.out]; exact hi)]; exact List.getElem_mem _)
      omega
    have Fin : Hid (invF wd = ivW wd) := Lib.hid (by unfold invF; rw [if_pos hv])
    clear hv h1
    go_enter Try.func37, Try.ntmps37
    go_wp2_with fail
    refine (specIsWd A n c wd w HX.out lx hn).mono ?_
    rintro e w' ⟨rfl, rfl⟩
    rw [Hv.out]
    go_wp2_with fail
    refine (specInvW A n c wd w HX.out lx hn2 Hl).mono ?_
    rintro e w1 ⟨A1, c1, rfl, s1, b1⟩
    have S1 := Lib.hid s1
    have B1 := Lib.hid b1
    clear s1 b1
    go_wp2_with fail
    go_ret
    exact ⟨A1, n, c1, rfl, by rw [Fin.out]; exact S1.out, hn2, B1.out⟩

set_option maxHeartbeats 1600000 in
set_option maxRecDepth 100000 in
/-- concatWords. -/
theorem specConcat (A : Option Addr) (n c : Nat) (vs : List SV) (xss : List (List Int)) (w : World) (hx : RR w w.heap.size A n vs xss) (hn : n ≤ 10) (hl : Hid (∀ i, i < n → (vs.getD i sd0).2.1 ≤ 2097152)) :
    Calls Try.prog 74 #[.slice A n c] w fun e w' => ∃ A' m c', e = .returned (.tuple #[.slice A' m c', .bool (okF xss)]) ∧ Slc w' w.heap.size A' m c' (catF xss) ∧ m ≤ 200 ∧ Below w.heap.size w w' := by
  have HX := Lib.hid hx
  have hlx : Hid (xss.length = n) := Lib.hid hx.lx
  clear hx
  have S0 : Hid (Slc (w.alloc (.cells #[] 2)) w.heap.size (some ⟨w.heap.size, 0, none⟩) 0 0 []) := Lib.hid (Slc.lit0 w _ (Nat.le_refl _))
  have B0 : Hid (Below w.heap.size w (w.alloc (.cells #[] 2))) := Lib.hid ((Below.refl _ _).alloc (Nat.le_refl _) _)
  go_enter Try.func74, Try.ntmps74
  go_wp2_with fail
  go_loopw [4, 5] (fun ov iv wr => ∃ (i k cP : Nat) (P : Option Addr), i ≤ n ∧ iv = .int .i64 (i : Nat) ∧ ov = .slice P k cP ∧ k ≤ 200 * i ∧ Slc wr w.heap.size P k cP ((xss.take i).flatten) ∧ (∀ j, j < i → vW 8 (xss.getD j []) = true) ∧ Below w.heap.size w wr) (fun _ iv _ => n - (intOf iv).toNat)
  case atStart => exact ⟨0, 0, 0, _, Nat.zero_le _, rfl, rfl, by omega, by rw [List.take_zero]; exact S0.out, fun j h => absurd h (Nat.not_lt_zero _), B0.out⟩
  case round =>
    clear S0 B0
    obtain ⟨i, k, cP, P, hi, rfl, rfl, hk, hs, hv, bel⟩ := hrel
    have Sp := Lib.hid hs
    have Hv := Lib.hid hv
    have Be := Lib.hid bel
    have hz := bel.size
    clear hs hv bel
    by_cases hlt : i < n
    · obtain ⟨b, off, A5, l, c5, y, rfl, hb, ev, ey, x5, r5, hy, hlc⟩ := (HX.out.up Be.out).at_ hlt
      have R5 := Lib.hid r5
      have Ly : Hid (y.length = l) := Lib.hid hy
      have Ey := Lib.hid ey
      have hl5 : l ≤ 2097152 := by have := hl.out i hlt; rw [ev] at this; exact this
      have p0 : (0 : Int) ≤ i := by omega
      have p1 : (i : Int) < n := by omega
      clear r5 hy ev ey hb
      rcases hq : vW 8 y with _ | _
      · have Hq := Lib.hid hq
        have Bad : Hid (okF xss = false) := Lib.hid (okF_bad (by rw [hlx.out]; exact hlt) (by rw [Ey.out]; exact hq))
        have Fin : Hid (catF xss = []) := Lib.hid (by unfold catF; rw [Bad.out]; rfl)
        clear hq
        go_wp2_with fail
        refine (specIsWd A5 l c5 y wr R5.out Ly hl5).mono ?_
        rintro e w' ⟨rfl, rfl⟩
        rw [Hq.out]
        go_wp2_with fail
        go_ret2
        exact ⟨_, 0, _, by rw [Bad.out]; try rfl, by rw [Fin.out]; exact (Slc.lit0 wr _ (Nat.le_refl _)).mono hz, by omega, Be.out.alloc hz _⟩
      · have Hq := Lib.hid hq
        have hl2 : l ≤ 200 := by rw [← Ly.out]; exact (vW_iff.1 hq).1
        have Tk : Hid ((xss.take (i + 1)).flatten = (xss.take i).flatten ++ y) := Lib.hid (by rw [flat_take (by rw [hlx.out]; exact hlt), Ey.out])
        clear hq
        go_wp2_with fail
        refine (specIsWd A5 l c5 y wr R5.out Ly hl5).mono ?_
        rintro e w' ⟨rfl, rfl⟩
        rw [Hq.out]
        go_wp2_with (first | (at_builtin; refine wpList_appA rfl _ _ rfl w.heap.size P k cP _ rfl Sp.out A5 l c5 y rfl R5.out Ly.out (by omega) hz ?_; intro P6 c6 w6 s6 g6) | go_in)
        have S6 : Hid (Slc w6 w.heap.size P6 (k + l) c6 ((xss.take (i + 1)).flatten)) := Lib.hid (by rw [Tk.out]; exact s6)
        have B6 : Hid (Below w.heap.size w w6) := Lib.hid (Be.out.grown g6 hz (fun j hj => (Sp.out.lt_ j hj).1))
        clear s6 g6
        go_wp2_with fail
        go_roundw
        case rel => exact ⟨i + 1, k + l, c6, P6, by omega, by go_num, rfl, by omega, S6.out, fun j hj => by
          by_cases e : j = i
          · subst e; rw [Ey.out]; exact Hq.out
          · exact Hv.out j (by omega), B6.out⟩
        case measure => simp [intOf]; omega
    · obtain rfl : i = n := by omega
      have Tk : Hid (xss.take i = xss) := Lib.hid (List.take_of_length_le (by rw [hlx.out]; exact Nat.le_refl _))
      have Lk : Hid (xss.flatten.length = k) := Lib.hid (by have := Sp.out.1; rwa [Tk.out] at this)
      have Ok : Hid (okF xss = decide (k ≤ 200)) := Lib.hid (by rw [okF_all (fun j hj => Hv.out j (by rw [← hlx.out]; exact hj)), Lk.out])
      by_cases h200 : k ≤ 200
      · have d0 : decide ((200 : Int) < (k : Int)) = false := by simp; omega
        have Ok2 : Hid (okF xss = true) := Lib.hid (by rw [Ok.out]; exact decide_eq_true h200)
        have Fin : Hid (Slc wr w.heap.size P k cP (catF xss)) := Lib.hid (by unfold catF; rw [if_pos Ok2.out]; have := Sp.out; rwa [Tk.out] at this)
        go_wp2_with fail
        go_ret2
        exact ⟨P, k, cP, by rw [Ok2.out]; try rfl, Fin.out, h200, Be.out⟩
      · have d0 : decide ((200 : Int) < (k : Int)) = true := by simp; omega
        have Ok2 : Hid (okF xss = false) := Lib.hid (by rw [Ok.out]; exact decide_eq_false h200)
        have Fin : Hid (catF xss = []) := Lib.hid (by unfold catF; rw [Ok2.out]; rfl)
        go_wp2_with fail
        go_ret2
        exact ⟨_, 0, _, by rw [Ok2.out]; try rfl, by rw [Fin.out]; exact (Slc.lit0 wr _ (Nat.le_refl _)).mono hz, by omega, Be.out.alloc hz _⟩
end Go.Proofs.Ytoaaoikmkomofaa

/- The model's free reduction. Condition: at most 200 letters, small ones. -/
namespace Go.Proofs.Ytoaaoikmkomofaa
open Go.RowKit

set_option maxHeartbeats 4000000 in
set_option maxRecDepth 100000 in
/-- freeReduce, at letters that are small. -/
theorem specFreeR (A : Option Addr) (n c : Nat) (wd : List Int) (w : World) (hx : RI w w.heap.size A wd) (lx : Hid (wd.length = n)) (hn : n ≤ 200) (hl : Hid (∀ i, i < n → -8 ≤ wd.getD i 0 ∧ wd.getD i 0 ≤ 8)) :
    Calls Try.prog 70 #[.slice A n c] w fun e w' => ∃ A' m c', e = .returned (.slice A' m c') ∧ Slc w' w.heap.size A' m c' (redW wd) ∧ m ≤ n ∧ Below w.heap.size w w' := by
  have HX := Lib.hid hx
  clear hx
  have S0 : Hid (Slc (w.alloc (.cells #[] 2)) w.heap.size (some ⟨w.heap.size, 0, none⟩) 0 0 []) := Lib.hid (Slc.lit0 w _ (Nat.le_refl _))
  have B0 : Hid (Below w.heap.size w (w.alloc (.cells #[] 2))) := Lib.hid ((Below.refl _ _).alloc (Nat.le_refl _) _)
  go_enter Try.func70, Try.ntmps70
  go_wp2_with fail
  go_loopw [3, 4] (fun ov iv wr => ∃ (i k cP : Nat) (P : Option Addr), i ≤ n ∧ iv = .int .i64 (i : Nat) ∧ ov = .slice P k cP ∧ k ≤ i ∧ Slc wr w.heap.size P k cP (redW (wd.take i)) ∧ Below w.heap.size w wr) (fun _ iv _ => n - (intOf iv).toNat)
  case atStart => exact ⟨0, 0, 0, _, Nat.zero_le _, rfl, rfl, Nat.le_refl _, by rw [List.take_zero]; exact S0.out, B0.out⟩
  case round =>
    clear S0 B0
    obtain ⟨i, k, cP, P, hi, rfl, rfl, hk, hs, bel⟩ := hrel
    have Sp := Lib.hid hs
    have Be := Lib.hid bel
    have hz := bel.size
    clear hs bel
    by_cases hlt : i < n
    · obtain ⟨b, off, rfl, hb, hc⟩ := (HX.out.up Be.out) (by rw [lx.out]; omega)
      have c1 := hc i (by rw [lx.out]; exact hlt)
      obtain ⟨l, el⟩ : ∃ l, wd.getD i 0 = l := ⟨_, rfl⟩
      have hll := hl.out i hlt
      rw [el] at c1 hll
      have Tk : Hid (redW (wd.take (i + 1)) = pshW (redW (wd.take i)) l) := Lib.hid (by rw [redW_take (by rw [lx.out]; exact hlt), el])
      obtain ⟨s, hs⟩ : ∃ s, redW (wd.take i) = s := ⟨_, rfl⟩
      have Es := Lib.hid hs
      have Sq : Hid (Slc wr w.heap.size P k cP s) := Lib.hid (by rw [← hs]; exact Sp.out)
      have Ls : Hid (s.length = k) := Lib.hid Sq.out.1
      have wl : IntKind.i64.wrap (-l) = -l := by rw [IntKind.wrap_i64]; omega
      have p0 : (0 : Int) ≤ i := by omega
      have p1 : (i : Int) < n := by omega
      have hbw : b < wr.heap.size := hb
      have BpD : Hid (∀ q, Below w.heap.size w (wr.drewN q)) := Lib.hid fun q => below_drewN Be.out q
      have SqD : Hid (∀ q, Slc (wr.drewN q) w.heap.size P k cP s) := Lib.hid fun q => Sq.out.drewN q
      clear el hc hs hb Sp
      by_cases hk0 : 0 < k
      · have dk : decide ((0 : Int) < (k : Int)) = true := by simp; omega
        rcases Sq.out.at_ with ⟨_, _, e0, _⟩ | ⟨q, rfl, hq1, hq2⟩
        · omega
        obtain ⟨bq, oq, eq, hbq, hcq⟩ := Sq.out.ri_ (by rw [Ls.out]; exact hk0)
        injection eq with eq; injection eq with eq1 eq2
        subst eq1 eq2
        obtain ⟨K, hK1, hK2⟩ : ∃ K, K < k ∧ k ≤ K + 1 := ⟨k - 1, by omega, by omega⟩
        have hkc : K ≤ cP := by have := Sq.out.le.1; omega
        have hkc2 : (K : Int) ≤ (cP : Int) := by omega
        have c2 := hcq K (by rw [Ls.out]; omega)
        obtain ⟨u, eu⟩ : ∃ u, s.getD K 0 = u := ⟨_, rfl⟩
        rw [eu, Nat.zero_add] at c2
        have wK : IntKind.i64.wrap ((k : Int) - 1) = (K : Int) := by rw [IntKind.wrap_i64]; omega
        have r0 : (0 : Int) ≤ K := by omega
        have r1 : (K : Int) < (k : Int) := by omega
        have Last : Hid (s.getLast? = some u) := Lib.hid (by rw [last_at (List.length_pos_iff.1 (by rw [Ls.out]; omega)), Ls.out, show k - 1 = K by omega, eu])
        clear hcq eu
        by_cases hul : u = -l
        · have de : (u == -l) = true := by simpa using hul
          have Nx : Hid (pshW s l = s.take K) := Lib.hid (by
            unfold pshW
            rw [if_pos (by rw [Last.out, hul]), List.dropLast_eq_take, Ls.out, show k - 1 = K by omega])
          have Sh : Hid (Slc wr w.heap.size (some ⟨q, 0, none⟩) K cP (redW (wd.take (i + 1)))) := Lib.hid (by rw [Tk.out, Es.out, Nx.out]; exact Sq.out.shrink (by omega))
          clear hul
          have ShD : Hid (∀ q', Slc (wr.drewN q') w.heap.size (some ⟨q, 0, none⟩) K cP (redW (wd.take (i + 1)))) := Lib.hid fun q' => Sh.out.drewN q'
          go_wp2_with fail
          go_quiet (fail)
          go_wp2_with fail
          go_roundw
          case rel => exact ⟨i + 1, K, cP, _, by omega, by go_num, rfl, by omega, ShD.out _, BpD.out _⟩
          case measure => simp [intOf]; omega
        · have de : (u == -l) = false := by simpa using hul
          have Nx : Hid (pshW s l = s ++ [l]) := Lib.hid (by
            unfold pshW
            rw [if_neg (by rw [Last.out]; intro e; injection e with e; exact hul e)])
          clear hul
          go_wp2_with fail
          go_quiet (fail)
          obtain ⟨w5, hw5⟩ : ∃ w5, wr.drewN nq = w5 := ⟨_, rfl⟩
          have S5 := SqD.out nq
          have B5 := BpD.out nq
          have c5 : (wr.drewN nq).cell? ⟨b, off + i, none⟩ = some (.int .i64 l) := c1
          rw [hw5] at S5 B5 c5 ⊢
          have Sq5 := Lib.hid S5
          have Bq5 := Lib.hid B5
          have hz5 := B5.size
          clear hw5 S5 B5 c1
          go_wp2_with (first | (at_builtin; refine wpList_app1 rfl _ _ rfl w.heap.size (some ⟨q, 0, none⟩) k cP s rfl (Sq5.out.alloc _) w5.heap.size l rfl (by rw [World.cell?_alloc_at _ _ _ _ rfl]; rfl) (by omega) (by simp; omega) ?_; intro P6 c6 w6 s6 g6) | go_in)
          have S6 : Hid (Slc w6 w.heap.size P6 (k + 1) c6 (redW (wd.take (i + 1)))) := Lib.hid (by rw [Tk.out, Es.out, Nx.out]; exact s6)
          have B6 : Hid (Below w.heap.size w w6) := Lib.hid ((Bq5.out.alloc hz5 _).grown g6 (by simp; omega) (fun j hj => (Sq5.out.lt_ j hj).1))
          clear s6 g6
          go_wp2_with fail
          go_roundw
          case rel => exact ⟨i + 1, k + 1, c6, P6, by omega, by go_num, rfl, by omega, S6.out, B6.out⟩
          case measure => simp [intOf]; omega
      · obtain rfl : k = 0 := by omega
        have dk : decide ((0 : Int) < ((0 : Nat) : Int)) = false := by simp
        have Nx : Hid (pshW s l = s ++ [l]) := Lib.hid (by
          have : s = [] := List.eq_nil_of_length_eq_zero Ls.out
          rw [this]; rfl)
        go_wp2_with fail
        go_quiet (fail)
        obtain ⟨w5, hw5⟩ : ∃ w5, wr.drewN nq = w5 := ⟨_, rfl⟩
        have S5 := SqD.out nq
        have B5 := BpD.out nq
        have c5 : (wr.drewN nq).cell? ⟨b, off + i, none⟩ = some (.int .i64 l) := c1
        rw [hw5] at S5 B5 c5 ⊢
        have Sq5 := Lib.hid S5
        have Bq5 := Lib.hid B5
        have hz5 := B5.size
        clear hw5 S5 B5 c1
        go_wp2_with (first | (at_builtin; refine wpList_app1 rfl _ _ rfl w.heap.size P 0 cP s rfl (Sq5.out.alloc _) w5.heap.size l rfl (by rw [World.cell?_alloc_at _ _ _ _ rfl]; rfl) (by omega) (by simp; omega) ?_; intro P6 c6 w6 s6 g6) | go_in)
        have S6 : Hid (Slc w6 w.heap.size P6 1 c6 (redW (wd.take (i + 1)))) := Lib.hid (by rw [Tk.out, Es.out, Nx.out]; exact s6)
        have B6 : Hid (Below w.heap.size w w6) := Lib.hid ((Bq5.out.alloc hz5 _).grown g6 (by simp; omega) (fun j hj => (Sq5.out.lt_ j hj).1))
        clear s6 g6
        go_wp2_with fail
        go_roundw
        case rel => exact ⟨i + 1, 1, c6, P6, by omega, by go_num, rfl, by omega, S6.out, B6.out⟩
        case measure => simp [intOf]; omega
    · obtain rfl : i = n := by omega
      have Fin : Hid (Slc wr w.heap.size P k cP (redW wd)) := Lib.hid (by have := Sp.out; rwa [List.take_of_length_le (by rw [lx.out]; exact Nat.le_refl _)] at this)
      go_wp2_with fail
      go_ret
      exact ⟨P, k, cP, rfl, Fin.out, hk, Be.out⟩
end Go.Proofs.Ytoaaoikmkomofaa

/- The model's FreeReduce and its word forms. Condition: at most 2097152 letters in a word. -/
namespace Go.Proofs.Ytoaaoikmkomofaa
open Go.RowKit

theorem small_of {wd : List Int} {n : Nat} (hv : vW 8 wd = true) (lx : wd.length = n) : n ≤ 200 ∧ ∀ i, i < n → -8 ≤ wd.getD i 0 ∧ wd.getD i 0 ≤ 8 := by
  have h1 := vW_iff.1 hv
  refine ⟨by rw [← lx]; exact h1.1, fun i hi => ?_⟩
  have := h1.2 (wd.getD i 0) (by rw [List.getD_eq_getElem?_getD, List.getElem?_eq_getElem (by rw [lx]; exact hi)]; exact List.getElem_mem _)
  omega
/-- Two words, three, four. -/
def fF (xss : List (List Int)) (b : Bool) : List (List Int) := if b = true then xss else []
def comF (a b : List Int) : List (List Int) := [a, b, ivW a, ivW b]
def cjgF (a b : List Int) : List (List Int) := [a, b, ivW a]
theorem okF_no {xss : List (List Int)} {y : List Int} (hy : y ∈ xss) (h : vW 8 y = false) : okF xss = false := by
  obtain ⟨i, hi, rfl⟩ := List.mem_iff_getElem.1 hy
  exact okF_bad hi (by rw [List.getD_eq_getElem?_getD, List.getElem?_eq_getElem hi]; exact h)
theorem catF_no {xss : List (List Int)} (h : okF xss = false) : catF xss = [] := by unfold catF; rw [h]; rfl

theorem specFreeReduce (A : Option Addr) (n c : Nat) (wd : List Int) (w : World) (hx : RI w w.heap.size A wd) (lx : Hid (wd.length = n)) (hn : n ≤ 2097152) :
    Calls Try.prog 26 #[.slice A n c] w fun e w' => ∃ A' m c', e = .returned (.slice A' m c') ∧ Slc w' w.heap.size A' m c' (redF wd) ∧ m ≤ 200 ∧ Below w.heap.size w w' := by
  have HX := Lib.hid hx
  clear hx
  rcases hv : vW 8 wd with _ | _
  · have Hv := Lib.hid hv
    have Fin : Hid (redF wd = []) := Lib.hid (by unfold redF; rw [hv]; rfl)
    clear hv
    go_enter Try.func26, Try.ntmps26
    go_wp2_with fail
    refine (specIsWd A n c wd w HX.out lx hn).mono ?_
    rintro e w' ⟨rfl, rfl⟩
    rw [Hv.out]
    go_wp2_with fail
    go_ret
    exact ⟨_, 0, _, rfl, by rw [Fin.out]; exact Slc.lit0 w _ (Nat.le_refl _), by omega, (Below.refl _ _).alloc (Nat.le_refl _) _⟩
  · have Hv := Lib.hid hv
    have hs := small_of hv lx.out
    have hn2 := hs.1
    have Hl := Lib.hid hs.2
    have Fin : Hid (redF wd = redW wd) := Lib.hid (by unfold redF; rw [if_pos hv])
    clear hv hs
    go_enter Try.func26, Try.ntmps26
    go_wp2_with fail
    refine (specIsWd A n c wd w HX.out lx hn).mono ?_
    rintro e w' ⟨rfl, rfl⟩
    rw [Hv.out]
    go_wp2_with fail
    refine (specFreeR A n c wd w HX.out lx hn2 Hl).mono ?_
    rintro e w1 ⟨A1, m, c1, rfl, s1, hm, b1⟩
    have S1 := Lib.hid s1
    have B1 := Lib.hid b1
    clear s1 b1
    go_wp2_with fail
    go_ret
    exact ⟨A1, m, c1, rfl, by rw [Fin.out]; exact S1.out, by omega, B1.out⟩

theorem specConcatWords (A B : Option Addr) (c d n m : Nat) (a b : List Int) (w : World) (hx : RI w w.heap.size A a) (hy : RI w w.heap.size B b) (la : Hid (a.length = n)) (lb : Hid (b.length = m)) (hn : n ≤ 2097152) (hm : m ≤ 2097152) (hc : n ≤ c) (hd : m ≤ d) :
    Calls Try.prog 36 #[.slice A n c, .slice B m d] w fun e w' => ∃ A' n' c', e = .returned (.tuple #[.slice A' n' c', .bool (okF [a, b])]) ∧ Slc w' w.heap.size A' n' c' (catF [a, b]) ∧ n' ≤ 200 ∧ Below w.heap.size w w' := by
  have RL : Hid (RR (w.alloc (.cells #[.slice A n c, .slice B m d] 25)) (w.alloc (.cells #[.slice A n c, .slice B m d] 25)).heap.size (some ⟨w.heap.size, 0, none⟩) 2 [(A, n, c), (B, m, d)] [a, b]) := Lib.hid (rrLit w 25 [(A, n, c), (B, m, d)] [a, b] rfl
    (fun j hj => match j, hj with | 0, _ => hx | 1, _ => hy) (fun j hj => match j, hj with | 0, _ => la.out | 1, _ => lb.out) (fun j hj => match j, hj with | 0, _ => hc | 1, _ => hd))
  have Ll : Hid (∀ i, i < 2 → (([(A, n, c), (B, m, d)] : List SV).getD i sd0).2.1 ≤ 2097152) := Lib.hid fun j hj => match j, hj with | 0, _ => hn | 1, _ => hm
  clear hx hy
  go_enter Try.func36, Try.ntmps36
  go_wp2_with fail
  refine (specConcat _ 2 2 _ _ _ RL.out (by omega) Ll).mono ?_
  rintro e w1 ⟨A1, n1, c1, rfl, s1, h1, b1⟩
  have S1 : Hid (Slc w1 w.heap.size A1 n1 c1 (catF [a, b])) := Lib.hid (s1.mono (by simp))
  have B1 : Hid (Below w.heap.size w w1) := Lib.hid (btr ((Below.refl _ _).alloc (Nat.le_refl _) _) b1)
  clear s1 b1
  go_wp2_with fail
  go_ret2
  exact ⟨A1, n1, c1, rfl, S1.out, h1, B1.out⟩
end Go.Proofs.Ytoaaoikmkomofaa

/- The program's concatenation of words. Condition: at most 2097152 letters in a word, numbers of 64 bits. -/
namespace Go.Proofs.Ytoaaoikmkomofaa
open Go.RowKit

theorem flat_mono {xss : List (List Int)} : ∀ {i : Nat}, i ≤ xss.length → (xss.take i).flatten.length ≤ xss.flatten.length := fun {i} _ => by
  have e : xss.flatten = (xss.take i).flatten ++ (xss.drop i).flatten := by rw [← List.flatten_append, List.take_append_drop]
  rw [e, List.length_append]; omega
theorem okF_long {xss : List (List Int)} {i : Nat} (hi : i ≤ xss.length) (h : 200 < (xss.take i).flatten.length) : okF xss = false := by
  unfold okF
  have := flat_mono hi
  rw [decide_eq_false (by omega), Bool.and_false]

set_option maxHeartbeats 1600000 in
set_option maxRecDepth 100000 in
/-- concatenated. -/
theorem implCat (A : Option Addr) (n c : Nat) (vs : List SV) (xss : List (List Int)) (w : World) (hx : RR w w.heap.size A n vs xss) (hn : n ≤ 1000) (hl : Hid (∀ i, i < n → (vs.getD i sd0).2.1 ≤ 2097152)) (vi : Hid (∀ i, i < n → VI (xss.getD i []))) :
    Calls Try.prog 71 #[.slice A n c] w fun e w' => ∃ A' m c', e = .returned (.tuple #[.slice A' m c', .bool (okF xss)]) ∧ Slc w' w.heap.size A' m c' (catF xss) ∧ m ≤ 200 ∧ Below w.heap.size w w' := by
  have HX := Lib.hid hx
  have hlx : Hid (xss.length = n) := Lib.hid hx.lx
  clear hx
  have S0 : Hid (Slc w w.heap.size none 0 0 []) := Lib.hid Slc.nil_
  go_enter Try.func71, Try.ntmps71
  go_wp2_with fail
  go_loopw [4, 9] (fun ov iv wr => ∃ (i k cP : Nat) (P : Option Addr), i ≤ n ∧ iv = .int .i64 (i : Nat) ∧ ov = .slice P k cP ∧ k ≤ 200 ∧ Slc wr w.heap.size P k cP ((xss.take i).flatten) ∧ (∀ j, j < i → vW 8 (xss.getD j []) = true) ∧ Below w.heap.size w wr) (fun _ iv _ => n - (intOf iv).toNat)
  case atStart => exact ⟨0, 0, 0, _, Nat.zero_le _, rfl, rfl, by omega, by rw [List.take_zero]; exact S0.out, fun j h => absurd h (Nat.not_lt_zero _), Below.refl _ _⟩
  case round =>
    clear S0
    obtain ⟨i, k, cP, P, hi, rfl, rfl, hk, hs, hv, bel⟩ := hrel
    have Sp := Lib.hid hs
    have Hv := Lib.hid hv
    have Be := Lib.hid bel
    have hz := bel.size
    clear hs hv bel
    by_cases hlt : i < n
    · obtain ⟨b, off, A5, l, c5, y, rfl, hb, ev, ey, x5, r5, hy, hlc⟩ := (HX.out.up Be.out).at_ hlt
      have R5 := Lib.hid r5
      have Ly : Hid (y.length = l) := Lib.hid hy
      have Ey := Lib.hid ey
      have Vy : Hid (VI y) := Lib.hid (by rw [← ey]; exact vi.out i hlt)
      have hl5 : l ≤ 2097152 := by have := hl.out i hlt; rw [ev] at this; exact this
      have p0 : (0 : Int) ≤ i := by omega
      have p1 : (i : Int) < n := by omega
      clear r5 hy ev ey hb
      rcases hq : vW 8 y with _ | _
      · have Hq := Lib.hid hq
        have Bad : Hid (okF xss = false) := Lib.hid (okF_bad (by rw [hlx.out]; exact hlt) (by rw [Ey.out]; exact hq))
        have Fin : Hid (catF xss = []) := Lib.hid (by unfold catF; rw [Bad.out]; rfl)
        clear hq
        go_wp2_with fail
        refine (implIsWord A5 l c5 y wr R5.out Ly hl5 Vy).mono ?_
        rintro e w' ⟨rfl, rfl⟩
        rw [Hq.out]
        go_wp2_with fail
        go_ret2
        exact ⟨none, 0, 0, by rw [Bad.out]; try rfl, by rw [Fin.out]; exact Slc.nil_, by omega, Be.out⟩
      · have Hq := Lib.hid hq
        have hl2 : l ≤ 200 := by rw [← Ly.out]; exact (vW_iff.1 hq).1
        have Tk : Hid ((xss.take (i + 1)).flatten = (xss.take i).flatten ++ y) := Lib.hid (by rw [flat_take (by rw [hlx.out]; exact hlt), Ey.out])
        have Lk : Hid ((xss.take i).flatten.length = k) := Lib.hid Sp.out.1
        have wl : IntKind.i64.wrap ((k : Int) + (l : Int)) = ((k + l : Nat) : Int) := by rw [IntKind.wrap_i64]; omega
        clear hq
        by_cases h200 : k + l ≤ 200
        · have d0 : decide ((200 : Int) < ((k + l : Nat) : Int)) = false := by simp; omega
          go_wp2_with fail
          refine (implIsWord A5 l c5 y wr R5.out Ly hl5 Vy).mono ?_
          rintro e w' ⟨rfl, rfl⟩
          rw [Hq.out]
          go_wp2_with (first | (at_builtin; refine wpList_appA rfl _ _ rfl w.heap.size P k cP _ rfl Sp.out A5 l c5 y rfl R5.out Ly.out (by omega) hz ?_; intro P6 c6 w6 s6 g6) | go_in)
          have S6 : Hid (Slc w6 w.heap.size P6 (k + l) c6 ((xss.take (i + 1)).flatten)) := Lib.hid (by rw [Tk.out]; exact s6)
          have B6 : Hid (Below w.heap.size w w6) := Lib.hid (Be.out.grown g6 hz (fun j hj => (Sp.out.lt_ j hj).1))
          clear s6 g6
          go_wp2_with fail
          go_roundw
          case rel => exact ⟨i + 1, k + l, c6, P6, by omega, by go_num, rfl, h200, S6.out, fun j hj => by
            by_cases e : j = i
            · subst e; rw [Ey.out]; exact Hq.out
            · exact Hv.out j (by omega), B6.out⟩
          case measure => simp [intOf]; omega
        · have d0 : decide ((200 : Int) < ((k + l : Nat) : Int)) = true := by simp; omega
          have Bad : Hid (okF xss = false) := Lib.hid (okF_long (i := i + 1) (by rw [hlx.out]; omega) (by rw [Tk.out, List.length_append, Lk.out, Ly.out]; omega))
          have Fin : Hid (catF xss = []) := Lib.hid (by unfold catF; rw [Bad.out]; rfl)
          go_wp2_with fail
          refine (implIsWord A5 l c5 y wr R5.out Ly hl5 Vy).mono ?_
          rintro e w' ⟨rfl, rfl⟩
          rw [Hq.out]
          go_wp2_with fail
          go_ret2
          exact ⟨none, 0, 0, by rw [Bad.out]; try rfl, by rw [Fin.out]; exact Slc.nil_, by omega, Be.out⟩
    · obtain rfl : i = n := by omega
      have Tk : Hid (xss.take i = xss) := Lib.hid (List.take_of_length_le (by rw [hlx.out]; exact Nat.le_refl _))
      have Lk : Hid (xss.flatten.length = k) := Lib.hid (by have := Sp.out.1; rwa [Tk.out] at this)
      have Ok2 : Hid (okF xss = true) := Lib.hid (by rw [okF_all (fun j hj => Hv.out j (by rw [← hlx.out]; exact hj)), Lk.out]; exact decide_eq_true hk)
      have Fin : Hid (Slc wr w.heap.size P k cP (catF xss)) := Lib.hid (by unfold catF; rw [if_pos Ok2.out]; have := Sp.out; rwa [Tk.out] at this)
      go_wp2_with fail
      go_ret2
      exact ⟨P, k, cP, by rw [Ok2.out]; try rfl, Fin.out, hk, Be.out⟩
end Go.Proofs.Ytoaaoikmkomofaa

/- The program's InvertWord. Condition: at most 2097152 letters, numbers of 64 bits. -/
namespace Go.Proofs.Ytoaaoikmkomofaa
open Go.RowKit
attribute [local go_sem] Oper.semAt_some

/-- append of one number onto a row of the call's own, inside a round. -/
theorem wpListIn_appI {F : Fence} {nn : Nat} {w : World} {base n c : Nat} {A : Option Addr} {xs : List Int} {ops : Array Oper} {rest : List Oper} {o : Oper} {a : Act} {Q : Exit → Act → World → Prop} (hgd : o.guard = none) (s x : Operand)
    (ho : o.op = .call { callee := .builtin .append, args := #[s, x], argTypes := #[25, 25] })
    (hs : a.eval s = .slice A n c) (hown : Slc w base A n c xs) (g : Nat) (u : Int) (hx : a.eval x = .slice (some ⟨g, 0, none⟩) 1 1)
    (hcell : w.cell? ⟨g, 0, none⟩ = some (.int .i64 u)) (hn : n ≤ 1000000000) (hbase : base ≤ w.heap.size)
    (h : ∀ A' c' w', Slc w' base A' (n + 1) c' (xs ++ [u]) → w.grownBy w' (Value.slice A n c).ownBlock → wpListIn F nn Try.prog ops Q rest (a.put o.dst (.slice A' (n + 1) c')) w') : wpListIn F nn Try.prog ops Q (o :: rest) a w := by
  obtain ⟨i0, hi, hz0, hz1, hz2⟩ := info_parts infoI
  obtain ⟨hl, ho'⟩ := hown
  subst hl
  refine wpListIn_append_own w hgd s x 25 ho base 2 i0 (.int .i64 0) 1 8 Try.underlying25 hi hz0 hz1 hz2 rfl (by decide) _ xs.length _ hs ho' ⟨g, 0, none⟩ 1 1 [.int .i64 u] hx rfl ?_ ?_ ?_ (by omega) hbase ?_
  · intro j v hj
    match j, hj with
    | 0, hj => simp at hj; subst hj; simpa [Addr.add] using hcell
    | j + 1, hj => simp at hj
  · intro v hv; simp at hv; subst hv; rfl
  · unfold maxLen; omega
  · intro v' w' hown' hg _
    have hO : Own w' base v' (xs ++ [u]) := by
      unfold Own
      rw [List.length_append, List.map_append]
      exact hown'
    obtain ⟨A', c', rfl, hS⟩ := Slc.of_own (n := xs.length + 1) hO (by simp)
    exact h A' c' w' hS hg

theorem ivW_next {wd : List Int} {n i : Nat} (lx : wd.length = n) (hi : i < n) : (ivW wd).take (i + 1) = (ivW wd).take i ++ [-wd.getD (n - 1 - i) 0] := by
  have hkl : i < (ivW wd).length := by rw [ivW_len, lx]; exact hi
  have h1 : (ivW wd).getD i 0 = -wd.getD (n - 1 - i) 0 := by rw [ivW_getD (by rw [lx]; exact hi), lx]
  have h2 : (ivW wd)[i]'hkl = -wd.getD (n - 1 - i) 0 := by rw [← h1, List.getD_eq_getElem?_getD, List.getElem?_eq_getElem hkl]; rfl
  rw [List.take_succ_eq_append_getElem hkl, h2]
/-- A box of another type is not the row. -/
theorem Blk.not_row {w : World} {b base n c : Nat} {S : Option Addr} {cs : Array Value} {xs : List Int} (h : Blk w b 25 cs) (ho : Slc w base S n c xs) : some b ≠ (Value.slice S n c).ownBlock := by
  rcases ho.2.2 with ⟨e, _⟩ | ⟨g', cap', cur', e, hb', hg', _⟩
  · rw [e]; simp [Value.ownBlock]
  · rw [e]
    intro e2
    have e2 : b = g' := by simpa [Value.ownBlock] using e2
    subst e2
    have := (show w.heap[b]? = _ from h).symm.trans hg'
    simp at this

set_option maxHeartbeats 4000000 in
set_option maxRecDepth 100000 in
/-- InvertWord. -/
theorem implInvertWord (A : Option Addr) (n c : Nat) (wd : List Int) (w : World) (hx : RI w w.heap.size A wd) (lx : Hid (wd.length = n)) (hn : n ≤ 2097152) (vi : Hid (VI wd)) :
    Calls Try.prog 22 #[.slice A n c] w fun e w' => ∃ A' m c', e = .returned (.slice A' m c') ∧ Slc w' w.heap.size A' m c' (invF wd) ∧ m ≤ 200 ∧ Below w.heap.size w w' := by
  have HX := Lib.hid hx
  clear hx
  rcases hv : vW 8 wd with _ | _
  · have Hv := Lib.hid hv
    have Fin : Hid (invF wd = []) := Lib.hid (by unfold invF; rw [hv]; rfl)
    clear hv
    go_enter Try.func22, Try.ntmps22
    go_wp2_with fail
    refine (implIsWord A n c wd w HX.out lx hn vi).mono ?_
    rintro e w' ⟨rfl, rfl⟩
    rw [Hv.out]
    go_wp2_with fail
    go_ret
    exact ⟨none, 0, 0, rfl, by rw [Fin.out]; exact Slc.nil_, by omega, Below.refl _ _⟩
  · have Hv := Lib.hid hv
    have hs := small_of hv lx.out
    have hn2 := hs.1
    have Hl := Lib.hid hs.2
    have Fin : Hid (invF wd = ivW wd) := Lib.hid (by unfold invF; rw [if_pos hv])
    clear hv hs
    refine (callsIn_wide (n := 6)).1 ?_
    refine callsIn_of_wp_marks Try.func22 rfl trivial ?_ rfl
    simp only [Try.ntmps22, List.size_toArray, List.length_cons, List.length_nil, Nat.reduceAdd, Nat.reduceSub, Array.replicate_succ, Array.replicate_zero, List.push_toArray, List.append_toArray, List.nil_append, List.cons_append]
    gi_wp2
    refine ⟨trivial, ?_⟩
    refine (callsIn_wide.2 (implIsWord A n c wd w HX.out lx hn vi)).mono ?_
    rintro e w' ⟨rfl, rfl⟩
    rw [Hv.out]
    gi_wp2
    refine ⟨trivial, ?_⟩
    refine (callsIn_wide.2 (implBack A n c _)).mono ?_
    rintro e w' ⟨rfl, rfl⟩
    rw [World.size_alloc]
    obtain ⟨V, hV⟩ : ∃ V, (w.alloc (.cells #[.slice none 0 0] 25)).alloc (.cells #[.slice A n c] 25) = V := ⟨_, rfl⟩
    rw [hV]
    have hz : V.heap.size = w.heap.size + 2 := by rw [← hV]; simp
    have b0 : Blk V w.heap.size 25 #[.slice none 0 0] := by rw [← hV]; exact (Blk.new w _ _).alloc _
    have b1 : Blk V (w.heap.size + 1) 25 #[.slice A n c] := by
      rw [← hV]; have := Blk.new (w.alloc (.cells #[.slice none 0 0] 25)) 25 #[.slice A n c]
      rw [World.size_alloc] at this; exact this
    have bel : Below w.heap.size w V := by rw [← hV]; exact ((Below.refl _ w).alloc (Nat.le_refl _) _).alloc (by simp) _
    have hxV : RI V w.heap.size A wd := HX.out.below bel (Nat.le_refl _)
    have IT := itsBack n c w.heap.size (w.heap.size + 1) A wd V hxV lx hn (by omega) b1
    clear hV hxV
    gi_wp2
    refine rangeB (gf := 91) (lb := #[.pointer (some ⟨w.heap.size + 1, 0, none⟩)]) rfl (enters_of Try.func91 (by kernel_rfl) rfl) IT (fun k hk => ⟨by rcases hk with h | h <;> omega, rfl⟩) (Nat.le_refl _)
      (fun i W => ∃ S c, Blk W w.heap.size 25 #[.slice S i c] ∧ Slc W (V.heap.size + 3) S i c ((ivW wd).take i) ∧ Below w.heap.size w W)
      (fun i A C h hx => by
        obtain ⟨S, c, h1, h2, h3⟩ := h
        exact ⟨S, c, (hx.block _ h1.lt (.inl (by omega))).trans h1, h2.xk hx (fun k e => .inr (by have := (h2.lt_ k e).1; omega)), h3.trans (hx.below (by omega) h3.size)⟩) ⟨none, 0, b0, by simpa using Slc.nil_, bel⟩
      (fun v1 v2 => { tmps := #[.slice A n c, undef, .slice none 0 0, .pointer (some ⟨w.heap.size, 0, none⟩), undef, v2, .slice A n c, .bool true, .bool false, .slice A n c, .func (.func 91) #[] #[.pointer (some ⟨w.heap.size + 1, 0, none⟩)], v1, v2, undef, undef, undef, undef, undef, undef], defers := [] }) ?assign ?body ?done
    case assign =>
      intro l v1 v2 W K hK
      gi_wp2
      exact hK
    case body =>
      rintro l i W1 W2 ⟨R, e, hb, hss, hbl⟩ hlt hsz1 hx
      have hb2 : Blk W2 w.heap.size 25 #[.slice R i e] := (hx.block _ hb.lt (.inl (by omega))).trans hb
      have cc : W2.cell? ⟨w.heap.size, 0, none⟩ = some (.slice R i e) := hb2.cell 0
      have ff := hb2.frozen 0
      have Ss2 := Lib.hid (hss.xk hx (fun k e => .inr (by have := (hss.lt_ k e).1; omega)))
      have Bl2 := Lib.hid (hbl.trans (hx.below (by omega) hbl.size))
      have Hb2 := Lib.hid hb2
      have hz2 := hx.size
      have Nx := Lib.hid (ivW_next lx.out hlt)
      have hll := Hl.out (n - 1 - i) (by omega)
      obtain ⟨u, eu⟩ : ∃ u, wd.getD (n - 1 - i) 0 = u := ⟨_, rfl⟩
      rw [eu] at hll Nx ⊢
      have wu : IntKind.i64.wrap (-u) = -u := by rw [IntKind.wrap_i64]; omega
      have hcell : (W2.alloc (.cells #[.int .i64 (-u)] 2)).cell? ⟨W2.heap.size, 0, none⟩ = some (.int .i64 (-u)) := by rw [World.cell?_alloc_at _ _ _ _ rfl]; rfl
      have Hcell := Lib.hid hcell
      have hzz : V.heap.size + 3 ≤ W2.heap.size + 1 := by omega
      clear hcell hb hss hbl hx hb2 eu
      gi_wp2_with (first
        | (gi_at_builtin; refine wpListIn_appI rfl _ _ rfl rfl (Ss2.out.alloc _) W2.heap.size (-u) rfl Hcell.out (by omega) (by simp; omega) ?_; intro A5 c5 w5 ss5 hg5
           have Ss5 := Lib.hid ss5
           have Hb5 : Hid (Blk w5 w.heap.size 25 #[.slice R i e]) := Lib.hid ((Hb2.out.alloc (.cells #[.int .i64 (-u)] 2)).grown hg5 ((Hb2.out.alloc (.cells #[.int .i64 (-u)] 2)).not_row (Ss2.out.alloc _)))
           have cc5 : w5.cell? ⟨w.heap.size, 0, none⟩ = some (.slice R i e) := Hb5.out.cell 0
           have ff5 := Hb5.out.frozen 0
           have Hg5 := Lib.hid hg5
           clear ss5 hg5))
      have Hb6 := Lib.hid (Hb5.out.set_ 0 (.slice A5 (i + 1) c5))
      have hne : some w.heap.size ≠ (Value.slice A5 (i + 1) c5).ownBlock := Hb5.out.not_row Ss5.out
      have Ss6 : Hid (Slc (w5.setCell ⟨w.heap.size, 0, none⟩ (.slice A5 (i + 1) c5)) (V.heap.size + 3) A5 (i + 1) c5 ((ivW wd).take (i + 1))) := Lib.hid (by
        rw [Nx.out]
        exact Ss5.out.kept (grown_set (grown_refl _ _) 0 _) (.inr fun h => hne h.symm))
      have Bl5 : Hid (Below w.heap.size w w5) := Lib.hid ((Bl2.out.alloc Bl2.out.size _).grown Hg5.out (by have := Bl2.out.size; simp; omega) (fun j hj => by have := (Ss2.out.lt_ j hj).1; omega))
      refine ⟨⟨_, _, Hb6.out, Ss6.out, Bl5.out.setCell (p := ⟨w.heap.size, 0, none⟩) (Nat.le_refl _) _⟩, fun k hk => ?_, ?_⟩
      · have hkl : k ≠ w.heap.size := by
          rcases hk with (hk | hk) | hk <;> omega
        have hkW2 : k < W2.heap.size := by
          rcases hk with (hk | hk) | hk <;> omega
        refine (Below.heap_setCell _ _ _ k hkl).trans ((Hg5.out.block k (by simp; omega) fun e9 => ?_).trans (Below.heap_alloc _ _ _ hkW2))
        have := (Ss2.out.lt_ k e9.symm).1
        rcases hk with (hk | hk) | hk <;> omega
      · have := Hg5.out.size
        simp at this
        simp [World.setCell]; omega
    case done =>
      rintro W ⟨S, c, hb, hss, hbl⟩ hd
      have cc : W.cell? ⟨w.heap.size, 0, none⟩ = some (.slice S n c) := hb.cell 0
      have Hbl := Lib.hid hbl
      have Hss := Lib.hid hss
      clear hbl hss
      gi_wp2
      refine ⟨by simp, .inl ⟨_, _, rfl, run_takeDeferred hd, ?_⟩⟩
      have e1 : (ivW wd).take n = ivW wd := List.take_of_length_le (by rw [ivW_len, lx.out]; exact Nat.le_refl _)
      have hfin := Hss.out.xk (Xk.put W (.deferred none) (b := V.heap.size) (r := V.heap.size) (by omega)) (fun k e => .inr (by have := (Hss.out.lt_ k e).1; omega))
      rw [e1] at hfin
      exact ⟨_, results_tmp rfl _ _ _, _, _, _, rfl, by rw [Fin.out]; exact hfin.mono (by omega), hn2, Hbl.out.grown (grownBy_putObj' W _ _) Hbl.out.size (fun k e => by cases e; omega)⟩
end Go.Proofs.Ytoaaoikmkomofaa

/- The walk of the law FnExactInvertWord: it returns true at every input, and writes nothing that was there. No condition. -/
namespace Go.Proofs.Ytoaaoikmkomofaa
open Go.RowKit

set_option maxHeartbeats 4000000 in
set_option maxRecDepth 100000 in
/-- The law FnExactInvertWord. -/
theorem lawInvertWord (s0A : Option Addr) (s0n s0c : Nat) (s0x : List Int) (w : World) (hs0 : RI w w.heap.size s0A s0x) (ls0 : Hid (s0x.length = s0n)) (vs0 : Hid (VI s0x)) :
    Calls Try.prog 8 #[.slice s0A s0n s0c] w fun e w' => e = .returned (.bool true) ∧ Below w.heap.size w w' := by
  have Hs0 := Lib.hid hs0
  clear hs0
  by_cases hns0 : s0n ≤ 1048576
  · skip
    go_enter Try.func8, Try.ntmps8
    go_wp2_with fail
    refine (toS_any s0A s0c s0n s0x w Hs0.out ls0 (by omega)).mono ?_
    rintro e w1 ⟨A1, c1, rfl, s1, b1⟩
    have B1 : Hid (Below w.heap.size w w1) := Lib.hid b1
    have Fts0_1 := Lib.hid s1
    have Lts0 := Lib.hid s1.lies
    have lets0 := s1.le.1
    clear s1 b1
    go_wp2_with fail
    refine (specInvertWord _ _ _ s0x w1 Fts0_1.out.ri_ ls0 (by omega)).mono ?_
    rintro e w2 ⟨A2, n2, c2, rfl, s2, m2, b2⟩
    have B1_2 : Hid (Below w1.heap.size w1 w2) := Lib.hid b2
    have B2 : Hid (Below w.heap.size w w2) := Lib.hid (btr B1.out b2)
    have Fts0_2 := Lib.hid (Fts0_1.out.up b2)
    clear Fts0_1
    have FW_2 := Lib.hid s2
    have LW := Lib.hid s2.lies
    clear s2 b2
    clear Fts0_2
    go_wp2_with fail
    refine (toS_any s0A s0c s0n s0x w2 (Hs0.out.up B2.out) ls0 (by omega)).mono ?_
    rintro e w3 ⟨A3, c3, rfl, s3, b3⟩
    have B1_3 : Hid (Below w1.heap.size w1 w3) := Lib.hid (btr B1_2.out b3)
    have B2_3 : Hid (Below w2.heap.size w2 w3) := Lib.hid b3
    have B3 : Hid (Below w.heap.size w w3) := Lib.hid (btr B2.out b3)
    have FW_3 := Lib.hid (FW_2.out.up b3)
    clear FW_2
    have Fxs0_3 := Lib.hid s3
    have Lxs0 := Lib.hid s3.lies
    have lexs0 := s3.le.1
    clear s3 b3
    go_wp2_with fail
    refine (implInvertWord _ _ _ s0x w3 Fxs0_3.out.ri_ ls0 (by omega) vs0).mono ?_
    rintro e w4 ⟨A4, n4, c4, rfl, s4, m4, b4⟩
    have B1_4 : Hid (Below w1.heap.size w1 w4) := Lib.hid (btr B1_3.out b4)
    have B2_4 : Hid (Below w2.heap.size w2 w4) := Lib.hid (btr B2_3.out b4)
    have B3_4 : Hid (Below w3.heap.size w3 w4) := Lib.hid b4
    have B4 : Hid (Below w.heap.size w w4) := Lib.hid (btr B3.out b4)
    have FW_4 := Lib.hid (FW_3.out.up b4)
    clear FW_3
    have Fxs0_4 := Lib.hid (Fxs0_3.out.up b4)
    clear Fxs0_3
    have FG_4 := Lib.hid s4
    have LG := Lib.hid s4.lies
    clear s4 b4
    go_wp2_with fail
    refine (eqS_same _ _ A4 A2 n4 c4 n2 c2 w4 FG_4.out FW_4.out (by omega)).mono ?_
    rintro e w5 ⟨rfl, b5⟩
    have B1_5 : Hid (Below w1.heap.size w1 w5) := Lib.hid (btr B1_4.out b5)
    have B2_5 : Hid (Below w2.heap.size w2 w5) := Lib.hid (btr B2_4.out b5)
    have B3_5 : Hid (Below w3.heap.size w3 w5) := Lib.hid (btr B3_4.out b5)
    have B4_5 : Hid (Below w4.heap.size w4 w5) := Lib.hid b5
    have B5 : Hid (Below w.heap.size w w5) := Lib.hid (btr B4.out b5)
    have FW_5 := Lib.hid (FW_4.out.up b5)
    clear FW_4
    have Fxs0_5 := Lib.hid (Fxs0_4.out.up b5)
    clear Fxs0_4
    have FG_5 := Lib.hid (FG_4.out.up b5)
    clear FG_4
    clear b5
    go_wp2_with fail
    refine (toS_any s0A s0c s0n s0x w5 (Hs0.out.up B5.out) ls0 (by omega)).mono ?_
    rintro e w6 ⟨A6, c6, rfl, s6, b6⟩
    have B1_6 : Hid (Below w1.heap.size w1 w6) := Lib.hid (btr B1_5.out b6)
    have B2_6 : Hid (Below w2.heap.size w2 w6) := Lib.hid (btr B2_5.out b6)
    have B3_6 : Hid (Below w3.heap.size w3 w6) := Lib.hid (btr B3_5.out b6)
    have B4_6 : Hid (Below w4.heap.size w4 w6) := Lib.hid (btr B4_5.out b6)
    have B5_6 : Hid (Below w5.heap.size w5 w6) := Lib.hid b6
    have B6 : Hid (Below w.heap.size w w6) := Lib.hid (btr B5.out b6)
    have FW_6 := Lib.hid (FW_5.out.up b6)
    clear FW_5
    have Fxs0_6 := Lib.hid (Fxs0_5.out.up b6)
    clear Fxs0_5
    have FG_6 := Lib.hid (FG_5.out.up b6)
    clear FG_5
    have Fys0_6 := Lib.hid s6
    have Lys0 := Lib.hid s6.lies
    have leys0 := s6.le.1
    clear s6 b6
    go_wp2_with fail
    refine (eqS_same _ _ A3 A6 s0n c3 s0n c6 w6 Fxs0_6.out Fys0_6.out (by omega)).mono ?_
    rintro e w7 ⟨rfl, b7⟩
    have B1_7 : Hid (Below w1.heap.size w1 w7) := Lib.hid (btr B1_6.out b7)
    have B2_7 : Hid (Below w2.heap.size w2 w7) := Lib.hid (btr B2_6.out b7)
    have B3_7 : Hid (Below w3.heap.size w3 w7) := Lib.hid (btr B3_6.out b7)
    have B4_7 : Hid (Below w4.heap.size w4 w7) := Lib.hid (btr B4_6.out b7)
    have B5_7 : Hid (Below w5.heap.size w5 w7) := Lib.hid (btr B5_6.out b7)
    have B6_7 : Hid (Below w6.heap.size w6 w7) := Lib.hid b7
    have B7 : Hid (Below w.heap.size w w7) := Lib.hid (btr B6.out b7)
    have FW_7 := Lib.hid (FW_6.out.up b7)
    clear FW_6
    have Fxs0_7 := Lib.hid (Fxs0_6.out.up b7)
    clear Fxs0_6
    have FG_7 := Lib.hid (FG_6.out.up b7)
    clear FG_6
    have Fys0_7 := Lib.hid (Fys0_6.out.up b7)
    clear Fys0_6
    clear b7
    clear Fys0_7
    go_wp2_with fail
    refine (markK _ (1) _ A3 s0n c3 _ w7 Fxs0_7.out (by omega) (by omega) (by omega)).mono ?_
    rintro e w8 ⟨rfl, s8, g8⟩
    have B8 : Hid (Below w.heap.size w w8) := Lib.hid (B7.out.trans (below_mark g8 Lxs0.out B2.out.size B7.out.size))
    have FW_8 := Lib.hid (FW_7.out.far g8 LW.out Lxs0.out (.inl (Nat.le_refl _)))
    clear FW_7
    have Fxs0_8 := Lib.hid s8
    clear Fxs0_7
    have FG_8 := Lib.hid (FG_7.out.far g8 LG.out Lxs0.out (.inr (Nat.le_refl _)))
    clear FG_7
    clear s8 g8
    go_wp2_with fail
    refine (eqS_same _ _ A4 A2 n4 c4 n2 c2 w8 FG_8.out FW_8.out (by omega)).mono ?_
    rintro e w9 ⟨rfl, b9⟩
    have B9 : Hid (Below w.heap.size w w9) := Lib.hid (btr B8.out b9)
    have FW_9 := Lib.hid (FW_8.out.up b9)
    clear FW_8
    have Fxs0_9 := Lib.hid (Fxs0_8.out.up b9)
    clear Fxs0_8
    have FG_9 := Lib.hid (FG_8.out.up b9)
    clear FG_8
    clear b9
    clear Fxs0_9
    go_wp2_with fail
    refine (markK _ (1) _ A4 n4 c4 _ w9 FG_9.out (by omega) (by omega) (by omega)).mono ?_
    rintro e w10 ⟨rfl, s10, g10⟩
    have B10 : Hid (Below w.heap.size w w10) := Lib.hid (B9.out.trans (below_mark g10 LG.out B3.out.size B9.out.size))
    have FW_10 := Lib.hid (FW_9.out.far g10 LW.out LG.out (.inl (B2_3.out.size)))
    clear FW_9
    have FG_10 := Lib.hid s10
    clear FG_9
    clear s10 g10
    go_wp2_with fail
    refine (held1 _ A4 n4 c4 w10 FG_10.out (by omega)).mono ?_
    rintro e w' ⟨rfl, rfl⟩
    go_wp2_with fail
    refine (toS_any s0A s0c s0n s0x w10 (Hs0.out.up B10.out) ls0 (by omega)).mono ?_
    rintro e w11 ⟨A11, c11, rfl, s11, b11⟩
    have B11 : Hid (Below w.heap.size w w11) := Lib.hid (btr B10.out b11)
    have FW_11 := Lib.hid (FW_10.out.up b11)
    clear FW_10
    have FG_11 := Lib.hid (FG_10.out.up b11)
    clear FG_10
    have Fzs0_11 := Lib.hid s11
    have Lzs0 := Lib.hid s11.lies
    have lezs0 := s11.le.1
    clear s11 b11
    go_wp2_with fail
    refine (implInvertWord _ _ _ s0x w11 Fzs0_11.out.ri_ ls0 (by omega) vs0).mono ?_
    rintro e w12 ⟨A12, n12, c12, rfl, s12, m12, b12⟩
    have B11_12 : Hid (Below w11.heap.size w11 w12) := Lib.hid b12
    have B12 : Hid (Below w.heap.size w w12) := Lib.hid (btr B11.out b12)
    have FW_12 := Lib.hid (FW_11.out.up b12)
    clear FW_11
    have FG_12 := Lib.hid (FG_11.out.up b12)
    clear FG_11
    have Fzs0_12 := Lib.hid (Fzs0_11.out.up b12)
    clear Fzs0_11
    have FH_12 := Lib.hid s12
    have LH := Lib.hid s12.lies
    clear s12 b12
    clear Fzs0_12
    go_wp2_with fail
    refine (eqS_same _ _ A12 A2 n12 c12 n2 c2 w12 FH_12.out FW_12.out (by omega)).mono ?_
    rintro e w13 ⟨rfl, b13⟩
    have B11_13 : Hid (Below w11.heap.size w11 w13) := Lib.hid (btr B11_12.out b13)
    have B12_13 : Hid (Below w12.heap.size w12 w13) := Lib.hid b13
    have B13 : Hid (Below w.heap.size w w13) := Lib.hid (btr B12.out b13)
    have FW_13 := Lib.hid (FW_12.out.up b13)
    clear FW_12
    have FG_13 := Lib.hid (FG_12.out.up b13)
    clear FG_12
    have FH_13 := Lib.hid (FH_12.out.up b13)
    clear FH_12
    clear b13
    go_wp2_with fail
    refine (held1 _ A4 n4 c4 w13 FG_13.out (by omega)).mono ?_
    rintro e w' ⟨rfl, rfl⟩
    go_wp2_with fail
    go_ret
    exact ⟨rfl, B13.out⟩
  · have d1 : decide ((1048576 : Int) < s0n) = true := by simp; omega
    go_enter Try.func8, Try.ntmps8
    go_wp2
    go_ret
    exact ⟨rfl, Below.refl _ _⟩
end Go.Proofs.Ytoaaoikmkomofaa

/- The program's FreeReduce. Condition: at most 2097152 letters, numbers of 64 bits. -/
namespace Go.Proofs.Ytoaaoikmkomofaa
open Go.RowKit

set_option maxHeartbeats 4000000 in
set_option maxRecDepth 100000 in
/-- FreeReduce. -/
theorem implFreeReduce (A : Option Addr) (n c : Nat) (wd : List Int) (w : World) (hx : RI w w.heap.size A wd) (lx : Hid (wd.length = n)) (hn : n ≤ 2097152) (vi : Hid (VI wd)) :
    Calls Try.prog 23 #[.slice A n c] w fun e w' => ∃ A' m c', e = .returned (.slice A' m c') ∧ Slc w' w.heap.size A' m c' (redF wd) ∧ m ≤ 200 ∧ Below w.heap.size w w' := by
  have HX := Lib.hid hx
  clear hx
  rcases hv : vW 8 wd with _ | _
  · have Hv := Lib.hid hv
    have Fin : Hid (redF wd = []) := Lib.hid (by unfold redF; rw [hv]; rfl)
    clear hv
    go_enter Try.func23, Try.ntmps23
    go_wp2_with fail
    refine (implIsWord A n c wd w HX.out lx hn vi).mono ?_
    rintro e w' ⟨rfl, rfl⟩
    rw [Hv.out]
    go_wp2_with fail
    go_ret
    exact ⟨none, 0, 0, rfl, by rw [Fin.out]; exact Slc.nil_, by omega, Below.refl _ _⟩
  · have Hv := Lib.hid hv
    have hs := small_of hv lx.out
    have hn2 := hs.1
    have hl := Lib.hid hs.2
    have Fn : Hid (redF wd = redW wd) := Lib.hid (by unfold redF; rw [if_pos hv])
    clear hv hs
    have S0 : Hid (Slc w w.heap.size none 0 0 []) := Lib.hid Slc.nil_
    go_enter Try.func23, Try.ntmps23
    go_wp2_with fail
    refine (implIsWord A n c wd w HX.out lx hn vi).mono ?_
    rintro e w' ⟨rfl, rfl⟩
    rw [Hv.out]
    go_wp2_with fail
    go_loopw [3, 12] (fun ov iv wr => ∃ (i k cP : Nat) (P : Option Addr), i ≤ n ∧ iv = .int .i64 (i : Nat) ∧ ov = .slice P k cP ∧ k ≤ i ∧ Slc wr w.heap.size P k cP (redW (wd.take i)) ∧ Below w.heap.size w wr) (fun _ iv _ => n - (intOf iv).toNat)
    case atStart => exact ⟨0, 0, 0, _, Nat.zero_le _, rfl, rfl, Nat.le_refl _, by rw [List.take_zero]; exact S0.out, Below.refl _ _⟩
    case round =>
      clear S0
      obtain ⟨i, k, cP, P, hi, rfl, rfl, hk, hs, bel⟩ := hrel
      have Sp := Lib.hid hs
      have Be := Lib.hid bel
      have hz := bel.size
      clear hs bel
      by_cases hlt : i < n
      · obtain ⟨b, off, rfl, hb, hc⟩ := (HX.out.up Be.out) (by rw [lx.out]; omega)
        have c1 := hc i (by rw [lx.out]; exact hlt)
        obtain ⟨l, el⟩ : ∃ l, wd.getD i 0 = l := ⟨_, rfl⟩
        have hll := hl.out i hlt
        rw [el] at c1 hll
        have Tk : Hid (redW (wd.take (i + 1)) = pshW (redW (wd.take i)) l) := Lib.hid (by rw [redW_take (by rw [lx.out]; exact hlt), el])
        obtain ⟨s, hs⟩ : ∃ s, redW (wd.take i) = s := ⟨_, rfl⟩
        have Es := Lib.hid hs
        have Sq : Hid (Slc wr w.heap.size P k cP s) := Lib.hid (by rw [← hs]; exact Sp.out)
        have Ls : Hid (s.length = k) := Lib.hid Sq.out.1
        have wl : IntKind.i64.wrap (-l) = -l := by rw [IntKind.wrap_i64]; omega
        have p0 : (0 : Int) ≤ i := by omega
        have p1 : (i : Int) < n := by omega
        clear el hc hs hb Sp
        by_cases hk0 : 0 < k
        · rcases Sq.out.at_ with ⟨_, _, e0, _⟩ | ⟨q, rfl, hq1, hq2⟩
          · omega
          obtain ⟨bq, oq, eq, hbq, hcq⟩ := Sq.out.ri_ (by rw [Ls.out]; exact hk0)
          injection eq with eq; injection eq with eq1 eq2
          subst eq1 eq2
          obtain ⟨K, hK1, hK2⟩ : ∃ K, K < k ∧ k ≤ K + 1 := ⟨k - 1, by omega, by omega⟩
          have hkc : K ≤ cP := by have := Sq.out.le.1; omega
          have hkc2 : (K : Int) ≤ (cP : Int) := by omega
          have c2 := hcq K (by rw [Ls.out]; omega)
          obtain ⟨u, eu⟩ : ∃ u, s.getD K 0 = u := ⟨_, rfl⟩
          rw [eu, Nat.zero_add] at c2
          have wK : IntKind.i64.wrap ((k : Int) - 1) = (K : Int) := by rw [IntKind.wrap_i64]; omega
          have r0 : (0 : Int) ≤ K := by omega
          have r1 : (K : Int) < (k : Int) := by omega
          have Last : Hid (s.getLast? = some u) := Lib.hid (by rw [last_at (List.length_pos_iff.1 (by rw [Ls.out]; omega)), Ls.out, show k - 1 = K by omega, eu])
          clear hcq eu
          by_cases hul : u = -l
          · have de : (u == -l) = true := by simpa using hul
            have Nx : Hid (pshW s l = s.take K) := Lib.hid (by
              unfold pshW
              rw [if_pos (by rw [Last.out, hul]), List.dropLast_eq_take, Ls.out, show k - 1 = K by omega])
            have Sh : Hid (Slc wr w.heap.size (some ⟨q, 0, none⟩) K cP (redW (wd.take (i + 1)))) := Lib.hid (by rw [Tk.out, Es.out, Nx.out]; exact Sq.out.shrink (by omega))
            clear hul
            go_wp2_with fail
            go_roundw
            case rel => exact ⟨i + 1, K, cP, _, by omega, by go_num, rfl, by omega, Sh.out, Be.out⟩
            case measure => simp [intOf]; omega
          · have de : (u == -l) = false := by simpa using hul
            have Nx : Hid (pshW s l = s ++ [l]) := Lib.hid (by
              unfold pshW
              rw [if_neg (by rw [Last.out]; intro e; injection e with e; exact hul e)])
            clear hul
            go_wp2_with (first | (at_builtin; refine wpList_app1 rfl _ _ rfl w.heap.size (some ⟨q, 0, none⟩) k cP s rfl (Sq.out.alloc _) wr.heap.size l rfl (by rw [World.cell?_alloc_at _ _ _ _ rfl]; rfl) (by omega) (by simp; omega) ?_; intro P6 c6 w6 s6 g6) | go_in)
            have S6 : Hid (Slc w6 w.heap.size P6 (k + 1) c6 (redW (wd.take (i + 1)))) := Lib.hid (by rw [Tk.out, Es.out, Nx.out]; exact s6)
            have B6 : Hid (Below w.heap.size w w6) := Lib.hid ((Be.out.alloc hz _).grown g6 (by simp; omega) (fun j hj => (Sq.out.lt_ j hj).1))
            clear s6 g6
            go_wp2_with fail
            go_roundw
            case rel => exact ⟨i + 1, k + 1, c6, P6, by omega, by go_num, rfl, by omega, S6.out, B6.out⟩
            case measure => simp [intOf]; omega
        · obtain rfl : k = 0 := by omega
          have Nx : Hid (pshW s l = s ++ [l]) := Lib.hid (by
            have : s = [] := List.eq_nil_of_length_eq_zero Ls.out
            rw [this]; rfl)
          have w0 : IntKind.i64.wrap (((0 : Nat) : Int) - 1) = -1 := by rw [IntKind.wrap_i64]; omega
          go_wp2_with (first | (at_builtin; refine wpList_app1 rfl _ _ rfl w.heap.size P 0 cP s rfl (Sq.out.alloc _) wr.heap.size l rfl (by rw [World.cell?_alloc_at _ _ _ _ rfl]; rfl) (by omega) (by simp; omega) ?_; intro P6 c6 w6 s6 g6) | go_in)
          have S6 : Hid (Slc w6 w.heap.size P6 1 c6 (redW (wd.take (i + 1)))) := Lib.hid (by rw [Tk.out, Es.out, Nx.out]; exact s6)
          have B6 : Hid (Below w.heap.size w w6) := Lib.hid ((Be.out.alloc hz _).grown g6 (by simp; omega) (fun j hj => (Sq.out.lt_ j hj).1))
          clear s6 g6
          go_wp2_with fail
          go_roundw
          case rel => exact ⟨i + 1, 1, c6, P6, by omega, by go_num, rfl, by omega, S6.out, B6.out⟩
          case measure => simp [intOf]; omega
      · obtain rfl : i = n := by omega
        have Fin : Hid (Slc wr w.heap.size P k cP (redF wd)) := Lib.hid (by rw [Fn.out]; have := Sp.out; rwa [List.take_of_length_le (by rw [lx.out]; exact Nat.le_refl _)] at this)
        go_wp2_with fail
        go_ret
        exact ⟨P, k, cP, rfl, Fin.out, by omega, Be.out⟩
end Go.Proofs.Ytoaaoikmkomofaa
