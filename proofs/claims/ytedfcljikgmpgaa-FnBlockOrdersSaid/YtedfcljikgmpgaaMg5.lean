/- Part 5 of the texts: PcT, PcU, UfB, UfC, PbA, SpA, Rnk, Cos, Der, RkS, SbS, BlS. No condition of its own: each text tells its own. -/
import Derived.Test.YtedfcljikgmpgaaMg4
import Derived.Test.YtedfcljikgmpgaaMg3
import Derived.Test.YtedfcljikgmpgaaMg1
import Derived.Test.YtedfcljikgmpgaaMg2
import Derived.Lib.AppendZerosOnto
import Derived.Lib.AppendZeros
import Derived.Maps.Own
import Derived.Maps.OwnSet
import Derived.StillTailTactics
import Derived.BigQuiet
set_option linter.unusedVariables false
set_option linter.unusedSimpArgs false

/- The program's areAscendingPoints, slices.Index, Contains, Grow, Concat and the points of a renumbering. Conditions: at most 20 points; lists of at most 1048576 numbers. -/
namespace Go.Proofs.Ytedfcljikgmpgaa
open Go.RowKit

theorem mtf_pts (pts : List Int) (N : Nat) : mtf pts N = pts ++ ptsL (fun x => !hasB pts (x : Int)) N := by
  unfold mtf ptsL
  rw [List.filter_map]; rfl
theorem cj_iv {N : Nat} {o p : List Int} (ho : Pn N o) : cj (iv o) p = compL (compL o p) (iv o) := by
  unfold cj; rw [ho.iviv]

set_option maxHeartbeats 2000000 in
set_option maxRecDepth 100000 in
/-- areAscendingPoints. -/
theorem implAsc (N np cp : Nat) (P : Option Addr) (pts : List Int) (w : World) (hp : RI w w.heap.size P pts) (lp : Hid (pts.length = np)) (h1 : 1 ≤ N) (h2 : N ≤ 20) (hn : np ≤ 1048576) :
    Calls Try.prog 86 #[.int .i64 (N : Nat), .slice P np cp] w fun e w' => ∃ ans, e = .returned (.bool ans) ∧ (ans = true ↔ PtS N pts) ∧ Below w.heap.size w w' := by
  go_enter Try.func86, Try.ntmps86
  go_wp2_with fail
  go_loopw [5, 7, 10] (fun l _ i wr => ∃ (k : Nat) (la : Int), k ≤ np ∧ i = .int .i64 (k : Nat) ∧ l = .int .i64 la ∧ (k : Int) ≤ la + 1 ∧ la < N ∧ (k = 0 → la = -1) ∧ (0 < k → la = pts.getD (k - 1) 0) ∧ (∀ i, i < k → 0 ≤ pts.getD i 0 ∧ pts.getD i 0 < N ∧ (0 < i → pts.getD (i - 1) 0 < pts.getD i 0)) ∧ Below w.heap.size w wr) (fun _ _ i _ => np - (intOf i).toNat)
  case atStart => exact ⟨0, -1, Nat.zero_le _, rfl, rfl, by omega, by omega, fun _ => rfl, fun h => absurd h (by omega), fun _ h => absurd h (Nat.not_lt_zero _), Below.refl _ _⟩
  case round =>
    obtain ⟨k, la, hk, rfl, rfl, hkl, hlN, hl0, hlp, ok, bel⟩ := hrel
    have Ok := Lib.hid ok
    have Bel := Lib.hid bel
    have L0 := Lib.hid hl0
    have Lp := Lib.hid hlp
    have P1 := Lib.hid (hp.up bel)
    have hla : -1 ≤ la := by omega
    clear ok bel hl0 hlp
    by_cases hlt : k < np
    · obtain ⟨b, off, rfl, hb, hc⟩ := P1.out (by rw [lp.out]; omega)
      have c1 := hc k (by rw [lp.out]; omega)
      obtain ⟨x, ex⟩ : ∃ x, pts.getD k 0 = x := ⟨_, rfl⟩
      rw [ex] at c1
      have Ex := Lib.hid ex
      have p1 : (0 : Int) ≤ k := by omega
      have p2 : (k : Int) < np := by omega
      clear ex hc hb
      by_cases hx1 : x ≤ la
      · have d1 : decide (x ≤ la) = true := decide_eq_true hx1
        have Fin : Hid (¬ PtS N pts) := Lib.hid fun h => by
          have a := h.2 k (by rw [lp.out]; exact hlt)
          rw [Ex.out] at a
          by_cases e : k = 0
          · have := L0.out e; omega
          · have b := a.2.2 (by omega)
            rw [← Lp.out (by omega)] at b; omega
        clear hx1
        go_wp2_with fail
        go_ret
        exact ⟨false, rfl, ⟨fun h => (by cases h), fun h => absurd h Fin.out⟩, Bel.out⟩
      · have d1 : decide (x ≤ la) = false := decide_eq_false hx1
        have hx2 : la < x := by omega
        clear hx1
        by_cases hx3 : (N : Int) ≤ x
        · have d2 : decide ((N : Int) ≤ x) = true := decide_eq_true hx3
          have Fin : Hid (¬ PtS N pts) := Lib.hid fun h => by
            have a := h.2 k (by rw [lp.out]; exact hlt)
            rw [Ex.out] at a; omega
          clear hx3
          go_wp2_with fail
          go_ret
          exact ⟨false, rfl, ⟨fun h => (by cases h), fun h => absurd h Fin.out⟩, Bel.out⟩
        · have d2 : decide ((N : Int) ≤ x) = false := decide_eq_false hx3
          have Lt : Hid (la < x ∧ x < N) := Lib.hid ⟨hx2, by omega⟩
          clear hx3 hx2
          go_wp2_with fail
          go_roundw
          case rel => exact ⟨k + 1, x, by omega, by go_num, rfl, by have := Lt.out; omega, Lt.out.2, fun h => absurd h (by omega), fun _ => by rw [Nat.add_sub_cancel]; exact Ex.out.symm, fun i hi => by
            by_cases e : i = k
            · subst e
              rw [Ex.out]
              refine ⟨by have := Lt.out; omega, Lt.out.2, fun h0 => ?_⟩
              rw [← Lp.out h0]; exact Lt.out.1
            · exact Ok.out i (by omega), Bel.out⟩
          case measure => simp [intOf]; omega
    · obtain rfl : k = np := by omega
      have Fin : Hid (PtS N pts) := Lib.hid ⟨by rw [lp.out]; omega, fun i hi => Ok.out i (by rw [← lp.out]; exact hi)⟩
      go_wp2_with fail
      go_ret
      exact ⟨true, rfl, ⟨fun _ => Fin.out, fun _ => rfl⟩, Bel.out⟩



set_option maxHeartbeats 1000000 in
set_option maxRecDepth 100000 in
/-- slices.Grow of nil. -/
theorem growNil (T : Nat) (w : World) (h1 : 1 ≤ T) (h2 : T ≤ 1048576) :
    Calls Try.prog 110 #[.slice none 0 0, .int .i64 (T : Nat)] w fun e w' => ∃ g c', e = .returned (.slice (some ⟨g, 0, none⟩) 0 c') ∧ Slc w' w.heap.size (some ⟨g, 0, none⟩) 0 c' [] ∧ Below w.heap.size w w' := by
  obtain ⟨i0, hi, hz0, hz1, hz2⟩ := info_parts infoI
  have hold : (Builtin.firstCells i0.size 0 (.slice none 0 0)).run Try.prog w.drew = .ok ([] : List Value).toArray w.drew := run_firstCells_none w.drew i0.size 0 0 0
  have hrz : ∀ ty, (Builtin.append_ #[48, 3] ty #[.slice none 0 0, .int .i64 (T : Int)]).run Try.prog w = _ := fun ty =>
    Lib.run_append_grow_zeros w 48 3 ty 2 i0 (.int .i64 0) .i64 .i64 Try.underlying48 Try.underlying3 hi hz0 none 0 0 [] hold T (by omega) (by rw [hz1]; decide) (by omega) (by omega)
      (by rw [hz2]; omega) (by rw [hz2, Nat.zero_add]; exact growslice_fits (by omega) (by omega))
  have hGn : 0 + T ≤ grownCap w (0 + T) 0 2 := grownCap_ge w _ _ _
  have hGm : grownCap w (0 + T) 0 2 ≤ maxLen := grownCap_le_maxLen w _ 0 _ (by unfold maxLen; omega)
  obtain ⟨G, hG⟩ : ∃ G, G = grownCap w (0 + T) 0 2 := ⟨_, rfl⟩
  rw [← hG] at hrz hGn hGm
  obtain ⟨Z, hZ⟩ : ∃ Z, Z = (([] : List Value).toArray ++ Builtin.zeroCells (Value.int .i64 0).cells T ++ Builtin.zeroCells (Value.int .i64 0).cells (G - (0 + T))) := ⟨_, rfl⟩
  rw [← hZ] at hrz
  have hSz : Z.size = G * 1 := by
    have hc : (Value.int .i64 0).cells.size = 1 := rfl
    rw [hZ]
    simp [Builtin.zeroCells, hc]; omega
  have B1 : Hid (Below w.heap.size w (w.drew.alloc (.cells Z 2))) := Lib.hid ((show Below w.heap.size w w.drew from ⟨rfl, rfl, rfl, Nat.le_refl _, fun _ _ => rfl⟩).alloc (Nat.le_refl _) _)
  have S1 : Hid (Slc (w.drew.alloc (.cells Z 2)) w.heap.size (some ⟨w.heap.size, 0, none⟩) 0 G []) := Lib.hid
    ⟨rfl, by simp, .inr ⟨w.heap.size, G, _, rfl, Nat.le_refl _, heap_alloc_new w.drew _, Nat.zero_le _, hGm, hSz, by simp⟩⟩
  have e1 : wrap64 ((T : Int) - 0) = (T : Int) := by unfold wrap64; omega
  have d1 : decide ((T : Int) < 0) = false := by simp
  have d2 : decide ((0 : Int) < (T : Int)) = true := by simp; omega
  have Hrz := Lib.hid hrz
  have hG63 : G ≤ 9223372036854775807 := by unfold maxLen at hGm; omega
  clear hrz hold hG hGm hZ hSz
  go_enter Try.func110, Try.ntmps110
  go_wp2_with (at_builtin; refine Lib.wpList_append_run _ rfl _ _ _ _ rfl _ _ rfl rfl _ _ (Hrz.out _) ?_)
  go_ret
  exact ⟨_, _, rfl, S1.out, B1.out⟩
end Go.Proofs.Ytedfcljikgmpgaa

/- The program's slices.Concat, renumbered and StabilizerOrder. Conditions: at most 1048576 lists of at most 1048576 numbers. -/
namespace Go.Proofs.Ytedfcljikgmpgaa
open Go.RowKit

/-- append of whatever can be read onto a row of the call's own. -/
theorem wpList_appA {w : World} {ops : Array Oper} {rest : List Oper} {o : Oper} {a : Act} {Q : Exit → Act → World → Prop} (hgd : o.guard = none) (s x : Operand)
    (ho : o.op = .call { callee := .builtin .append, args := #[s, x], argTypes := #[48, 48] })
    (base : Nat) (A : Option Addr) (n c : Nat) (xs : List Int) (hs : a.eval s = .slice A n c) (hown : Slc w base A n c xs) (B : Option Addr) (m c2 : Nat) (ys : List Int) (hx : a.eval x = .slice B m c2)
    (hy : RI w w.heap.size B ys) (ly : ys.length = m) (hn : n + m ≤ 1000000000000) (hbase : base ≤ w.heap.size)
    (h : ∀ A' c' w', Slc w' base A' (n + m) c' (xs ++ ys) → w.grownBy w' (Value.slice A n c).ownBlock → wpList Try.prog ops Q rest (a.put o.dst (.slice A' (n + m) c')) w') : wpList Try.prog ops Q (o :: rest) a w := by
  by_cases h0 : m = 0
  · subst h0
    obtain rfl : ys = [] := List.length_eq_zero_iff.1 ly
    have h3 := h A c w (by rw [List.append_nil]; exact hown) (grown_refl _ _)
    exact wpList_app0 hgd s x ho A n c hown.le.1 hs B c2 hx h3
  · obtain ⟨b, off, rfl, _, _⟩ := hy (by omega)
    exact wpList_appN hgd s x ho base A n c xs hs hown b off m c2 ys hx hy ly hn hbase h

set_option maxHeartbeats 4000000 in
set_option maxRecDepth 100000 in
/-- slices.Concat of two lists. -/
theorem implConcat (g np cp m cm : Nat) (P A : Option Addr) (pts ys : List Int) (w : World) (hb : Blk w g 48 #[.slice P np cp, .slice A m cm]) (hp : RI w w.heap.size P pts) (lp : Hid (pts.length = np)) (hy : RI w w.heap.size A ys) (ly : Hid (ys.length = m)) (h1 : 1 ≤ np + m) (h2 : np + m ≤ 1000) :
    Calls Try.prog 88 #[.slice (some ⟨g, 0, none⟩) 2 2] w fun e w' => ∃ A' c', e = .returned (.slice A' (np + m) c') ∧ Slc w' w.heap.size A' (np + m) c' (pts ++ ys) ∧ Below w.heap.size w w' := by
  have HB := Lib.hid hb
  have HP := Lib.hid hp
  have HY := Lib.hid hy
  clear hb hp hy
  go_enter Try.func88, Try.ntmps88
  go_wp2_with fail
  go_loopw [3, 5, 11] (fun s _ i wr => ((i = .int .i64 0 ∧ s = .int .i64 0) ∨ (i = .int .i64 1 ∧ s = .int .i64 (np : Nat)) ∨ (i = .int .i64 2 ∧ s = .int .i64 ((np + m : Nat) : Int))) ∧ w = wr) (fun _ _ i _ => 2 - (intOf i).toNat)
  case atStart => exact ⟨.inl ⟨rfl, rfl⟩, rfl⟩
  case round =>
    obtain ⟨(⟨rfl, rfl⟩ | ⟨rfl, rfl⟩ | ⟨rfl, rfl⟩), rfl⟩ := hrel
    · have c0 : w.cell? ⟨g, 0, none⟩ = some (.slice P np cp) := HB.out.cell 0
      have hw : IntKind.i64.wrap (np : Int) = (np : Int) := by rw [IntKind.wrap_i64]; omega
      have hw2 : IntKind.i64.wrap ((0 : Int) + (np : Int)) = (np : Int) := by rw [IntKind.wrap_i64]; omega
      have d0 : decide ((np : Int) < 0) = false := by simp
      go_wp2_with fail
      go_roundw
      case rel => exact ⟨.inr (.inl ⟨by go_num, rfl⟩), trivial⟩
      case measure => simp [intOf]
    · have c0 : w.cell? ⟨g, 1, none⟩ = some (.slice A m cm) := HB.out.cell 1
      have hw : IntKind.i64.wrap ((np : Int) + (m : Int)) = ((np + m : Nat) : Int) := by rw [IntKind.wrap_i64]; omega
      have d0 : decide (((np + m : Nat) : Int) < 0) = false := by simp; omega
      go_wp2_with fail
      go_roundw
      case rel => exact ⟨.inr (.inr ⟨by go_num, rfl⟩), trivial⟩
      case measure => simp [intOf]
    · go_wp2_with fail
      refine (growNil (np + m) w h1 (by omega)).mono ?_
      rintro e w1 ⟨g1, c1, rfl, s1, b1⟩
      have S1 := Lib.hid s1
      have B1 := Lib.hid b1
      clear s1 b1
      go_wp2_with fail
      go_loopw [6, 8, 27] (fun v _ i wr => ∃ (A1 : Option Addr) (l c1 : Nat) (xs : List Int), ((i = .int .i64 0 ∧ l = 0 ∧ xs = []) ∨ (i = .int .i64 1 ∧ l = np ∧ xs = pts) ∨ (i = .int .i64 2 ∧ l = np + m ∧ xs = pts ++ ys)) ∧ v = .slice A1 l c1 ∧ Slc wr w.heap.size A1 l c1 xs ∧ Below w.heap.size w wr) (fun _ _ i _ => 2 - (intOf i).toNat)
      case atStart => exact ⟨_, _, _, _, .inl ⟨rfl, rfl, rfl⟩, rfl, S1.out, B1.out⟩
      case round =>
        clear S1 B1
        obtain ⟨A1, l, c2, xs, hcase, rfl, hs, bel⟩ := hrel
        have Ss := Lib.hid hs
        have Be := Lib.hid bel
        have Bk := Lib.hid (HB.out.below bel HB.out.lt)
        have P2 := Lib.hid (HP.out.up bel)
        have Y2 := Lib.hid (HY.out.up bel)
        have hz := bel.size
        clear hs bel
        rcases hcase with ⟨rfl, rfl, rfl⟩ | ⟨rfl, rfl, rfl⟩ | ⟨rfl, rfl, rfl⟩
        · have c0 : wr.cell? ⟨g, 0, none⟩ = some (.slice P np cp) := Bk.out.cell 0
          go_wp2_with (first | (at_builtin; refine wpList_appA rfl _ _ rfl w.heap.size A1 0 c2 [] rfl Ss.out P np cp pts rfl P2.out lp.out (by omega) hz ?_; intro A3 c3 w3 s3 g3))
          have S3 : Hid (Slc w3 w.heap.size A3 np c3 pts) := Lib.hid (by simpa using s3)
          have B3 : Hid (Below w.heap.size w w3) := Lib.hid (Be.out.grown g3 hz (fun j hj => (Ss.out.lt_ j hj).1))
          clear s3 g3
          go_wp2_with fail
          go_roundw
          case rel => exact ⟨A3, _, c3, pts, .inr (.inl ⟨by go_num, rfl, rfl⟩), by simp, S3.out, B3.out⟩
          case measure => simp [intOf]
        · have c0 : wr.cell? ⟨g, 1, none⟩ = some (.slice A m cm) := Bk.out.cell 1
          go_wp2_with (first | (at_builtin; refine wpList_appA rfl _ _ rfl w.heap.size A1 l c2 xs rfl Ss.out A m cm ys rfl Y2.out ly.out (by omega) hz ?_; intro A3 c3 w3 s3 g3))
          have S3 := Lib.hid s3
          have B3 : Hid (Below w.heap.size w w3) := Lib.hid (Be.out.grown g3 hz (fun j hj => (Ss.out.lt_ j hj).1))
          clear s3 g3
          go_wp2_with fail
          go_roundw
          case rel => exact ⟨A3, _, c3, _, .inr (.inr ⟨by go_num, rfl, rfl⟩), rfl, S3.out, B3.out⟩
          case measure => simp [intOf]
        · go_wp2_with fail
          go_ret
          exact ⟨_, _, rfl, Ss.out, Be.out⟩


end Go.Proofs.Ytedfcljikgmpgaa

/- unionFind of the program: the links lie in a map; smallest, unite, uniteEach. Conditions: at most 20 points. -/
namespace Go.Proofs.Ytedfcljikgmpgaa
open Go.RowKit

theorem lawI : Maps.Keyed Try.prog 2 := Maps.int_keyed Try.underlying2
/-- The key of x. -/
def kI (x : Nat) : Lit := .int .i64 (x : Int)
theorem wfI {x : Nat} (h : x ≤ 1000) : (Lit.int .i64 (x : Int)).wf = true := WalkArith.wf_i64 (by omega)
theorem keyOf_I {x : Nat} (h : x ≤ 1000) : keyOf Try.prog 2 (.int .i64 (x : Int)) = some (kI x) := Maps.keyOf_int_mk Try.underlying2 (wfI h)
theorem kI_key {x : Nat} (h : x ≤ 1000) : WideAt.IsKeyLit (kI x) := lawI.key (keyOf_I h)
theorem kI_inj {x y : Nat} (h : kI x = kI y) : x = y := by
  unfold kI at h
  injection h with _ h
  omega
theorem ownsMap_tightI {R : Value → Option (DataW Value × List MemPlace)} {w : World} {b n : Nat} {D : DataW Value} (h : w.ownsMap Try.prog 2 R b n D) : w.ownsMap Try.prog 2 R b (Maps.size D) D := by
  obtain ⟨es, clock, hb, F, hs, rfl⟩ := h
  refine ⟨es, clock, hb, F, ?_, rfl⟩
  rw [Maps.size_eq, length_sorted]; simp
theorem hasI_mem {es : List (Lit × DataW Value)} {x : Lit × DataW Value} (hx : x ∈ es) (hk : WideAt.IsKeyLit x.1) : Maps.has (.map es) x.1 = true := by
  rw [Maps.has_eq, List.any_eq_true]
  exact ⟨x, hx, WideAt.sameKey_self hk⟩
theorem sizeI_le {R : Value → Option (DataW Value × List MemPlace)} {w : World} {b n : Nat} {D : DataW Value} (h : w.ownsMap Try.prog 2 R b n D) (ks : List Lit) (hk : ∀ kl, Maps.has D kl = true → kl ∈ ks) : Maps.size D ≤ ks.length := by
  obtain ⟨es, rfl, hd, hl⟩ := h.entries lawI
  rw [Maps.size_eq]
  have h1 : (es.map Prod.fst).Nodup := List.pairwise_map.2 hd
  haveI : DecidableEq Lit := fun a b => Classical.propDecidable (a = b)
  have := nd_subA (l' := es.map Prod.fst) (l := ks) h1 fun x hx => by
    obtain ⟨y, hy, rfl⟩ := List.mem_map.1 hx
    exact hk _ (hasI_mem hy (hl y hy))
  simpa using this
theorem grown_ofBelow {w w' : World} {row : Option Nat} (h : Below w.heap.size w w') : w.grownBy w' row := ⟨h.os, h.tape, h.output, h.size, fun k hk _ => h.block k hk⟩

/-- Block b is the map of the links f. -/
structure UF (w : World) (b N : Nat) (f : Nat → Option Nat) (D : DataW Value) : Prop where
  own : w.ownsMap Try.prog 2 (plainElem Try.prog 2) b (Maps.size D) D
  lk : Lnk N f
  has : ∀ x, x < N → Maps.has D (kI x) = (f x).isSome
  key : ∀ kl, Maps.has D kl = true → ∃ x, x < N ∧ kl = kI x
  at_ : ∀ x y, f x = some y → ∀ zd, D.atKey (kI x) zd = .lit (.int .i64 (y : Int))
section
variable {w w' : World} {b N : Nat} {f : Nat → Option Nat} {D : DataW Value}
theorem UF.lt (h : UF w b N f D) : b < w.heap.size := h.own.lt
theorem UF.size (h : UF w b N f D) : Maps.size D ≤ N := by
  have := sizeI_le h.own ((List.range N).map kI) fun kl hk => by
    obtain ⟨x, hx, rfl⟩ := h.key kl hk
    exact List.mem_map.2 ⟨x, List.mem_range.2 hx, rfl⟩
  simpa using this
theorem UF.kept (h : UF w b N f D) {row : Option Nat} (hg : w.grownBy w' row) (hne : some b ≠ row) : UF w' b N f D := ⟨h.own.kept hg hne, h.lk, h.has, h.key, h.at_⟩
theorem UF.up (h : UF w b N f D) (hb : Below w.heap.size w w') : UF w' b N f D := h.kept (row := none) (grown_ofBelow hb) (by simp)
theorem UF.drewN (h : UF w b N f D) (k : Nat) : UF (w.drewN k) b N f D := h.up (pcDrewBelow w k)
theorem UF.made (w : World) (N : Nat) : UF (w.alloc (.map #[] 0)) w.heap.size N (fun _ => none) (.map []) :=
  ⟨World.ownsMap_made _ _ _ _, lk_empty N, fun _ _ => rfl, fun _ h => (by cases h), fun _ _ h => (by cases h)⟩
theorem UF.noCells (h : UF w b N f D) : ∀ cs t fr, w.heap[b]? ≠ some (.cells cs t fr) := by
  obtain ⟨es, clock, hb, _⟩ := h.own
  intro cs t fr e
  rw [hb] at e
  cases e
theorem UF.put (h : UF w b N f D) {a m n : Nat} (hN : N ≤ 20) (ha : a < N) (hm : m < a) (hg : w'.ownsMap Try.prog 2 (plainElem Try.prog 2) b n (D.put (kI a) (.lit (.int .i64 (m : Int))))) : UF w' b N (lnk f a m) (D.put (kI a) (.lit (.int .i64 (m : Int)))) := by
  have hM := h.own.isMap
  have hk := kI_key (x := a) (by omega)
  refine ⟨ownsMap_tightI hg, h.lk.lnk hm ha, fun x hx => ?_, fun kl hkl => ?_, fun x y hxy zd => ?_⟩
  · unfold lnk
    by_cases e : x = a
    · subst e; rw [if_pos rfl, Maps.has_put_same hM hk]; rfl
    · rw [if_neg e, Maps.has_put_other (fun he => e (kI_inj he)), h.has x hx]
  · by_cases e : kl = kI a
    · exact ⟨a, ha, e⟩
    · rw [Maps.has_put_other e] at hkl
      exact h.key kl hkl
  · unfold lnk at hxy
    by_cases e : x = a
    · subst e
      rw [if_pos rfl] at hxy
      injection hxy with hxy
      subst hxy
      exact Maps.atKey_put_same hM hk _ zd
    · rw [if_neg e] at hxy
      rw [Maps.atKey_put_other (fun he => e (kI_inj he))]
      exact h.at_ x y hxy zd

/-- The look-up of a link. -/
theorem wpList_ufLook {ops : Array Oper} {rest : List Oper} {o : Oper} {a : Act} {Q : Exit → Act → World → Prop} (hgd : o.guard = none) (m x : Operand) (ho : o.op = .lookup 54 m x true) (h : UF w b N f D)
    (hm : a.eval m = .map (some b)) (X : Nat) (hx : a.eval x = .int .i64 (X : Int)) (hX : X < N) (hN : N ≤ 20) (hK : ∀ (c : Int) (B : Bool), Hid ((B = true ↔ f X ≠ none) ∧ ∀ y, f X = some y → c = (y : Int)) → wpList Try.prog ops Q rest (a.put o.dst (.tuple #[.int .i64 c, .bool B])) w) : wpList Try.prog ops Q (o :: rest) a w := by
  refine wpList_lookup_own_ok_int w hgd m x 54 ho 2 2 .i64 lawI Try.underlying54 Try.underlying2 (Try.zeroValue2 w) b (Maps.size D) D hm h.own _ (kI X) hx (keyOf_I (by omega)) fun c hat _ => ?_
  rw [h.has X hX]
  refine hK c _ (Lib.hid ⟨?_, fun y hy => ?_⟩)
  · cases f X <;> simp
  · have := (h.at_ X y hy (.lit (.int .i64 0))).symm.trans hat
    injection this with this
    injection this with _ this
    exact this.symm
end

set_option maxHeartbeats 1000000 in
set_option maxRecDepth 100000 in
theorem ufSmallest (b N x : Nat) (f : Nat → Option Nat) (D : DataW Value) (w : World) (h : UF w b N f D) (hx : x < N) (hN : N ≤ 20) :
    Calls Try.prog 90 #[.map (some b), .int .i64 (x : Nat)] w fun e w' => e = .returned (.int .i64 (rt f x : Nat)) ∧ w = w' := by
  have H := Lib.hid h
  have L := Lib.hid h.lk
  clear h
  go_enter Try.func90, Try.ntmps90
  go_wp2_with (first | (at_lookup; refine wpList_ufLook rfl _ _ rfl H.out rfl x rfl hx hN ?_; intro c0 B0 h0) | go_in)
  go_loop [1, 5, 6] (fun xv lv bv => ∃ (X : Nat) (c : Int) (B : Bool), X < N ∧ xv = .int .i64 (X : Nat) ∧ lv = .int .i64 c ∧ bv = .bool B ∧ Hid ((B = true ↔ f X ≠ none) ∧ ∀ y, f X = some y → c = (y : Int)) ∧ Hid (rt f X = rt f x)) (fun xv _ _ => (intOf xv).toNat)
  case atStart => exact ⟨x, c0, B0, hx, rfl, rfl, rfl, h0, Lib.hid rfl⟩
  case round =>
    clear h0
    obtain ⟨X, c, B, hX, rfl, rfl, rfl, hB, hr⟩ := hrel
    rcases B with _ | _
    · have Fin : Hid ((X : Int) = (rt f x : Nat)) := Lib.hid (by
        rw [← hr.out]
        rcases hf : f X with _ | y
        · rw [rt_none hf]
        · exact absurd (hB.out.1.2 (by rw [hf]; simp)) (by simp))
      go_wp2
      go_ret
      exact ⟨ret_int Fin.out, rfl⟩
    · obtain ⟨y, hf⟩ : ∃ y, f X = some y := by
        rcases hf : f X with _ | y
        · exact absurd hf (hB.out.1.1 rfl)
        · exact ⟨y, rfl⟩
      obtain rfl := hB.out.2 y hf
      have hy := (L.out X y hf).1
      have Hr : Hid (rt f y = rt f x) := Lib.hid (by rw [← hr.out, rt_some L.out hf])
      have hyN : y < N := by omega
      clear hB hr hf
      go_wp2_with (first | (at_lookup; refine wpList_ufLook rfl _ _ rfl H.out rfl y rfl hyN hN ?_; intro c1 B1 h1) | go_in)
      go_round
      case rel => exact ⟨y, c1, B1, hyN, rfl, rfl, rfl, h1, Hr⟩
      case measure => simp [intOf]; omega

set_option maxHeartbeats 2000000 in
set_option maxRecDepth 100000 in
theorem ufUnite (b N x y : Nat) (f : Nat → Option Nat) (D : DataW Value) (w : World) (h : UF w b N f D) (hx : x < N) (hy : y < N) (hN : N ≤ 20) :
    Calls Try.prog 89 #[.map (some b), .int .i64 (x : Nat), .int .i64 (y : Nat)] w fun e w' => (rt f x = rt f y ∧ e = .returned (.bool false) ∧ w' = w) ∨ (rt f x ≠ rt f y ∧ ∃ f' D', e = .returned (.bool true) ∧ UF w' b N f' D' ∧ Mg N (rt f) (rt f') x y ∧ w.grownBy w' (some b)) := by
  have H := Lib.hid h
  have L := Lib.hid h.lk
  have Hsz : Hid (Maps.size D < maxLen) := Lib.hid (by have := h.size; unfold maxLen; omega)
  clear h
  obtain ⟨X, eX⟩ : ∃ X, rt f x = X := ⟨_, rfl⟩
  obtain ⟨Y, eY⟩ : ∃ Y, rt f y = Y := ⟨_, rfl⟩
  have hXN : X < N := by have := rt_le L.out x; omega
  have hYN : Y < N := by have := rt_le L.out y; omega
  have EX := Lib.hid eX
  have EY := Lib.hid eY
  rw [eX, eY]
  clear eX eY
  go_enter Try.func89, Try.ntmps89
  go_wp2_with fail
  refine (ufSmallest b N x f D w H.out hx hN).mono ?_
  rintro e w1 ⟨rfl, rfl⟩
  rw [EX.out]
  go_wp2_with fail
  refine (ufSmallest b N y f D w H.out hy hN).mono ?_
  rintro e w1 ⟨rfl, rfl⟩
  rw [EY.out]
  rcases Nat.lt_trichotomy X Y with hlt | rfl | hlt
  · have d0 : ((X : Int) == (Y : Int)) = false := by rw [beq_eq_false_iff_ne]; omega
    have d1 : decide ((X : Int) < (Y : Int)) = true := by simp; omega
    have d2 : decide ((Y : Int) < (X : Int)) = false := by simp; omega
    have q1 : (X : Int) < (Y : Int) := by omega
    go_wp2_with (first | (at_mapUpdate; refine wpList_mapUpdate_own _ rfl _ _ _ 54 rfl 2 2 lawI Try.underlying54 (plainElem Try.prog 2) b (Maps.size D) D rfl H.out.own Hsz.out _ _ (kI Y) rfl rfl (keyOf_I (by omega)) (.lit (.int .i64 (X : Int))) [] (plainElem_int Try.underlying2 (wfI (by omega))) ?_; intro w2 ho2 hg2) | go_in)
    go_ret
    exact .inr ⟨by omega, _, _, rfl, H.out.put hN hYN hlt ho2, mg_lnk L.out hx hy hlt (.inr ⟨EY.out.symm, EX.out.symm⟩), hg2⟩
  · have d0 : ((X : Int) == (X : Int)) = true := by simp
    go_wp2
    go_ret
    exact ⟨rfl, rfl⟩
  · have d0 : ((X : Int) == (Y : Int)) = false := by rw [beq_eq_false_iff_ne]; omega
    have d1 : decide ((X : Int) < (Y : Int)) = false := by simp; omega
    have d2 : decide ((Y : Int) < (X : Int)) = true := by simp; omega
    have q1 : ¬ (X : Int) < (Y : Int) := by omega
    have q2 : (Y : Int) < (X : Int) := by omega
    go_wp2_with (first | (at_mapUpdate; refine wpList_mapUpdate_own _ rfl _ _ _ 54 rfl 2 2 lawI Try.underlying54 (plainElem Try.prog 2) b (Maps.size D) D rfl H.out.own Hsz.out _ _ (kI X) rfl rfl (keyOf_I (by omega)) (.lit (.int .i64 (Y : Int))) [] (plainElem_int Try.underlying2 (wfI (by omega))) ?_; intro w2 ho2 hg2) | go_in)
    go_ret
    exact .inr ⟨by omega, _, _, rfl, H.out.put hN hXN hlt ho2, mg_lnk L.out hx hy hlt (.inl ⟨EX.out.symm, EY.out.symm⟩), hg2⟩
end Go.Proofs.Ytedfcljikgmpgaa

/- uniteEach and uniteImages of the program. Conditions: at most 20 points, 8 generators. -/
namespace Go.Proofs.Ytedfcljikgmpgaa
open Go.RowKit

theorem cls_mono {N : Nat} {r r' : Nat → Nat} (h : Rf N r r') : cls N r' ≤ cls N r := by
  refine nd_sub (List.nodup_range.filter _) fun z hz => ?_
  obtain ⟨h1, h2⟩ := List.mem_filter.1 hz
  have hz1 := List.mem_range.1 h1
  exact List.mem_filter.2 ⟨h1, fstB_iff.2 fun y' hy' e' => fstB_iff.1 h2 y' hy' (h y' z (by omega) hz1 e')⟩
theorem cls_pos {N x : Nat} {r : Nat → Nat} (hx : x < N) : 1 ≤ cls N r := by
  have : 0 ∈ (List.range N).filter (fstB r) := List.mem_filter.2 ⟨List.mem_range.2 (by omega), fstB_iff.2 fun y hy => absurd hy (Nat.not_lt_zero _)⟩
  exact List.length_pos_of_mem this

/-- What has been made one behind k entries of block i. -/
structure UE (N : Nat) (bl : List (List Int)) (r s : Nat → Nat) (i k : Nat) : Prop where
  up : Rf N r s
  done : ∀ i' k', (i' < i ∨ (i' = i ∧ k' < k)) → i' < bl.length → k' < (bl.getD i' []).length → s ((bl.getD i' []).getD 0 0).toNat = s ((bl.getD i' []).getD k' 0).toNat
  least : ∀ q, Rf N r q → Rf N (bi bl) q → Rf N s q
section
variable {N i k : Nat} {bl : List (List Int)} {r s s' : Nat → Nat}
theorem UE.zero : UE N bl r r 0 0 := ⟨Rf.refl _ _, fun i' k' h => by omega, fun _ h _ => h⟩
theorem UE.row (h : UE N bl r s i k) (hk : (bl.getD i []).length ≤ k) : UE N bl r s (i + 1) 0 := ⟨h.up, fun i' k' h1 h2 h3 => h.done i' k' (by
  rcases h1 with h1 | ⟨_, h1⟩
  · by_cases e : i' = i
    · subst e; exact .inr ⟨rfl, by omega⟩
    · exact .inl (by omega)
  · omega) h2 h3, h.least⟩
/-- An entry of a block. -/
theorem Prt.ent (hP : Prt N bl) (hi : i < bl.length) (hk : k < (bl.getD i []).length) : 0 ≤ (bl.getD i []).getD k 0 ∧ (bl.getD i []).getD k 0 < N ∧ bi bl ((bl.getD i []).getD k 0).toNat = i := by
  have hm : (bl.getD i []).getD k 0 ∈ bl.getD i [] := by
    rw [List.getD_eq_getElem?_getD (l := bl.getD i []), List.getElem?_eq_getElem hk]
    exact List.getElem_mem _
  have h1 := (hP.1 i hi).2.1.mem hm
  exact ⟨h1.1, h1.2, hP.bi_of hi (by rw [Int.toNat_of_nonneg h1.1]; exact hm)⟩
theorem UE.step (h : UE N bl r s i k) (hP : Prt N bl) (hi : i < bl.length) (hk : k < (bl.getD i []).length) (hm : Mg N s s' ((bl.getD i []).getD 0 0).toNat ((bl.getD i []).getD k 0).toNat) : UE N bl r s' i (k + 1) := by
  refine ⟨h.up.trans hm.up, fun i' k' h1 h2 h3 => ?_, fun q a b => hm.least q (h.least q a b) ?_⟩
  · by_cases e : i' = i ∧ k' = k
    · obtain ⟨rfl, rfl⟩ := e
      exact hm.eq
    · have hd := h.done i' k' (by omega) h2 h3
      have e1 := hP.ent h2 (k := 0) (by omega)
      have e2 := hP.ent h2 h3
      exact hm.up _ _ (by omega) (by omega) hd
  · have e1 := hP.ent hi (k := 0) (by omega)
    have e2 := hP.ent hi hk
    exact b _ _ (by omega) (by omega) (e1.2.2.trans e2.2.2.symm)
theorem UE.fin (h : UE N bl r s bl.length 0) (hP : Prt N bl) : Rf N r s ∧ Rf N (bi bl) s ∧ ∀ q, Rf N r q → Rf N (bi bl) q → Rf N s q := by
  refine ⟨h.up, fun u v hu hv e => ?_, h.least⟩
  have key : ∀ z, z < N → s ((bl.getD (bi bl z) []).getD 0 0).toNat = s z := fun z hz => by
    have hl := hP.bi_lt hz
    obtain ⟨k, hk, ek⟩ := List.mem_iff_getElem.1 (hP.bi_mem hz)
    have := h.done (bi bl z) k (.inl hl) hl hk
    rw [this, List.getD_eq_getElem?_getD (l := bl.getD (bi bl z) []), List.getElem?_eq_getElem hk, ek]
    rfl
  rw [← key u hu, ← key v hv, e]
end

set_option maxHeartbeats 2000000 in
set_option maxRecDepth 100000 in
/-- uniteEach, at a partition. -/
theorem ufEach (b N B n c : Nat) (f : Nat → Option Nat) (D : DataW Value) (A : Option Addr) (vs : List SV) (bl : List (List Int)) (w : World) (h : UF w b N f D) (hA : RR w B A n vs bl) (hB : B ≤ b) (hP : Hid (Prt N bl)) (hN : N ≤ 20) :
    Calls Try.prog 54 #[.map (some b), .slice A n c] w fun e w' => ∃ f' D', e = .returned (.tuple #[]) ∧ UF w' b N f' D' ∧ (Rf N (rt f) (rt f') ∧ Rf N (bi bl) (rt f') ∧ ∀ q, Rf N (rt f) q → Rf N (bi bl) q → Rf N (rt f') q) ∧ w.grownBy w' (some b) := by
  have H := Lib.hid h
  have HA := Lib.hid hA
  have hln : Hid (bl.length = n) := Lib.hid hA.lx
  have hnN : n ≤ 20 := by have := hP.out.len_le; rw [hln.out] at this; omega
  have hbw : b < w.heap.size := h.lt
  have KA : Hid (∀ W : World, w.grownBy W (some b) → RR W B A n vs bl) := Lib.hid fun W hW => hA.grown hW (by omega) (fun g e => by injection e with e; omega)
  clear h hA
  go_enter Try.func54, Try.ntmps54
  go_wp2_with fail
  go_loopw [10] (fun iv wr => ∃ (i : Nat) (s : Nat → Option Nat) (D' : DataW Value), i ≤ n ∧ iv = .int .i64 (i : Nat) ∧ UF wr b N s D' ∧ UE N bl (rt f) (rt s) i 0 ∧ w.grownBy wr (some b)) (fun iv _ => n - (intOf iv).toNat)
  case atStart => exact ⟨0, f, D, Nat.zero_le _, rfl, H.out, .zero, grown_refl _ _⟩
  case round =>
    obtain ⟨i, s, D', hi, rfl, huf, hue, hgr⟩ := hrel
    have Hu := Lib.hid huf
    have Ue := Lib.hid hue
    have Gr := Lib.hid hgr
    clear huf hue hgr
    by_cases hlt : i < n
    · obtain ⟨b5, o5, A5, l, c5, y, rfl, hb5, ev, ey, x1, ri, ly, hlc⟩ := (KA.out _ Gr.out).at_ hlt
      have hi2 : i < bl.length := by rw [hln.out]; exact hlt
      have hne := (hP.out.1 i hi2).1
      have hyl := (hP.out.1 i hi2).2.1.1
      rw [ey] at hne hyl
      have hl0 : 0 < l := by rw [← ly]; exact List.length_pos_iff.2 hne
      have hl20 : l ≤ 20 := by omega
      have Ey := Lib.hid ey
      have Ly : Hid (y.length = l) := Lib.hid ly
      have K5 : Hid (∀ W : World, w.grownBy W (some b) → RI W B A5 y) := Lib.hid fun W hW => by
        have := (KA.out W hW).rows i hlt
        rw [ev, ey] at this; exact this
      clear ev ey ri ly hne hyl hb5
      go_wp2_with fail
      go_loopw [16] (fun kv wr2 => ∃ (k : Nat) (s : Nat → Option Nat) (D' : DataW Value), k ≤ l ∧ kv = .int .i64 (k : Nat) ∧ UF wr2 b N s D' ∧ UE N bl (rt f) (rt s) i k ∧ w.grownBy wr2 (some b)) (fun kv _ => l - (intOf kv).toNat)
      case atStart => exact ⟨0, s, D', Nat.zero_le _, rfl, Hu.out, Ue.out, Gr.out⟩
      case round =>
        clear Hu Ue Gr
        obtain ⟨k, s, D', hk, rfl, huf, hue, hgr⟩ := hrel
        have Hu := Lib.hid huf
        have Ue := Lib.hid hue
        have Gr := Lib.hid hgr
        clear huf hue
        by_cases hlt2 : k < l
        · obtain ⟨bz, oz, rfl, hbz, hc⟩ := (K5.out _ hgr) (by rw [Ly.out]; omega)
          have z0 := hc 0 (by rw [Ly.out]; omega)
          have zk := hc k (by rw [Ly.out]; omega)
          have e0 := hP.out.ent hi2 (k := 0) (by rw [Ey.out, Ly.out]; omega)
          have ek := hP.out.ent hi2 (k := k) (by rw [Ey.out, Ly.out]; omega)
          rw [Ey.out] at e0 ek
          obtain ⟨X, eX⟩ : ∃ X : Nat, y.getD 0 0 = (X : Int) := ⟨(y.getD 0 0).toNat, by omega⟩
          obtain ⟨Y, eY⟩ : ∃ Y : Nat, y.getD k 0 = (Y : Int) := ⟨(y.getD k 0).toNat, by omega⟩
          rw [eX] at z0 e0
          rw [eY] at zk ek
          have hX : X < N := by omega
          have hY : Y < N := by omega
          have EX := Lib.hid eX
          have EY := Lib.hid eY
          rw [Nat.add_zero] at z0
          clear hgr hc e0 ek eX eY hbz
          go_wp2_with fail
          refine (ufUnite b N X Y s D' wr Hu.out hX hY hN).mono ?_
          rintro e w3 (⟨hs, rfl, rfl⟩ | ⟨hs, s', D2, rfl, u3, m3, g3⟩)
          · have U3 : Hid (UE N bl (rt f) (rt s) i (k + 1)) := Lib.hid (Ue.out.step hP.out hi2 (by rw [Ey.out, Ly.out]; exact hlt2) (by rw [Ey.out, EX.out, EY.out]; exact Mg.same hs))
            clear hs
            go_wp2_with fail
            go_roundw
            case rel => exact ⟨k + 1, s, D', by omega, by go_num, Hu.out, U3.out, Gr.out⟩
            case measure => simp [intOf]; omega
          · have U3 : Hid (UE N bl (rt f) (rt s') i (k + 1)) := Lib.hid (Ue.out.step hP.out hi2 (by rw [Ey.out, Ly.out]; exact hlt2) (by rw [Ey.out, EX.out, EY.out]; exact m3))
            have Hu3 := Lib.hid u3
            have G3 : Hid (w.grownBy w3 (some b)) := Lib.hid (Gr.out.trans g3)
            clear hs u3 m3 g3
            go_wp2_with fail
            go_roundw
            case rel => exact ⟨k + 1, s', D2, by omega, by go_num, Hu3.out, U3.out, G3.out⟩
            case measure => simp [intOf]; omega
        · obtain rfl : k = l := by omega
          have U3 : Hid (UE N bl (rt f) (rt s) (i + 1) 0) := Lib.hid (Ue.out.row (by rw [Ey.out, Ly.out]; exact Nat.le_refl _))
          clear hgr
          go_wp2_with fail
          go_roundw
          case rel => exact ⟨i + 1, s, D', by omega, by go_num, Hu.out, U3.out, Gr.out⟩
          case measure => simp [intOf]; omega
    · obtain rfl : i = n := by omega
      have Fin := Lib.hid (UE.fin (by rw [hln.out]; exact Ue.out) hP.out)
      go_wp2_with fail
      refine bodyPost_end (results_none rfl _ _ _) rfl ?_
      exact ⟨s, D', rfl, Hu.out, Fin.out, Gr.out⟩

set_option maxHeartbeats 2000000 in
set_option maxRecDepth 100000 in
/-- uniteImages. -/
theorem ufImages (N B n c b : Nat) (A : Option Addr) (vs : List SV) (gs : List (List Int)) (hB : B ≤ b) (hG : Hid (∀ g ∈ gs, Pn N g)) (hn : n ≤ 8) (hN : N ≤ 20) : ∀ (m : Nat) (f : Nat → Option Nat) (D : DataW Value) (x y : Nat) (w : World), cls N (rt f) ≤ m → UF w b N f D → RR w B A n vs gs → x < N → y < N →
    Calls Try.prog 61 #[.map (some b), .slice A n c, .int .i64 (x : Nat), .int .i64 (y : Nat)] w fun e w' => ∃ f' D', e = .returned (.tuple #[]) ∧ UF w' b N f' D' ∧ UI gs N (rt f) (rt f') x y ∧ w.grownBy w' (some b) := by
  intro m
  induction m with
  | zero => intro f D x y w hm _ _ hx _; have := cls_pos (r := rt f) hx; omega
  | succ m ih =>
  intro f D x y w hm h hA hx hy
  have IH := Lib.hid ih
  have H := Lib.hid h
  have Hm := Lib.hid hm
  have hln : Hid (gs.length = n) := Lib.hid hA.lx
  have hbw : b < w.heap.size := h.lt
  have KA : Hid (∀ W : World, w.grownBy W (some b) → RR W B A n vs gs) := Lib.hid fun W hW => hA.grown hW (by omega) (fun g e => by injection e with e; omega)
  have Hnx : Hid (∀ g ∈ gs, ∀ u, u < N → nx g u < N) := Lib.hid fun g hg u hu => (hG.out g hg).lt hu
  clear h hA ih hm
  go_enter Try.func61, Try.ntmps61
  go_wp2_with fail
  refine (ufUnite b N x y f D w H.out hx hy hN).mono ?_
  rintro e w1 (⟨hs, rfl, rfl⟩ | ⟨hs, f0, D0, rfl, u1, m1, g1⟩)
  · have Fin : Hid (UI gs N (rt f) (rt f) x y) := Lib.hid (UI.same hs)
    clear hs
    go_wp2_with fail
    refine bodyPost_ret (results_none rfl _ _ _) rfl ?_
    exact ⟨f, D, rfl, H.out, Fin.out, grown_refl _ _⟩
  · have U1 := Lib.hid u1
    have M1 := Lib.hid m1
    have G1 := Lib.hid g1
    have Hc : Hid (cls N (rt f0) ≤ m) := Lib.hid (by have := m1.cls hx hy hs; have := Hm.out; omega)
    clear hs u1 m1 g1
    go_wp2_with fail
    go_loopw [17] (fun iv wr => ∃ (i : Nat) (s : Nat → Option Nat) (D' : DataW Value), i ≤ n ∧ iv = .int .i64 (i : Nat) ∧ UF wr b N s D' ∧ UJ gs N (rt f) (rt f0) (rt s) x y i ∧ w.grownBy wr (some b)) (fun iv _ => n - (intOf iv).toNat)
    case atStart => exact ⟨0, f0, D0, Nat.zero_le _, rfl, U1.out, .zero M1.out, G1.out⟩
    case round =>
      clear U1
      obtain ⟨i, s, D', hi, rfl, huf, huj, hgr⟩ := hrel
      have Hu := Lib.hid huf
      have Uj := Lib.hid huj
      have Gr := Lib.hid hgr
      clear huf huj hgr
      by_cases hlt : i < n
      · obtain ⟨b5, o5, A5, l, c5, g, rfl, hb5, ev, eg, x1, ri, lg, hlc⟩ := (KA.out _ Gr.out).at_ hlt
        have hgm : g ∈ gs := by rw [← eg]; exact getD_memL (by rw [hln.out]; exact hlt)
        have hgP := hG.out g hgm
        obtain rfl : l = N := by have := hgP.2; omega
        obtain ⟨bz, oz, rfl, hbz, hc⟩ := ri (by rw [lg]; omega)
        have zx := hc x (by rw [lg]; exact hx)
        have zy := hc y (by rw [lg]; exact hy)
        rw [nx_val hgP.1 (by rw [lg]; exact hx)] at zx
        rw [nx_val hgP.1 (by rw [lg]; exact hy)] at zy
        obtain ⟨X, eX⟩ : ∃ X, nx g x = X := ⟨_, rfl⟩
        obtain ⟨Y, eY⟩ : ∃ Y, nx g y = Y := ⟨_, rfl⟩
        have hX : X < l := by rw [← eX]; exact hgP.lt hx
        have hY : Y < l := by rw [← eY]; exact hgP.lt hy
        rw [eX] at zx
        rw [eY] at zy
        have Es : Hid (nx (gs.getD i []) x = X ∧ nx (gs.getD i []) y = Y) := Lib.hid (by rw [eg]; exact ⟨eX, eY⟩)
        have qx : (x : Int) < l := by omega
        have qy : (y : Int) < l := by omega
        have Hcs : Hid (cls l (rt s) ≤ m) := Lib.hid (Nat.le_trans (cls_mono Uj.out.up) Hc.out)
        clear ev eg ri hc hgP hgm eX eY lg hb5 hbz
        go_wp2_with fail
        go_still_tail 10, (by kernel_rfl)
        change wpList _ _ _ _ _ (wr.drewN 1)
        have Hu2 := Lib.hid (Hu.out.drewN 1)
        have Ka2 := Lib.hid (KA.out _ (grown_drewN Gr.out 1))
        have Gr2 := Lib.hid (grown_drewN Gr.out 1)
        generalize wr.drewN 1 = w2 at Hu2 Ka2 Gr2 ⊢
        go_wp2_with fail
        refine (IH.out s D' X Y w2 Hcs.out Hu2.out Ka2.out hX hY).mono ?_
        rintro e w3 ⟨s', D2, rfl, u3, m3, g3⟩
        have Hu3 := Lib.hid u3
        have Uj3 : Hid (UJ gs l (rt f) (rt f0) (rt s') x y (i + 1)) := Lib.hid (Uj.out.step M1.out (by rw [hln.out]; exact hlt) hx hy Hnx.out (by rw [Es.out.1, Es.out.2]; exact m3))
        have G3 : Hid (w.grownBy w3 (some b)) := Lib.hid (Gr2.out.trans g3)
        clear u3 m3 g3
        go_wp2_with fail
        go_roundw
        case rel => exact ⟨i + 1, s', D2, by omega, by go_num, Hu3.out, Uj3.out, G3.out⟩
        case measure => simp [intOf]; omega
      · obtain rfl : i = n := by omega
        have Fin : Hid (UI gs N (rt f) (rt s) x y) := Lib.hid (UJ.all (by rw [hln.out]; exact Uj.out) M1.out hx hy Hnx.out)
        go_wp2_with fail
        refine bodyPost_end (results_none rfl _ _ _) rfl ?_
        exact ⟨s, D', rfl, Hu.out, Fin.out, Gr.out⟩
end Go.Proofs.Ytedfcljikgmpgaa

/- The program's isPartition. Conditions: at most 1048576 lists of at most 1048576 numbers. -/
namespace Go.Proofs.Ytedfcljikgmpgaa
open Go.RowKit

section
variable {N : Nat} {bl : List (List Int)}
theorem okB_hd (h : ∀ i, i < bl.length → OkB N bl i) : ∀ j, j < bl.length → (j : Int) ≤ (bl.getD j []).getD 0 0 ∧ (bl.getD j []).getD 0 0 < N := by
  intro j
  have hin : ∀ j, j < bl.length → 0 ≤ (bl.getD j []).getD 0 0 ∧ (bl.getD j []).getD 0 0 < N := fun j hj => by
    have ho := h j hj
    have := ho.2.1.2 0 (List.length_pos_iff.2 ho.1)
    exact ⟨this.1, this.2.1⟩
  induction j with
  | zero => intro hj; have := hin 0 hj; omega
  | succ j ih =>
    intro hj
    have h1 := ih (by omega)
    have h2 := (h (j + 1) hj).2.2 (by omega)
    rw [Nat.add_sub_cancel] at h2
    have := hin (j + 1) hj
    omega
theorem okB_len (h : ∀ i, i < bl.length → OkB N bl i) : bl.length ≤ N := by
  rcases Nat.eq_zero_or_pos bl.length with e | e
  · omega
  · have := okB_hd h (bl.length - 1) (by omega)
    omega
theorem okB_mem (h : ∀ i, i < bl.length → OkB N bl i) {x : Int} (hx : x ∈ bl.flatten) : 0 ≤ x ∧ x < N := by
  obtain ⟨b, hb, hx⟩ := List.mem_flatten.1 hx
  obtain ⟨i, hi, rfl⟩ := List.mem_iff_getElem.1 hb
  have := (h i hi).2.1
  rw [getD_L hi] at this
  exact this.mem hx
theorem prt_isP (h : ∀ i, i < bl.length → OkB N bl i) (h1 : 1 ≤ N) (h2 : N ≤ 20) : Prt N bl ↔ (bl.flatten.length = N ∧ isP bl.flatten = true) := by
  constructor
  · rintro ⟨_, hd, hl⟩
    refine ⟨hl, isP_iff.2 ⟨by omega, by omega, fun i hi => ?_, fun i hi => ?_, fun i j hi hj e => ?_⟩⟩
    · rw [getD_eq hi]; exact (okB_mem h (List.getElem_mem hi)).1
    · rw [getD_eq hi, hl]; exact (okB_mem h (List.getElem_mem hi)).2
    · rw [getD_eq hi, getD_eq hj] at e
      rcases Nat.lt_trichotomy i j with hlt | hlt | hlt
      · exact absurd e ((List.pairwise_iff_getElem.1 hd) i j hi hj hlt)
      · exact hlt
      · exact absurd e.symm ((List.pairwise_iff_getElem.1 hd) j i hj hi hlt)
  · rintro ⟨hl, hp⟩
    have hp := isP_iff.1 hp
    refine ⟨h, List.pairwise_iff_getElem.2 fun i j hi hj hij e => ?_, hl⟩
    have := hp.inj i j hi hj (by rw [getD_eq hi, getD_eq hj, e])
    omega
end
theorem flat_take {bl : List (List Int)} {k : Nat} (h : k < bl.length) : (bl.take (k + 1)).flatten = (bl.take k).flatten ++ bl.getD k [] := by
  rw [List.take_succ_eq_append_getElem h, List.flatten_append, getD_L h]; simp
theorem flat_tot {w : World} {B n : Nat} {A : Option Addr} {vs : List SV} {bl : List (List Int)} (h : RR w B A n vs bl) : ∀ k, k ≤ n → tot vs k = (bl.take k).flatten.length := by
  intro k
  induction k with
  | zero => intro _; rfl
  | succ k ih =>
    intro hk
    rw [tot_succ, ih (by omega), flat_take (by rw [h.lx]; omega), List.length_append, h.lens k (by omega)]

set_option maxHeartbeats 1000000 in
theorem growNone (w : World) : Calls Try.prog 110 #[.slice none 0 0, .int .i64 (0 : Nat)] w fun e w' => e = .returned (.slice none 0 0) ∧ w = w' := by
  go_enter Try.func110, Try.ntmps110
  go_wp2
  go_ret
  exact ⟨rfl, rfl⟩
theorem growAny (T : Nat) (w : World) (h2 : T ≤ 1048576) :
    Calls Try.prog 110 #[.slice none 0 0, .int .i64 (T : Nat)] w fun e w' => ∃ A' c', e = .returned (.slice A' 0 c') ∧ Slc w' w.heap.size A' 0 c' [] ∧ Below w.heap.size w w' := by
  rcases Nat.eq_zero_or_pos T with rfl | h1
  · refine (growNone w).mono ?_
    rintro e w1 ⟨rfl, rfl⟩
    exact ⟨_, _, rfl, Slc.nil_, Below.refl _ _⟩
  · refine (growNil T w h1 h2).mono ?_
    rintro e w1 ⟨g, c', rfl, s, b⟩
    exact ⟨_, _, rfl, s, b⟩
set_option maxHeartbeats 4000000 in
set_option maxRecDepth 100000 in
/-- slices.Concat of short lists. -/
theorem implConcatR (A : Option Addr) (n c : Nat) (vs : List SV) (bl : List (List Int)) (w : World) (hx : RR w w.heap.size A n vs bl) (hn : n ≤ 20) (hl : Hid (∀ i, i < n → (vs.getD i sd0).2.1 ≤ 20)) :
    Calls Try.prog 88 #[.slice A n c] w fun e w' => ∃ A' c', e = .returned (.slice A' bl.flatten.length c') ∧ Slc w' w.heap.size A' bl.flatten.length c' bl.flatten ∧ bl.flatten.length ≤ 400 ∧ Below w.heap.size w w' := by
  have HX := Lib.hid hx
  have hT : ∀ k, k ≤ n → tot vs k ≤ 400 := fun k hk => by
    have h1 := tot_mono (vs := vs) hk
    have h2 := tot_le_mul (vs := vs) (n := n) (m := 20) hl.out
    have h3 : n * 20 ≤ 400 := by omega
    omega
  have HT := Lib.hid hT
  have Fl := Lib.hid (flat_tot hx)
  have Ln : Hid (bl.length = n) := Lib.hid hx.lx
  have Fn : Hid (tot vs n = bl.flatten.length) := Lib.hid (by
    rw [Fl.out n (Nat.le_refl _), List.take_of_length_le (by rw [Ln.out]; exact Nat.le_refl _)])
  clear hx hT
  go_enter Try.func88, Try.ntmps88
  go_wp2_with fail
  go_loopw [3, 5, 11] (fun s _ i wr => (∃ (k T : Nat), k ≤ n ∧ i = .int .i64 (k : Nat) ∧ Hid (tot vs k = T) ∧ s = .int .i64 (T : Nat)) ∧ w = wr) (fun _ _ i _ => n - (intOf i).toNat)
  case atStart => exact ⟨⟨0, 0, Nat.zero_le _, rfl, Lib.hid rfl, rfl⟩, rfl⟩
  case round =>
    obtain ⟨⟨k, T, hk, rfl, hT, rfl⟩, rfl⟩ := hrel
    have hT4 : T ≤ 400 := by rw [← hT.out]; exact HT.out k hk
    by_cases hlt : k < n
    · obtain ⟨b5, o5, A5, l, c5, y, rfl, hb5, ev, ey, x1, ri, ly, hlc⟩ := HX.out.at_ hlt
      have hl20 := hl.out k hlt
      rw [ev] at hl20
      have hl21 : l ≤ 20 := hl20
      have hT2 : Hid (tot vs (k + 1) = T + l) := Lib.hid (by rw [tot_succ, hT.out, ev])
      have hw : IntKind.i64.wrap ((T : Int) + (l : Int)) = ((T + l : Nat) : Int) := by rw [IntKind.wrap_i64]; omega
      have d0 : decide (((T + l : Nat) : Int) < 0) = false := by simp; omega
      clear ev ey ri ly hl20 hb5
      go_wp2_with fail
      go_roundw
      case rel => exact ⟨⟨k + 1, T + l, by omega, by go_num, hT2, rfl⟩, trivial⟩
      case measure => simp [intOf]; omega
    · obtain rfl : k = n := by omega
      go_wp2_with fail
      refine (growAny T w (by omega)).mono ?_
      rintro e w1 ⟨A1, c1, rfl, s1, b1⟩
      have S1 := Lib.hid s1
      have B1 := Lib.hid b1
      clear s1 b1
      go_wp2_with fail
      go_loopw [6, 8, 27] (fun v _ i wr => ∃ (j L : Nat) (A1 : Option Addr) (c1 : Nat) (xs : List Int), j ≤ k ∧ i = .int .i64 (j : Nat) ∧ v = .slice A1 L c1 ∧ Hid (tot vs j = L ∧ xs = (bl.take j).flatten) ∧ Slc wr w.heap.size A1 L c1 xs ∧ Below w.heap.size w wr) (fun _ _ i _ => k - (intOf i).toNat)
      case atStart => exact ⟨0, 0, _, _, [], Nat.zero_le _, rfl, rfl, Lib.hid ⟨rfl, rfl⟩, S1.out, B1.out⟩
      case round =>
        clear S1 B1
        obtain ⟨j, L, A1, c2, xs, hj, rfl, rfl, hxs, hs, bel⟩ := hrel
        have Ss := Lib.hid hs
        have Be := Lib.hid bel
        have hz := bel.size
        have hL4 : L ≤ 400 := by rw [← hxs.out.1]; exact HT.out j hj
        clear hs bel
        by_cases hlt : j < k
        · obtain ⟨b5, o5, A5, l, c5, y, rfl, hb5, ev, ey, x1, ri, ly, hlc⟩ := (HX.out.up Be.out).at_ hlt
          have hl20 := hl.out j hlt
          rw [ev] at hl20
          have hl21 : l ≤ 20 := hl20
          have Hx2 : Hid (tot vs (j + 1) = L + l ∧ xs ++ y = (bl.take (j + 1)).flatten) := Lib.hid ⟨by rw [tot_succ, hxs.out.1, ev], by rw [flat_take (by rw [Ln.out]; exact hlt), ey, hxs.out.2]⟩
          have Ri := Lib.hid ri
          have Ly := Lib.hid ly
          clear ev ey ri ly hl20 hb5
          go_wp2_with (first | (at_builtin; refine wpList_appA rfl _ _ rfl w.heap.size A1 L c2 xs rfl Ss.out A5 l c5 y rfl Ri.out Ly.out (by omega) hz ?_; intro A3 c3 w3 s3 g3))
          have S3 := Lib.hid s3
          have B3 : Hid (Below w.heap.size w w3) := Lib.hid (Be.out.grown g3 hz (fun j hj => (Ss.out.lt_ j hj).1))
          clear s3 g3
          go_wp2_with fail
          go_roundw
          case rel => exact ⟨j + 1, L + l, A3, c3, _, by omega, by go_num, rfl, Hx2, S3.out, B3.out⟩
          case measure => simp [intOf]; omega
        · obtain rfl : j = k := by omega
          have ex : Hid (xs = bl.flatten ∧ L = bl.flatten.length) := Lib.hid ⟨by rw [hxs.out.2, List.take_of_length_le (by rw [Ln.out]; exact Nat.le_refl _)], by rw [← hxs.out.1]; exact Fn.out⟩
          go_wp2_with fail
          go_ret
          refine ⟨A1, c2, ?_, ?_, ?_, Be.out⟩
          · rw [← ex.out.2]; rfl
          · rw [← ex.out.2, ← ex.out.1]; exact Ss.out
          · rw [← ex.out.2]; exact hL4

/-- What isPartition answers. -/
def IsPrt (a : Int) (bl : List (List Int)) (b : Bool) : Prop := b = true ↔ (1 ≤ a ∧ a ≤ 20) ∧ Prt a.toNat bl
set_option maxHeartbeats 4000000 in
set_option maxRecDepth 100000 in
/-- isPartition. -/
theorem implPart (a : Int) (A : Option Addr) (n c : Nat) (vs : List SV) (bl : List (List Int)) (w : World) (g : GIn w A n vs bl) :
    Calls Try.prog 53 #[.int .i64 a, .slice A n c] w fun e w' => ∃ ans, e = .returned (.bool ans) ∧ IsPrt a bl ans ∧ Below w.heap.size w w' := by
  have HX := Lib.hid g.rr
  have hlx : Hid (bl.length = n) := Lib.hid g.rr.lx
  have hn := g.hn
  have hl := Lib.hid g.hl
  clear g
  by_cases ha1 : a < 1
  · have d1 : decide (a < 1) = true := by simp; omega
    go_enter Try.func53, Try.ntmps53
    go_wp2_with fail
    go_ret
    have Fin : IsPrt a bl false := ⟨fun h => (by cases h), fun h => absurd h.1.1 (by omega)⟩
    first | exact ⟨false, rfl, Fin, Below.refl _ _⟩ | exact .inl ⟨rfl, Fin, Below.refl _ _⟩
  · have d1 : decide (a < 1) = false := by simp; omega
    by_cases ha2 : 20 < a
    · have d2 : decide (20 < a) = true := by simp; omega
      go_enter Try.func53, Try.ntmps53
      go_wp2_with fail
      go_ret
      have Fin : IsPrt a bl false := ⟨fun h => (by cases h), fun h => absurd h.1.2 (by omega)⟩
      first | exact ⟨false, rfl, Fin, Below.refl _ _⟩ | exact .inl ⟨rfl, Fin, Below.refl _ _⟩
    · have d2 : decide (20 < a) = false := by simp; omega
      obtain ⟨N, rfl⟩ : ∃ N : Nat, a = (N : Int) := ⟨a.toNat, by omega⟩
      have hN1 : 1 ≤ N := by omega
      have hN2 : N ≤ 20 := by omega
      go_enter Try.func53, Try.ntmps53
      go_wp2_with fail
      go_loopw [5, 16] (fun l i wr => ∃ (k : Nat) (la : Int), k ≤ n ∧ i = .int .i64 (k : Nat) ∧ l = .int .i64 la ∧ -1 ≤ la ∧ Hid ((k = 0 → la = -1) ∧ (0 < k → la = (bl.getD (k - 1) []).getD 0 0)) ∧ Hid (∀ j, j < k → OkB N bl j) ∧ Below w.heap.size w wr) (fun _ i _ => n - (intOf i).toNat)
      case atStart => exact ⟨0, -1, Nat.zero_le _, rfl, rfl, by omega, Lib.hid ⟨fun _ => rfl, fun h => absurd h (Nat.lt_irrefl _)⟩, Lib.hid fun j h => absurd h (Nat.not_lt_zero _), Below.refl _ _⟩
      case round =>
        obtain ⟨k, la, hk, rfl, rfl, hla, hpr, hok, bel⟩ := hrel
        have Be := Lib.hid bel
        clear bel
        by_cases hlt : k < n
        · obtain ⟨b5, o5, A5, l, c5, y, rfl, hb5, ev, ey, x1, ri, ly, hlc⟩ := (HX.out.up Be.out).at_ hlt
          have hl1 := hl.out k hlt
          rw [ev] at hl1
          have hl2 : l ≤ 1048576 := hl1
          have Ey := Lib.hid ey
          have Ly : Hid (y.length = l) := Lib.hid ly
          have Ri := Lib.hid ri
          clear ev ey ri ly hl1 hb5
          by_cases hl0 : l = 0
          · subst hl0
            have Fin : Hid (¬ ((1 ≤ (N : Int) ∧ (N : Int) ≤ 20) ∧ Prt (N : Int).toNat bl)) := Lib.hid fun h => by
              have := (h.2.1 k (by rw [hlx.out]; exact hlt)).1
              rw [Ey.out] at this
              exact this (List.eq_nil_of_length_eq_zero Ly.out)
            go_wp2_with fail
            go_ret
            exact ⟨false, rfl, ⟨fun h => (by cases h), fun h => absurd h Fin.out⟩, Be.out⟩
          · have hl3 : 0 < l := by omega
            obtain ⟨bz, oz, rfl, hbz, hc⟩ := Ri.out (by rw [Ly.out]; exact hl3)
            have z0 := hc 0 (by rw [Ly.out]; exact hl3)
            obtain ⟨x, ex⟩ : ∃ x, y.getD 0 0 = x := ⟨_, rfl⟩
            rw [ex, Nat.add_zero] at z0
            have Ex := Lib.hid ex
            have e0 : ((l : Int) == 0) = false := by rw [beq_eq_false_iff_ne]; omega
            have q0 : (0 : Int) < l := by omega
            clear hc ex hbz
            by_cases hx : x ≤ la
            · have d3 : decide (x ≤ la) = true := decide_eq_true hx
              have Fin : Hid (¬ ((1 ≤ (N : Int) ∧ (N : Int) ≤ 20) ∧ Prt (N : Int).toNat bl)) := Lib.hid fun h => by
                have hok2 := h.2.1 k (by rw [hlx.out]; exact hlt)
                have h3 := hok2.2.1.2 0 (by rw [Ey.out, Ly.out]; exact hl3)
                rw [Ey.out, Ex.out] at h3
                rcases Nat.eq_zero_or_pos k with e | e
                · have := hpr.out.1 e; omega
                · have h4 := hok2.2.2 e
                  rw [Ey.out, Ex.out, ← hpr.out.2 e] at h4; omega
              clear hx
              go_wp2_with fail
              go_ret
              exact ⟨false, rfl, ⟨fun h => (by cases h), fun h => absurd h Fin.out⟩, Be.out⟩
            · have d3 : decide (x ≤ la) = false := decide_eq_false hx
              have hx2 : la < x := by omega
              clear hx
              go_wp2_with (go_at_call 86; fail)
              refine (implAsc N l c5 _ y wr Ri.out Ly hN1 hN2 hl2).mono ?_
              rintro e w2 ⟨ans, rfl, hans, b2⟩
              have B2 : Hid (Below w.heap.size w w2) := Lib.hid (btr Be.out b2)
              have z2 := (b2.cell (p := ⟨bz, oz, none⟩) (by obtain ⟨b', o', e', hb', _⟩ := Ri.out (by rw [Ly.out]; exact hl3); injection e' with e'; injection e' with e1 _; subst e1; exact hb')).trans z0
              clear b2 z0
              rcases ans with _ | _
              · have Fin : Hid (¬ ((1 ≤ (N : Int) ∧ (N : Int) ≤ 20) ∧ Prt (N : Int).toNat bl)) := Lib.hid fun h => by
                  have hok2 := (h.2.1 k (by rw [hlx.out]; exact hlt)).2.1
                  rw [Ey.out] at hok2
                  have := hans.2 hok2
                  cases this
                clear hans
                go_wp2_with fail
                go_ret
                exact ⟨false, rfl, ⟨fun h => (by cases h), fun h => absurd h Fin.out⟩, B2.out⟩
              · have hpt := hans.1 rfl
                have Ok2 : Hid (∀ j, j < k + 1 → OkB N bl j) := Lib.hid fun j hj => by
                  by_cases e : j = k
                  · subst e
                    refine ⟨fun e => ?_, by rw [Ey.out]; exact hpt, fun h0 => ?_⟩
                    · have h5 := Ly.out; rw [← Ey.out, e] at h5; simp at h5; omega
                    · rw [Ey.out, Ex.out, ← hpr.out.2 h0]; exact hx2
                  · exact hok.out j (by omega)
                have Pr2 : Hid ((k + 1 = 0 → x = -1) ∧ (0 < k + 1 → x = (bl.getD (k + 1 - 1) []).getD 0 0)) := Lib.hid ⟨fun h => by omega, fun _ => by rw [Nat.add_sub_cancel, Ey.out, Ex.out]⟩
                clear hpt hans
                go_wp2_with fail
                go_roundw
                case rel => exact ⟨k + 1, x, by omega, by go_num, rfl, by omega, Pr2, Ok2, B2.out⟩
                case measure => simp [intOf]; omega
        · obtain rfl : k = n := by omega
          have Ok3 : Hid (∀ j, j < bl.length → OkB N bl j) := Lib.hid fun j hj => hok.out j (by rw [← hlx.out]; exact hj)
          have hk20 : k ≤ 20 := by have := okB_len Ok3.out; rw [hlx.out] at this; omega
          have hl20 : Hid (∀ i, i < k → (vs.getD i sd0).2.1 ≤ 20) := Lib.hid fun i hi => by
            rw [← HX.out.lens i hi]
            exact Nat.le_trans (hok.out i hi).2.1.1 hN2
          go_wp2_with (go_at_call 88; fail)
          refine (implConcatR A k c vs bl wr (HX.out.up Be.out) hk20 hl20).mono ?_
          rintro e w2 ⟨A2, c2, rfl, s2, h400, b2⟩
          obtain ⟨L, eL⟩ : ∃ L, bl.flatten.length = L := ⟨_, rfl⟩
          rw [eL] at s2 h400 ⊢
          have S2 := Lib.hid s2
          have EL := Lib.hid eL
          have B2 : Hid (Below w.heap.size w w2) := Lib.hid (btr Be.out b2)
          obtain ⟨ans, eans⟩ : ∃ ans, (decide ((L : Int) = (N : Int)) && isP bl.flatten) = ans := ⟨_, rfl⟩
          have Ea := Lib.hid eans
          have Fin : Hid (IsPrt N bl ans) := Lib.hid (by
            unfold IsPrt
            rw [← Ea.out, Bool.and_eq_true, decide_eq_true_eq, Int.toNat_natCast, prt_isP Ok3.out hN1 hN2, EL.out]
            constructor
            · rintro ⟨h1, h2⟩; exact ⟨by omega, by omega, h2⟩
            · rintro ⟨_, h1, h2⟩; exact ⟨by omega, h2⟩)
          clear s2 b2 eL eans
          go_wp2_with (go_at_call 87; fail)
          refine (implIsPOf N A2 L c2 bl.flatten ans w2 S2.out.ri_ (Lib.hid EL.out) (by omega) Ea).mono ?_
          rintro e w3 ⟨rfl, b3⟩
          have B3 : Hid (Below w.heap.size w w3) := Lib.hid (btr B2.out b3)
          clear b3
          go_wp2_with fail
          go_ret
          exact ⟨ans, rfl, Fin.out, B3.out⟩
end Go.Proofs.Ytedfcljikgmpgaa

/- isPartition, blockIndexes and respects of the model. Conditions: at most 20 points; at most 1048576 lists of at most 1048576 numbers. -/
namespace Go.Proofs.Ytedfcljikgmpgaa
open Go.RowKit

theorem specIsPSv (N np cp : Nat) (P : Option Addr) (pts : List Int) (w : World) (hp : RI w w.heap.size P pts) (lp : Hid (pts.length = np)) (h1 : 1 ≤ N) (h2 : N ≤ 20) (hn : np ≤ 1048576) (ans : Bool) (ha : Hid (ans = true ↔ PtS N pts)) :
    Calls Try.prog 83 #[.int .i64 (N : Nat), .slice P np cp] w fun e w' => e = .returned (.bool ans) ∧ ∃ m, w' = w.drewN m := by
  refine (specIsPS N np cp P pts w hp lp h1 h2 hn).mono ?_
  rintro e w' ⟨ans', rfl, h, hm⟩
  obtain rfl : ans' = ans := by rw [Bool.eq_iff_iff, h, ha.out]
  exact ⟨rfl, hm⟩
theorem bool_ofP (p : Prop) : ∃ b : Bool, b = true ↔ p := by
  by_cases h : p
  · exact ⟨true, fun _ => h, fun _ => rfl⟩
  · exact ⟨false, fun e => (by cases e), fun e => absurd e h⟩
theorem take_snocI {l : List Int} {k : Nat} (h : k < l.length) : l.take (k + 1) = l.take k ++ [l.getD k 0] := by
  rw [List.take_succ_eq_append_getElem h, getD_eq h]

set_option maxHeartbeats 8000000 in
set_option maxRecDepth 100000 in
/-- isPartition. -/
theorem specPart (N n c : Nat) (A : Option Addr) (vs : List SV) (bl : List (List Int)) (w : World) (g : GIn w A n vs bl) (h1 : 1 ≤ N) (h2 : N ≤ 20) :
    Calls Try.prog 46 #[.int .i64 (N : Nat), .slice A n c] w fun e w' => ∃ ans, e = .returned (.bool ans) ∧ IsPrt N bl ans ∧ Below w.heap.size w w' := by
  have HX := Lib.hid g.rr
  have hlx : Hid (bl.length = n) := Lib.hid g.rr.lx
  have hn := g.hn
  have hl := Lib.hid g.hl
  have NoP : Hid (¬ Prt N bl → IsPrt N bl false) := Lib.hid fun h => ⟨fun e => (by cases e), fun e => absurd (by have := e.2; rwa [Int.toNat_natCast] at this) h⟩
  clear g
  by_cases hnN : N < n
  · have d0 : decide ((N : Int) < n) = true := by simp; omega
    have Fin := NoP.out fun h => by have := h.len_le; rw [hlx.out] at this; omega
    go_enter Try.func46, Try.ntmps46
    go_wp2_with fail
    go_ret
    first | exact ⟨false, rfl, Fin, Below.refl _ _⟩ | exact .inl ⟨rfl, Fin, Below.refl _ _⟩
  · have d0 : decide ((N : Int) < n) = false := by simp; omega
    have hn20 : n ≤ 20 := by omega
    have S0 : Hid (Slc (w.alloc (.cells #[] 2)) w.heap.size (some ⟨w.heap.size, 0, none⟩) 0 0 []) := Lib.hid (Slc.lit0 w _ (Nat.le_refl _))
    have B0 : Hid (Below w.heap.size w (w.alloc (.cells #[] 2))) := Lib.hid ((Below.refl _ _).alloc (Nat.le_refl _) _)
    go_enter Try.func46, Try.ntmps46
    go_wp2_with fail
    go_loopw [5, 6] (fun v iv wr => ∃ (i L c' : Nat) (A' : Option Addr), i ≤ n ∧ L ≤ i * 20 ∧ iv = .int .i64 (i : Nat) ∧ v = .slice A' L c' ∧ Slc wr w.heap.size A' L c' (bl.take i).flatten ∧ (bl.take i).flatten.Nodup ∧ (∀ j, j < i → OkB N bl j) ∧ Below w.heap.size w wr) (fun _ iv _ => n - (intOf iv).toNat)
    case atStart => exact ⟨0, 0, 0, _, Nat.zero_le _, Nat.zero_le _, rfl, rfl, S0.out, List.nodup_nil, fun j h => absurd h (Nat.not_lt_zero _), B0.out⟩
    case round =>
      clear S0 B0
      obtain ⟨i, L, c', A', hi, hL, rfl, rfl, hs, hnd, hok, bel⟩ := hrel
      have Ss := Lib.hid hs
      have Nd := Lib.hid hnd
      have Ok := Lib.hid hok
      have Be := Lib.hid bel
      have hz := bel.size
      have hLi : L ≤ 400 := by omega
      clear hs hnd hok bel
      by_cases hlt : i < n
      · obtain ⟨b5, o5, A5, l, c5, y, rfl, hb5, ev, ey, x1, ri, ly, hlc⟩ := (HX.out.up Be.out).at_ hlt
        have hl1 := hl.out i hlt
        rw [ev] at hl1
        have hl2 : l ≤ 1048576 := hl1
        have hi2 : i < bl.length := by rw [hlx.out]; exact hlt
        have Ey := Lib.hid ey
        have Ly : Hid (y.length = l) := Lib.hid ly
        have Ri := Lib.hid ri
        have q0 : (0 : Int) ≤ i := by omega
        have q1 : (i : Int) < n := by omega
        have BD : Hid (∀ q, Below w.heap.size w (wr.drewN q)) := Lib.hid fun q => below_drewN Be.out q
        obtain ⟨ps, hps⟩ := bool_ofP (PtS N y)
        have Ps := Lib.hid hps
        have KQ : Hid (∀ q, Calls Try.prog 83 #[.int .i64 (N : Nat), .slice A5 l c5] (wr.drewN q) fun e w' => e = .returned (.bool ps) ∧ ∃ m, w' = (wr.drewN q).drewN m) := Lib.hid fun q => specIsPSv N l c5 A5 y (wr.drewN q) (Ri.out.drewN q) Ly h1 h2 hl2 ps Ps
        have KC : Hid (∀ W : World, Below w.heap.size w W → W.cell? ⟨b5, o5 + i, none⟩ = some (.slice A5 l c5) ∧ RI W W.heap.size A5 y) := Lib.hid fun W hW => by
          obtain ⟨b', o', A', l', c', y', e', _, ev', ey', x', r', _, _⟩ := (HX.out.up hW).at_ hlt
          injection e' with e'; injection e' with e1 e2
          subst e1 e2
          rw [ev] at ev'
          injection ev' with e3 e4; injection e4 with e4 e5
          subst e3 e4 e5
          rw [ey] at ey'
          subst ey'
          exact ⟨x', r'⟩
        clear ev ey ri ly hl1 hb5 hps
        have hA : OkB N bl i ∨ ¬ OkB N bl i := Classical.em _
        by_cases hl0 : l = 0
        · subst hl0
          have Fin : Hid (IsPrt N bl false) := Lib.hid (NoP.out fun h => by
            have := (h.1 i hi2).1
            rw [Ey.out] at this
            exact this (List.eq_nil_of_length_eq_zero Ly.out))
          have e0 : ((0 : Int) == 0) = true := by decide
          clear hA
          go_wp2_with fail
          go_quiet (fail)
          go_wp2_with fail
          go_ret
          exact ⟨false, rfl, Fin.out, BD.out _⟩
        · have e0 : ((l : Int) == 0) = false := by rw [beq_eq_false_iff_ne]; omega
          have hl3 : 0 < l := by omega
          rcases ps with _ | _
          · have Fin : Hid (IsPrt N bl false) := Lib.hid (NoP.out fun h => by
              have := (h.1 i hi2).2.1
              rw [Ey.out] at this
              have := Ps.out.2 this
              cases this)
            clear hA
            go_wp2_with fail
            go_quiet ((go_at_call 83; exact Calls.quiet_of (KQ.out _)))
            go_wp2_with fail
            go_ret
            exact ⟨false, rfl, Fin.out, BD.out _⟩
          · have hpt := Ps.out.1 rfl
            have hl20 : l ≤ 20 := by have := hpt.1; have := Ly.out; omega
            have Pt := Lib.hid hpt
            obtain ⟨bz, oz, rfl, hbz, hc⟩ := Ri.out (by rw [Ly.out]; exact hl3)
            have z0 := hc 0 (by rw [Ly.out]; exact hl3)
            obtain ⟨x, ex⟩ : ∃ x, y.getD 0 0 = x := ⟨_, rfl⟩
            rw [ex, Nat.add_zero] at z0
            have Ex := Lib.hid ex
            have ql0 : (0 : Int) < l := by omega
            clear hc ex hbz hpt
            by_cases hbad : 0 < i ∧ x ≤ (bl.getD (i - 1) []).getD 0 0
            · obtain ⟨j, rfl⟩ : ∃ j, i = j + 1 := ⟨i - 1, by omega⟩
              have hle := hbad.2
              rw [Nat.add_sub_cancel] at hle
              have Fin : Hid (IsPrt N bl false) := Lib.hid (NoP.out fun h => by
                have := (h.1 (j + 1) hi2).2.2 (by omega)
                rw [Nat.add_sub_cancel, Ey.out, Ex.out] at this
                omega)
              obtain ⟨b6, o6, A6, l6, c6, y6, e6, hb6, ev6, ey6, x6, ri6, ly6, hlc6⟩ := (HX.out.up Be.out).at_ (show j < n by omega)
              injection e6 with e6; injection e6 with e7 e8
              subst e7 e8
              have hl6 : 0 < l6 := by rw [← ly6]; have := (Ok.out j (by omega)).1; rw [ey6] at this; exact List.length_pos_iff.2 this
              obtain ⟨bp, op, rfl, hbp, hcp⟩ := ri6 (by rw [ly6]; exact hl6)
              have p0 := hcp 0 (by rw [ly6]; exact hl6)
              obtain ⟨x', ex'⟩ : ∃ x', y6.getD 0 0 = x' := ⟨_, rfl⟩
              rw [ex', Nat.add_zero] at p0
              rw [ey6, ex'] at hle
              have d1 : decide ((0 : Int) < ((j + 1 : Nat) : Int)) = true := decide_eq_true (by omega)
              have d2 : decide (x ≤ x') = true := decide_eq_true hle
              have hw1 : IntKind.i64.wrap (((j + 1 : Nat) : Int) - 1) = (j : Int) := by rw [IntKind.wrap_i64]; omega
              have hw2 : ((j + 1 : Nat) : Int) - 1 = (j : Int) := by omega
              have r1 : (0 : Int) ≤ j := by omega
              have r2 : (j : Int) < n := by omega
              have r3 : (0 : Int) < l6 := by omega
              clear hbad hle ev6 ey6 hcp ex' hbp ri6 ly6 hA hb6
              go_wp2_with fail
              go_quiet ((go_at_call 83; exact Calls.quiet_of (KQ.out _)))
              go_wp2_with fail
              go_ret
              exact ⟨false, rfl, Fin.out, BD.out _⟩
            · have Ok2 : Hid (∀ j, j < i + 1 → OkB N bl j) := Lib.hid fun j hj => by
                by_cases e : j = i
                · subst e
                  refine ⟨fun e => ?_, by rw [Ey.out]; exact Pt.out, fun h0 => ?_⟩
                  · have h5 := Ly.out; rw [← Ey.out, e] at h5; simp at h5; omega
                  · rw [Ey.out, Ex.out]; omega
                · exact Ok.out j (by omega)
              have SD : Hid (∀ q, Slc (wr.drewN q) w.heap.size A' L c' ((bl.take i).flatten ++ y.take 0)) := Lib.hid fun q => by rw [List.take_zero, List.append_nil]; exact Ss.out.drewN q
              have ND : Hid (((bl.take i).flatten ++ y.take 0).Nodup) := Lib.hid (by rw [List.take_zero, List.append_nil]; exact Nd.out)
              by_cases hi0 : i = 0
              · subst hi0
                rw [Nat.add_zero] at x1
                clear hbad hA
                go_wp2_with fail
                go_quiet ((go_at_call 83; exact Calls.quiet_of (KQ.out _)))
                go_wp2_with fail
                go_loopw [5, 7] (fun v kv wr2 => ∃ (k c'' : Nat) (A'' : Option Addr), k ≤ l ∧ kv = .int .i64 (k : Nat) ∧ v = .slice A'' (L + k) c'' ∧ Slc wr2 w.heap.size A'' (L + k) c'' ((bl.take 0).flatten ++ y.take k) ∧ ((bl.take 0).flatten ++ y.take k).Nodup ∧ Below w.heap.size w wr2) (fun _ kv _ => l - (intOf kv).toNat)
                case atStart => exact ⟨0, c', A', Nat.zero_le _, rfl, rfl, SD.out _, ND.out, BD.out _⟩
                case round =>
                  clear SD ND BD KQ
                  obtain ⟨k, c'', A'', hk, rfl, rfl, hs, hnd, bel⟩ := hrel
                  have Ss' := Lib.hid hs
                  have Nd' := Lib.hid hnd
                  have Be' := Lib.hid bel
                  have hz' := bel.size
                  obtain ⟨xc, rr⟩ := KC.out _ bel
                  rw [Nat.add_zero] at xc
                  clear hs hnd bel x1 z0
                  by_cases hlt2 : k < l
                  · obtain ⟨bq, oq, eq, hbq, hcq⟩ := rr (by rw [Ly.out]; omega)
                    injection eq with eq; injection eq with eq1 eq2
                    subst eq1 eq2
                    have zk := hcq k (by rw [Ly.out]; exact hlt2)
                    obtain ⟨u, eu⟩ : ∃ u, y.getD k 0 = u := ⟨_, rfl⟩
                    rw [eu] at zk
                    obtain ⟨ans, hans⟩ : ∃ ans, hasB ((bl.take 0).flatten ++ y.take k) u = ans := ⟨_, rfl⟩
                    have Ha := Lib.hid hans
                    have Tk : Hid (y.take (k + 1) = y.take k ++ [u]) := Lib.hid (by rw [take_snocI (by rw [Ly.out]; exact hlt2), eu])
                    have k0 : (0 : Int) ≤ k := by omega
                    have k1 : (k : Int) < l := by omega
                    clear hcq eu hans hbq
                    rcases ans with _ | _
                    · have Nd2 : Hid (((bl.take 0).flatten ++ y.take (k + 1)).Nodup) := Lib.hid (by
                        rw [Tk.out, ← List.append_assoc]
                        rw [List.nodup_append]
                        refine ⟨Nd'.out, by simp, fun a ha b hb e => ?_⟩
                        rw [List.mem_singleton.1 hb] at e
                        subst e
                        have := hasB_mem.2 ha
                        rw [Ha.out] at this; cases this)
                      go_wp2_with (first
                        | (go_at_call 84; refine (containsI_any A'' c'' (L + k) _ u wr wr.heap.size Ss'.out.ri_ (Lib.hid Ss'.out.1) (by omega) false Ha).mono ?_; rintro e w' ⟨rfl, rfl⟩)
                        | (at_builtin; refine wpList_app1 rfl _ _ rfl w.heap.size A'' (L + k) c'' _ rfl (Ss'.out.alloc _) wr.heap.size u rfl (by rw [World.cell?_alloc_at _ _ _ _ rfl]; rfl) (by omega) (by simp; omega) ?_; intro A3 c3 w3 s3 g3)
                        | go_in)
                      have S3 : Hid (Slc w3 w.heap.size A3 (L + (k + 1)) c3 ((bl.take 0).flatten ++ y.take (k + 1))) := Lib.hid (by rw [Tk.out, ← List.append_assoc]; exact s3)
                      have B3 : Hid (Below w.heap.size w w3) := Lib.hid ((Be'.out.alloc hz' _).grown g3 (by simp; omega) (fun j hj => (Ss'.out.lt_ j hj).1))
                      clear s3 g3
                      go_wp2_with fail
                      go_roundw
                      case rel => exact ⟨k + 1, c3, A3, by omega, by go_num, rfl, S3.out, Nd2.out, B3.out⟩
                      case measure => simp [intOf]; omega
                    · have Fin : Hid (IsPrt N bl false) := Lib.hid (NoP.out fun h => by
                        have h5 := h.2.1
                        rw [← List.take_append_drop (0 + 1) bl, List.flatten_append] at h5
                        have h6 := (List.nodup_append.1 h5).1
                        rw [flat_take hi2, Ey.out, ← List.take_append_drop (k + 1) y, ← List.append_assoc] at h6
                        have h7 := (List.nodup_append.1 h6).1
                        rw [Tk.out, ← List.append_assoc] at h7
                        exact (List.nodup_append.1 h7).2.2 u (hasB_mem.1 Ha.out) u (by simp) rfl)
                      go_wp2_with (first
                        | (go_at_call 84; refine (containsI_any A'' c'' (L + k) _ u wr wr.heap.size Ss'.out.ri_ (Lib.hid Ss'.out.1) (by omega) true Ha).mono ?_; rintro e w' ⟨rfl, rfl⟩)
                        | go_in)
                      go_ret
                      exact ⟨false, rfl, Fin.out, Be'.out⟩
                  · obtain rfl : k = l := by omega
                    have e1 : Hid ((bl.take 0).flatten ++ y.take k = (bl.take (0 + 1)).flatten) := Lib.hid (by rw [flat_take hi2, Ey.out, show y.take k = y from List.take_of_length_le (by rw [Ly.out]; exact Nat.le_refl _)])
                    have S5 : Hid (Slc wr w.heap.size A'' (L + k) c'' (bl.take (0 + 1)).flatten) := Lib.hid (by rw [← e1.out]; exact Ss'.out)
                    have N5 : Hid ((bl.take (0 + 1)).flatten.Nodup) := Lib.hid (by rw [← e1.out]; exact Nd'.out)
                    go_wp2_with fail
                    go_roundw
                    case rel => exact ⟨0 + 1, L + k, c'', A'', by omega, by omega, by go_num, rfl, S5.out, N5.out, Ok2.out, Be'.out⟩
                    case measure => simp [intOf]; omega
              · obtain ⟨j, rfl⟩ : ∃ j, i = j + 1 := ⟨i - 1, by omega⟩
                obtain ⟨b6, o6, A6, l6, c6, y6, e6, hb6, ev6, ey6, x6, ri6, ly6, hlc6⟩ := (HX.out.up Be.out).at_ (show j < n by omega)
                injection e6 with e6; injection e6 with e7 e8
                subst e7 e8
                have hl6 : 0 < l6 := by rw [← ly6]; have := (Ok.out j (by omega)).1; rw [ey6] at this; exact List.length_pos_iff.2 this
                obtain ⟨bp, op, rfl, hbp, hcp⟩ := ri6 (by rw [ly6]; exact hl6)
                have p0 := hcp 0 (by rw [ly6]; exact hl6)
                obtain ⟨x', ex'⟩ : ∃ x', y6.getD 0 0 = x' := ⟨_, rfl⟩
                rw [ex', Nat.add_zero] at p0
                have hle : ¬ x ≤ x' := fun h => hbad ⟨by omega, by rw [Nat.add_sub_cancel, ey6, ex']; exact h⟩
                have d1 : decide ((0 : Int) < ((j + 1 : Nat) : Int)) = true := decide_eq_true (by omega)
                have d2 : decide (x ≤ x') = false := decide_eq_false hle
                have hw1 : IntKind.i64.wrap (((j + 1 : Nat) : Int) - 1) = (j : Int) := by rw [IntKind.wrap_i64]; omega
                have hw2 : ((j + 1 : Nat) : Int) - 1 = (j : Int) := by omega
                have r1 : (0 : Int) ≤ j := by omega
                have r2 : (j : Int) < n := by omega
                have r3 : (0 : Int) < l6 := by omega
                clear hbad hle ev6 ey6 hcp ex' hbp ri6 ly6 hA hb6
                go_wp2_with fail
                go_quiet ((go_at_call 83; exact Calls.quiet_of (KQ.out _)))
                go_wp2_with fail
                go_loopw [5, 7] (fun v kv wr2 => ∃ (k c'' : Nat) (A'' : Option Addr), k ≤ l ∧ kv = .int .i64 (k : Nat) ∧ v = .slice A'' (L + k) c'' ∧ Slc wr2 w.heap.size A'' (L + k) c'' ((bl.take (j + 1)).flatten ++ y.take k) ∧ ((bl.take (j + 1)).flatten ++ y.take k).Nodup ∧ Below w.heap.size w wr2) (fun _ kv _ => l - (intOf kv).toNat)
                case atStart => exact ⟨0, c', A', Nat.zero_le _, rfl, rfl, SD.out _, ND.out, BD.out _⟩
                case round =>
                  clear SD ND BD KQ
                  obtain ⟨k, c'', A'', hk, rfl, rfl, hs, hnd, bel⟩ := hrel
                  have Ss' := Lib.hid hs
                  have Nd' := Lib.hid hnd
                  have Be' := Lib.hid bel
                  have hz' := bel.size
                  obtain ⟨xc, rr⟩ := KC.out _ bel
                  clear hs hnd bel x1 z0
                  by_cases hlt2 : k < l
                  · obtain ⟨bq, oq, eq, hbq, hcq⟩ := rr (by rw [Ly.out]; omega)
                    injection eq with eq; injection eq with eq1 eq2
                    subst eq1 eq2
                    have zk := hcq k (by rw [Ly.out]; exact hlt2)
                    obtain ⟨u, eu⟩ : ∃ u, y.getD k 0 = u := ⟨_, rfl⟩
                    rw [eu] at zk
                    obtain ⟨ans, hans⟩ : ∃ ans, hasB ((bl.take (j + 1)).flatten ++ y.take k) u = ans := ⟨_, rfl⟩
                    have Ha := Lib.hid hans
                    have Tk : Hid (y.take (k + 1) = y.take k ++ [u]) := Lib.hid (by rw [take_snocI (by rw [Ly.out]; exact hlt2), eu])
                    have k0 : (0 : Int) ≤ k := by omega
                    have k1 : (k : Int) < l := by omega
                    clear hcq eu hans hbq
                    rcases ans with _ | _
                    · have Nd2 : Hid (((bl.take (j + 1)).flatten ++ y.take (k + 1)).Nodup) := Lib.hid (by
                        rw [Tk.out, ← List.append_assoc]
                        rw [List.nodup_append]
                        refine ⟨Nd'.out, by simp, fun a ha b hb e => ?_⟩
                        rw [List.mem_singleton.1 hb] at e
                        subst e
                        have := hasB_mem.2 ha
                        rw [Ha.out] at this; cases this)
                      go_wp2_with (first
                        | (go_at_call 84; refine (containsI_any A'' c'' (L + k) _ u wr wr.heap.size Ss'.out.ri_ (Lib.hid Ss'.out.1) (by omega) false Ha).mono ?_; rintro e w' ⟨rfl, rfl⟩)
                        | (at_builtin; refine wpList_app1 rfl _ _ rfl w.heap.size A'' (L + k) c'' _ rfl (Ss'.out.alloc _) wr.heap.size u rfl (by rw [World.cell?_alloc_at _ _ _ _ rfl]; rfl) (by omega) (by simp; omega) ?_; intro A3 c3 w3 s3 g3)
                        | go_in)
                      have S3 : Hid (Slc w3 w.heap.size A3 (L + (k + 1)) c3 ((bl.take (j + 1)).flatten ++ y.take (k + 1))) := Lib.hid (by rw [Tk.out, ← List.append_assoc]; exact s3)
                      have B3 : Hid (Below w.heap.size w w3) := Lib.hid ((Be'.out.alloc hz' _).grown g3 (by simp; omega) (fun j hj => (Ss'.out.lt_ j hj).1))
                      clear s3 g3
                      go_wp2_with fail
                      go_roundw
                      case rel => exact ⟨k + 1, c3, A3, by omega, by go_num, rfl, S3.out, Nd2.out, B3.out⟩
                      case measure => simp [intOf]; omega
                    · have Fin : Hid (IsPrt N bl false) := Lib.hid (NoP.out fun h => by
                        have h5 := h.2.1
                        rw [← List.take_append_drop ((j + 1) + 1) bl, List.flatten_append] at h5
                        have h6 := (List.nodup_append.1 h5).1
                        rw [flat_take hi2, Ey.out, ← List.take_append_drop (k + 1) y, ← List.append_assoc] at h6
                        have h7 := (List.nodup_append.1 h6).1
                        rw [Tk.out, ← List.append_assoc] at h7
                        exact (List.nodup_append.1 h7).2.2 u (hasB_mem.1 Ha.out) u (by simp) rfl)
                      go_wp2_with (first
                        | (go_at_call 84; refine (containsI_any A'' c'' (L + k) _ u wr wr.heap.size Ss'.out.ri_ (Lib.hid Ss'.out.1) (by omega) true Ha).mono ?_; rintro e w' ⟨rfl, rfl⟩)
                        | go_in)
                      go_ret
                      exact ⟨false, rfl, Fin.out, Be'.out⟩
                  · obtain rfl : k = l := by omega
                    have e1 : Hid ((bl.take (j + 1)).flatten ++ y.take k = (bl.take ((j + 1) + 1)).flatten) := Lib.hid (by rw [flat_take hi2, Ey.out, show y.take k = y from List.take_of_length_le (by rw [Ly.out]; exact Nat.le_refl _)])
                    have S5 : Hid (Slc wr w.heap.size A'' (L + k) c'' (bl.take ((j + 1) + 1)).flatten) := Lib.hid (by rw [← e1.out]; exact Ss'.out)
                    have N5 : Hid ((bl.take ((j + 1) + 1)).flatten.Nodup) := Lib.hid (by rw [← e1.out]; exact Nd'.out)
                    go_wp2_with fail
                    go_roundw
                    case rel => exact ⟨(j + 1) + 1, L + k, c'', A'', by omega, by omega, by go_num, rfl, S5.out, N5.out, Ok2.out, Be'.out⟩
                    case measure => simp [intOf]; omega
      · obtain rfl : i = n := by omega
        obtain ⟨ans, eans⟩ : ∃ ans, ((L : Int) == (N : Int)) = ans := ⟨_, rfl⟩
        have Fin : Hid (IsPrt N bl ans) := Lib.hid (by
          have e1 : bl.take i = bl := List.take_of_length_le (by rw [hlx.out]; exact Nat.le_refl _)
          have h5 := Ss.out.1
          have h6 := Nd.out
          rw [e1] at h5 h6
          unfold IsPrt
          rw [← eans, beq_iff_eq, Int.toNat_natCast]
          constructor
          · intro h; exact ⟨by omega, fun j hj => Ok.out j (by rw [← hlx.out]; exact hj), h6, by omega⟩
          · rintro ⟨_, _, _, h⟩; omega)
        go_wp2_with fail
        go_ret
        exact ⟨ans, rfl, Fin.out, Be.out⟩
end Go.Proofs.Ytedfcljikgmpgaa

/- The members of a group in lexicographic order: how many precede, how one entry adds to it. No Go in it. No condition. -/
namespace Go.Proofs.Ytedfcljikgmpgaa
open Go.RowKit

/-- They agree in the first i entries. -/
def Ag (i : Nat) (q p : List Int) : Prop := ∀ t, t < i → nx q t = nx p t
/-- q precedes p, by one of the first i entries. -/
def LxI (i : Nat) (q p : List Int) : Prop := ∃ t, t < i ∧ Ag t q p ∧ nx q t < nx p t
section
variable {N i : Nat} {p q r m : List Int}
theorem Ag.symm (h : Ag i q p) : Ag i p q := fun t ht => (h t ht).symm
theorem Ag.trans (h : Ag i q p) (h2 : Ag i p r) : Ag i q r := fun t ht => (h t ht).trans (h2 t ht)
theorem Ag.mono {j : Nat} (h : Ag i q p) (hj : j ≤ i) : Ag j q p := fun t ht => h t (by omega)
theorem Ag.refl (i : Nat) (p : List Int) : Ag i p p := fun _ _ => rfl
theorem ag_succ : Ag (i + 1) q p ↔ Ag i q p ∧ nx q i = nx p i :=
  ⟨fun h => ⟨h.mono (by omega), h i (by omega)⟩, fun ⟨a, b⟩ t ht => by
    by_cases e : t = i
    · subst e; exact b
    · exact a t (by omega)⟩
theorem lxi_succ : LxI (i + 1) q p ↔ LxI i q p ∨ (Ag i q p ∧ nx q i < nx p i) := by
  constructor
  · rintro ⟨t, ht, a, b⟩
    by_cases e : t = i
    · subst e; exact .inr ⟨a, b⟩
    · exact .inl ⟨t, by omega, a, b⟩
  · rintro (⟨t, ht, a, b⟩ | ⟨a, b⟩)
    · exact ⟨t, by omega, a, b⟩
    · exact ⟨i, by omega, a, b⟩
theorem lxi_ag (h : Ag i p r) : LxI i q p ↔ LxI i q r := by
  constructor
  · rintro ⟨t, ht, a, b⟩
    exact ⟨t, ht, a.trans (h.mono (by omega)), by rw [← h t ht]; exact b⟩
  · rintro ⟨t, ht, a, b⟩
    exact ⟨t, ht, a.trans (h.mono (by omega)).symm, by rw [h t ht]; exact b⟩
theorem lxi_not (h : Ag i q p) : ¬ LxI i q p := fun ⟨t, ht, _, b⟩ => by rw [h t ht] at b; omega
theorem lxi_tri (p q : List Int) : ∀ i, Ag i p q ∨ LxI i p q ∨ LxI i q p
  | 0 => .inl fun _ h => absurd h (Nat.not_lt_zero _)
  | i + 1 => by
    rcases lxi_tri p q i with h | h | h
    · rcases Nat.lt_trichotomy (nx p i) (nx q i) with e | e | e
      · exact .inr (.inl (lxi_succ.2 (.inr ⟨h, e⟩)))
      · exact .inl (ag_succ.2 ⟨h, e⟩)
      · exact .inr (.inr (lxi_succ.2 (.inr ⟨h.symm, e⟩)))
    · exact .inr (.inl (lxi_succ.2 (.inl h)))
    · exact .inr (.inr (lxi_succ.2 (.inl h)))
theorem lx_tri (hp : Pn N p) (hq : Pn N q) : p = q ∨ LxI N p q ∨ LxI N q p := by
  rcases lxi_tri p q N with h | h | h
  · exact .inl (hp.ext hq h)
  · exact .inr (.inl h)
  · exact .inr (.inr h)
theorem LxI.trans (h : LxI N p q) (h2 : LxI N q r) : LxI N p r := by
  obtain ⟨t, ht, a, b⟩ := h
  obtain ⟨s, hs, a', b'⟩ := h2
  rcases Nat.lt_trichotomy t s with e | e | e
  · exact ⟨t, ht, a.trans (a'.mono (by omega)), by rw [← a' t e]; exact b⟩
  · subst e; exact ⟨t, ht, a.trans a', by omega⟩
  · exact ⟨s, hs, (a.mono (by omega)).trans a', by rw [a s e]; exact b'⟩
theorem LxI.irr : ¬ LxI N p p := lxi_not (Ag.refl _ _)
theorem LxI.mono {j : Nat} (h : LxI i q p) (hj : i ≤ j) : LxI j q p := by
  obtain ⟨t, ht, a, b⟩ := h
  exact ⟨t, by omega, a, b⟩
end

/-! ### counting -/
section
variable {P Q : List Int → Prop} {a b : Nat}
theorem crd_or (h : Crd P a) (h2 : Crd Q b) (hd : ∀ x, P x → ¬ Q x) : Crd (fun x => P x ∨ Q x) (a + b) := by
  obtain ⟨l, d, m, rfl⟩ := h
  obtain ⟨l', d', m', rfl⟩ := h2
  refine ⟨l ++ l', List.nodup_append.2 ⟨d, d', fun x hx y hy e => hd x ((m x).1 hx) ((m' x).1 (e ▸ hy))⟩, fun p => ?_, by simp⟩
  rw [List.mem_append, m, m']
theorem crd_sub (h : Crd P a) (h2 : Crd Q b) (hs : ∀ x, P x → Q x) : a ≤ b := by
  obtain ⟨l, d, m, rfl⟩ := h
  obtain ⟨l', d', m', rfl⟩ := h2
  exact nd_subA d fun x hx => (m' x).2 (hs x ((m x).1 hx))
theorem crd_none (h : ∀ x, ¬ P x) : Crd P 0 := ⟨[], List.nodup_nil, fun p => ⟨fun hp => absurd hp List.not_mem_nil, fun hp => absurd hp (h p)⟩, rfl⟩
theorem crd_one (m : List Int) : Crd (fun q => q = m) 1 := ⟨[m], by simp, fun p => by simp, rfl⟩
theorem crd_fib {O : List Nat} {i c : Nat} (hO : O.Nodup) (h : ∀ v ∈ O, Crd (fun q => P q ∧ nx q i = v) c) : Crd (fun q => P q ∧ nx q i ∈ O) (O.length * c) := by
  have hf : ∃ f : Nat → List (List Int), ∀ v ∈ O, (f v).Nodup ∧ (∀ q, q ∈ f v ↔ P q ∧ nx q i = v) ∧ (f v).length = c := by
    refine ⟨fun v => if hv : v ∈ O then Classical.choose (h v hv) else [], fun v hv => ?_⟩
    simp only [hv, dif_pos]
    have := Classical.choose_spec (h v hv)
    exact ⟨this.1, this.2.1, this.2.2.symm⟩
  obtain ⟨f, hf⟩ := hf
  obtain ⟨i1, i2⟩ := flat_nd (f := f) (m := c) hO (fun v hv => (hf v hv).1) (fun v hv z hz hne p hp hp2 => hne (by rw [← (((hf v hv).2.1 p).1 hp).2, ← (((hf z hz).2.1 p).1 hp2).2])) (fun v hv => (hf v hv).2.2)
  refine ⟨_, i1, fun p => ?_, i2.symm⟩
  rw [List.mem_flatMap]
  constructor
  · rintro ⟨v, hv, hp⟩
    obtain ⟨a, b⟩ := ((hf v hv).2.1 p).1 hp
    exact ⟨a, b ▸ hv⟩
  · rintro ⟨a, b⟩
    exact ⟨_, b, ((hf _ b).2.1 p).2 ⟨a, rfl⟩⟩
end

/-! ### members that agree in the first entries -/
section
variable {N i : Nat} {gs : List (List Int)} {xs : List Int} {m p : List Int}
theorem gdx' {l : List Int} {j : Nat} (h : j < l.length) : l.getD j 0 = l[j] := by
  rw [List.getD_eq_getElem?_getD, List.getElem?_eq_getElem h]; rfl
theorem agree_card (h : IsOS N gs xs) (hg : ∀ g ∈ gs, Pn N g) (h1 : 1 ≤ N) (h2 : N ≤ 20) (hi : i ≤ N) (hm : Mb gs N m) : ∃ v, Crd (fun q => Mb gs N q ∧ Ag i q m) v ∧ pr xs i (N - i) = (v : Int) := by
  obtain ⟨v, hc, e⟩ := h.card hg h1 h2 (N - i) i (by omega)
  have hpn : ∀ p, Mb gs N p → Pn N p := fun p hp => hp.pn hg h1 h2
  have hmp := hpn m hm
  refine ⟨v, hc.map (fun q => compL q m) (fun a ha b hb e => ?_) (fun q => ?_), e⟩
  · have : compL (compL a m) (iv m) = compL (compL b m) (iv m) := congrArg (fun t => compL t (iv m)) e
    rwa [(hpn a ha.1).assoc hmp, (hpn b hb.1).assoc hmp, hmp.ci, (hpn a ha.1).idr, (hpn b hb.1).idr] at this
  · constructor
    · rintro ⟨a, b⟩
      have hq := hpn q a
      refine ⟨compL q (iv m), ⟨a.comp hg h1 h2 (hm.inv hg h1 h2), fun t ht => ?_⟩, ?_⟩
      · rw [hq.nxc (by omega), b t ht, hmp.nxi (by omega)]
      · rw [hq.assoc hmp.iv, hmp.ic, hq.idr]
    · rintro ⟨r, ⟨a, b⟩, rfl⟩
      refine ⟨a.comp hg h1 h2 hm, fun t ht => ?_⟩
      rw [(hpn r a).nxc (by omega), b t ht]
/-- The entries that members which agree with m before i have there, in ascending order. -/
def ChL (N : Nat) (gs : List (List Int)) (m : List Int) (i : Nat) (zs : List Int) : Prop :=
  zs.Pairwise (· < ·) ∧ ∀ v : Int, v ∈ zs ↔ ∃ q, Mb gs N q ∧ Ag i q m ∧ (nx q i : Int) = v
theorem ChL.nodup {zs : List Int} (h : ChL N gs m i zs) : zs.Nodup := h.1.imp fun hab e => by omega
theorem ChL.nonneg {zs : List Int} (h : ChL N gs m i zs) {v : Int} (hv : v ∈ zs) : 0 ≤ v := by
  obtain ⟨q, _, _, rfl⟩ := (h.2 v).1 hv; omega
theorem ChL.uniq {zs ys : List Int} (h : ChL N gs m i zs) (h' : ChL N gs m i ys) : zs = ys := by
  have hm : ∀ v, v ∈ zs ↔ v ∈ ys := fun v => (h.2 v).trans (h'.2 v).symm
  have hp : zs.Perm ys := (List.perm_ext_iff_of_nodup h.nodup h'.nodup).2 hm
  exact hp.eq_of_pairwise (le := (· ≤ ·)) (fun a b _ _ h1 h2 => by omega) (h.1.imp fun hab => by omega) (h'.1.imp fun hab => by omega)
theorem ChL.ag {m' : List Int} {zs : List Int} (h : ChL N gs m i zs) (ha : Ag i m m') : ChL N gs m' i zs :=
  ⟨h.1, fun v => (h.2 v).trans ⟨fun ⟨q, a, b, c⟩ => ⟨q, a, b.trans ha, c⟩, fun ⟨q, a, b, c⟩ => ⟨q, a, b.trans ha.symm, c⟩⟩⟩
theorem ChL.len {zs : List Int} (h : ChL N gs m i zs) (ho : IsOS N gs xs) (hg : ∀ g ∈ gs, Pn N g) (h1 : 1 ≤ N) (h2 : N ≤ 20) (hi : i < N) (hm : Mb gs N m) : (zs.length : Int) = xs.getD i 0 := by
  obtain ⟨l, d, hl, e⟩ := ho.2 i hi
  have hmp := hm.pn hg h1 h2
  have hd : (l.map fun y => (nx m y : Int)).Nodup := nd_mapA d fun x hx y hy e => hmp.inj ((hl x).1 hx).1 ((hl y).1 hy).1 (by omega)
  have hmem : ∀ v, v ∈ (l.map fun y => (nx m y : Int)) ↔ v ∈ zs := fun v => by
    rw [List.mem_map, h.2]
    constructor
    · rintro ⟨y, hy, rfl⟩
      obtain ⟨hyN, p, hp, hf, rfl⟩ := (hl y).1 hy
      have hpp := hp.pn hg h1 h2
      exact ⟨compL p m, hp.comp hg h1 h2 hm, fun t ht => by rw [hpp.nxc (by omega), hf t ht], by rw [hpp.nxc hi]⟩
    · rintro ⟨q, hq, ha, rfl⟩
      have hqp := hq.pn hg h1 h2
      have hlt := hmp.iv.lt (hqp.lt hi)
      refine ⟨nx (iv m) (nx q i), (hl _).2 ⟨hlt, compL q (iv m), hq.comp hg h1 h2 (hm.inv hg h1 h2), fun t ht => ?_, ?_⟩, ?_⟩
      · rw [hqp.nxc (by omega), ha t ht, hmp.nxi (by omega)]
      · rw [hqp.nxc hi]
      · rw [hmp.nxi' (hqp.lt hi)]
  have a := nd_subA hd fun v hv => (hmem v).1 hv
  have b := nd_subA h.nodup fun v hv => (hmem v).2 hv
  rw [List.length_map] at a b
  rw [e]; omega
/-- One entry more: so many members more precede p. -/
theorem rank_step {zs : List Int} {K T : Nat} (h : ChL N gs m i zs) (ho : IsOS N gs xs) (hg : ∀ g ∈ gs, Pn N g) (h1 : 1 ≤ N) (h2 : N ≤ 20) (hi : i < N) (hm : Mb gs N m) (ha : Ag i m p)
    (hK : K ≤ zs.length) (hlo : ∀ j, j < K → zs.getD j 0 < (nx p i : Int)) (hhi : K < zs.length → (nx p i : Int) ≤ zs.getD K 0) (hT : Crd (fun q => Mb gs N q ∧ LxI i q p) T) :
    ∃ c : Nat, pr xs (i + 1) (N - (i + 1)) = (c : Int) ∧ Crd (fun q => Mb gs N q ∧ LxI (i + 1) q p) (T + K * c) := by
  obtain ⟨c, _, hc⟩ := agree_card ho hg h1 h2 (i := i + 1) (by omega) hm
  refine ⟨c, hc, ?_⟩
  have hat : ∀ j, j < zs.length → zs.getD j 0 ∈ zs := fun j hj => by rw [gdx' hj]; exact List.getElem_mem hj
  have hin : ∀ v, v ∈ (zs.take K).map Int.toNat ↔ (v : Int) ∈ zs ∧ (v : Int) < (nx p i : Int) := fun v => by
    rw [List.mem_map]
    constructor
    · rintro ⟨x, hx, rfl⟩
      obtain ⟨j, hj, rfl⟩ := List.mem_iff_getElem.1 hx
      rw [List.length_take] at hj
      rw [List.getElem_take]
      have hz := List.getElem_mem (l := zs) (n := j) (by omega)
      have hl := hlo j (by omega)
      rw [gdx' (by omega)] at hl
      have := h.nonneg hz
      rw [Int.toNat_of_nonneg this]
      exact ⟨hz, hl⟩
    · rintro ⟨hv, hl⟩
      obtain ⟨j, hj, e⟩ := List.mem_iff_getElem.1 hv
      have hjK : j < K := by
        rcases Nat.lt_or_ge j K with h3 | h3
        · exact h3
        · have h4 := hhi (by omega)
          rw [gdx' (by omega)] at h4
          have h5 : zs[K]'(by omega) ≤ zs[j] := by
            rcases Nat.lt_or_ge K j with h6 | h6
            · have := List.pairwise_iff_getElem.1 h.1 K j (by omega) hj h6; omega
            · obtain rfl : K = j := by omega
              exact Int.le_refl _
          omega
      exact ⟨(v : Int), by rw [← e]; exact List.mem_iff_getElem.2 ⟨j, by rw [List.length_take]; omega, by rw [List.getElem_take]⟩, Int.toNat_natCast v⟩
  have hnd : ((zs.take K).map Int.toNat).Nodup := nd_mapA (h.nodup.sublist (List.take_sublist _ _)) fun x hx y hy e => by
    have := h.nonneg (List.mem_of_mem_take hx)
    have := h.nonneg (List.mem_of_mem_take hy)
    omega
  have hf := crd_fib (P := fun q => Mb gs N q ∧ Ag i q m) (i := i) (c := c) hnd fun v hv => by
    obtain ⟨hz, _⟩ := (hin v).1 hv
    obtain ⟨r, hr, hra, hrv⟩ := (h.2 _).1 hz
    obtain ⟨c', hc', e'⟩ := agree_card ho hg h1 h2 (i := i + 1) (by omega) hr
    obtain rfl : c' = c := by omega
    exact hc'.congr fun q => by
      rw [ag_succ, and_assoc]
      have e2 : nx r i = v := by omega
      rw [e2]
      exact ⟨fun ⟨a, b, d⟩ => ⟨a, b.trans hra, d⟩, fun ⟨a, b, d⟩ => ⟨a, b.trans hra.symm, d⟩⟩
  have hlen : ((zs.take K).map Int.toNat).length = K := by rw [List.length_map, List.length_take]; omega
  rw [hlen] at hf
  refine (crd_or hT hf fun q hq hq2 => lxi_not (hq2.1.2.trans ha) hq.2).congr fun q => ?_
  rw [lxi_succ, hin]
  constructor
  · rintro (⟨a, b⟩ | ⟨⟨a, b⟩, _, d⟩)
    · exact ⟨a, .inl b⟩
    · exact ⟨a, .inr ⟨b.trans ha, by omega⟩⟩
  · rintro ⟨a, b | ⟨b, d⟩⟩
    · exact .inl ⟨a, b⟩
    · exact .inr ⟨⟨a, b.trans ha.symm⟩, (h.2 _).2 ⟨q, a, b.trans ha.symm, rfl⟩, by omega⟩
/-- Where p's entry is none that they have, nothing is added behind it. -/
theorem rank_stop {zs : List Int} {T : Nat} (h : ChL N gs m i zs) (hi : i < N) (ha : Ag i m p) (hn : (nx p i : Int) ∉ zs) (hT : Crd (fun q => Mb gs N q ∧ LxI (i + 1) q p) T) : Crd (fun q => Mb gs N q ∧ LxI N q p) T := by
  refine hT.congr fun q => ⟨fun ⟨a, b⟩ => ⟨a, b.mono (by omega)⟩, fun ⟨a, t, ht, b, d⟩ => ⟨a, t, ?_, b, d⟩⟩
  rcases Nat.lt_or_ge t (i + 1) with hl | hl
  · exact hl
  · exact absurd ((h.2 _).2 ⟨q, a, (b.mono (by omega)).trans ha.symm, by rw [b i (by omega)]⟩) hn

/-! ### ranks -/
def Rk (N : Nat) (gs : List (List Int)) (p : List Int) (c : Nat) : Prop := Crd (fun q => Mb gs N q ∧ LxI N q p) c
theorem rk_lt {p q : List Int} {c d V : Nat} (hp : Rk N gs p c) (hq : Rk N gs q d) (hpm : Mb gs N p) (hl : LxI N p q) : c < d := by
  have h := crd_or hp (crd_one p) fun x hx e => LxI.irr (e ▸ hx.2)
  have := crd_sub h hq fun x hx => by
    rcases hx with ⟨a, b⟩ | rfl
    · exact ⟨a, b.trans hl⟩
    · exact ⟨hpm, hl⟩
  omega
theorem rk_inj {p q : List Int} {c : Nat} (hg : ∀ g ∈ gs, Pn N g) (h1 : 1 ≤ N) (h2 : N ≤ 20) (hp : Rk N gs p c) (hq : Rk N gs q c) (hpm : Mb gs N p) (hqm : Mb gs N q) : p = q := by
  rcases lx_tri (hpm.pn hg h1 h2) (hqm.pn hg h1 h2) with e | e | e
  · exact e
  · have := rk_lt (V := 0) hp hq hpm e; omega
  · have := rk_lt (V := 0) hq hp hqm e; omega
theorem rk_ord {p : List Int} {c V : Nat} (hp : Rk N gs p c) (hV : Crd (Mb gs N) V) (hpm : Mb gs N p) : c < V := by
  have h := crd_or hp (crd_one p) fun x hx e => LxI.irr (e ▸ hx.2)
  have := crd_sub h hV fun x hx => by
    rcases hx with ⟨a, _⟩ | rfl
    · exact a
    · exact hpm
  omega
end
end Go.Proofs.Ytedfcljikgmpgaa

/- Sets of permutations that are closed under products and inverses: cosets, their smallest members, Lagrange, index two, the center. No Go in it. No condition. -/
namespace Go.Proofs.Ytedfcljikgmpgaa
open Go.RowKit

/-- A group of permutations of N points. -/
structure Sgp (N : Nat) (H : List Int → Prop) : Prop where
  pn : ∀ p, H p → Pn N p
  one : H (idL N)
  mul : ∀ p q, H p → H q → H (compL p q)
  inv : ∀ p, H p → H (iv p)
/-- q lies in the coset of p. -/
def Cos (H : List Int → Prop) (p q : List Int) : Prop := ∃ h, H h ∧ q = compL h p
/-- m is the smallest of p's coset. -/
def CMin (N : Nat) (H : List Int → Prop) (p m : List Int) : Prop := Cos H p m ∧ ∀ q, Cos H p q → ¬ LxI N q m
section
variable {N h g : Nat} {H G : List Int → Prop} {p q r m m' : List Int} {gs : List (List Int)}
theorem sgp_mb (hg : ∀ g ∈ gs, Pn N g) (h1 : 1 ≤ N) (h2 : N ≤ 20) : Sgp N (Mb gs N) := ⟨fun _ h => h.pn hg h1 h2, .one, fun _ _ a b => a.comp hg h1 h2 b, fun _ a => a.inv hg h1 h2⟩
theorem Cos.pn (hH : Sgp N H) (hp : Pn N p) (h : Cos H p q) : Pn N q := by
  obtain ⟨x, hx, rfl⟩ := h
  exact (hH.pn x hx).comp hp
theorem cos_refl (hH : Sgp N H) (hp : Pn N p) : Cos H p p := ⟨idL N, hH.one, hp.idl.symm⟩
theorem Cos.symm (hH : Sgp N H) (hp : Pn N p) (h : Cos H p q) : Cos H q p := by
  obtain ⟨x, hx, rfl⟩ := h
  have hxp := hH.pn x hx
  exact ⟨iv x, hH.inv x hx, by rw [← hxp.iv.assoc hxp, hxp.ic, hp.idl]⟩
theorem Cos.trans (hH : Sgp N H) (h : Cos H p q) (h' : Cos H q r) : Cos H p r := by
  obtain ⟨x, hx, rfl⟩ := h
  obtain ⟨y, hy, rfl⟩ := h'
  exact ⟨compL y x, hH.mul y x hy hx, ((hH.pn y hy).assoc (hH.pn x hx)).symm⟩
theorem cos_iff (hH : Sgp N H) (hp : Pn N p) (hq : Pn N q) : Cos H p q ↔ H (compL q (iv p)) := by
  constructor
  · rintro ⟨x, hx, rfl⟩
    have hxp := hH.pn x hx
    rw [hxp.assoc hp, hp.ci, hxp.idr]; exact hx
  · exact fun h => ⟨_, h, by rw [hq.assoc hp.iv, hp.ic, hq.idr]⟩
theorem cancel_r (hp : Pn N p) (hq : Pn N q) (hr : Pn N r) (e : compL p r = compL q r) : p = q := by
  have : compL (compL p r) (iv r) = compL (compL q r) (iv r) := congrArg (fun t => compL t (iv r)) e
  rwa [hp.assoc hr, hq.assoc hr, hr.ci, hp.idr, hq.idr] at this
/-- A list that isn't empty has a smallest. -/
theorem lx_min : ∀ l : List (List Int), l ≠ [] → (∀ x ∈ l, Pn N x) → ∃ m ∈ l, ∀ q ∈ l, ¬ LxI N q m
  | [], h, _ => absurd rfl h
  | [a], _, _ => ⟨a, by simp, fun q hq => by rw [List.mem_singleton.1 hq]; exact LxI.irr⟩
  | a :: b :: t, _, hp => by
    obtain ⟨m, hm, hmin⟩ := lx_min (b :: t) (by simp) fun x hx => hp x (List.mem_cons_of_mem _ hx)
    rcases Classical.em (LxI N a m) with hl | hl
    · refine ⟨a, by simp, fun q hq hqa => ?_⟩
      rcases List.mem_cons.1 hq with rfl | hq
      · exact LxI.irr hqa
      · exact hmin q hq (hqa.trans hl)
    · refine ⟨m, List.mem_cons_of_mem _ hm, fun q hq hqm => ?_⟩
      rcases List.mem_cons.1 hq with rfl | hq
      · exact hl hqm
      · exact hmin q hq hqm
theorem CMin.ex (hH : Sgp N H) (cH : Crd H h) (hp : Pn N p) : ∃ m, CMin N H p m := by
  obtain ⟨l, hd, hm, _⟩ := cH
  obtain ⟨m, hmm, hmin⟩ := lx_min (N := N) (l.map fun x => compL x p) (by
    intro e
    have := (hm (idL N)).2 hH.one
    rw [List.map_eq_nil_iff] at e
    rw [e] at this; cases this) fun x hx => by
      obtain ⟨y, hy, rfl⟩ := List.mem_map.1 hx
      exact (hH.pn y ((hm y).1 hy)).comp hp
  obtain ⟨y, hy, rfl⟩ := List.mem_map.1 hmm
  refine ⟨_, ⟨y, (hm y).1 hy, rfl⟩, fun q hq => ?_⟩
  obtain ⟨x, hx, rfl⟩ := hq
  exact hmin _ (List.mem_map.2 ⟨x, (hm x).2 hx, rfl⟩)
theorem CMin.uniq (hH : Sgp N H) (hp : Pn N p) (a : CMin N H p m) (b : CMin N H p m') : m = m' := by
  rcases lx_tri (a.1.pn hH hp) (b.1.pn hH hp) with e | e | e
  · exact e
  · exact absurd e (b.2 m a.1)
  · exact absurd e (a.2 m' b.1)
theorem CMin.cos (hH : Sgp N H) (hp : Pn N p) (c : Cos H p q) (a : CMin N H p m) : CMin N H q m :=
  ⟨(c.symm hH hp).trans hH a.1, fun x hx => a.2 x (c.trans hH hx)⟩
/-- Two permutations have one coset exactly if the smallest of their cosets is the same. -/
theorem CMin.same (hH : Sgp N H) (hp : Pn N p) (hq : Pn N q) (a : CMin N H p m) (b : CMin N H q m') : Cos H p q ↔ m = m' := by
  constructor
  · exact fun c => (a.cos hH hp c).uniq hH hq b
  · rintro rfl
    exact a.1.trans hH (b.1.symm hH hq)
theorem flat_ndL {β : Type} {f : List Int → List β} {m : Nat} : ∀ {O : List (List Int)}, O.Nodup → (∀ y ∈ O, (f y).Nodup) → (∀ y ∈ O, ∀ z ∈ O, y ≠ z → ∀ p, p ∈ f y → p ∉ f z) → (∀ y ∈ O, (f y).length = m) →
    (O.flatMap f).Nodup ∧ (O.flatMap f).length = O.length * m
  | [], _, _, _, _ => by simp
  | a :: t, hd, h1, h2, h3 => by
    rw [List.nodup_cons] at hd
    obtain ⟨i1, i2⟩ := flat_ndL (O := t) hd.2 (fun y hy => h1 y (by simp [hy])) (fun y hy z hz => h2 y (by simp [hy]) z (by simp [hz])) (fun y hy => h3 y (by simp [hy]))
    rw [List.flatMap_cons]
    refine ⟨List.nodup_append.2 ⟨h1 a (by simp), i1, fun p hp q hq e => ?_⟩, ?_⟩
    · subst e
      obtain ⟨z, hz, hq⟩ := List.mem_flatMap.1 hq
      exact h2 a (by simp) z (by simp [hz]) (fun e => hd.1 (e ▸ hz)) p hp hq
    · rw [List.length_append, i2, h3 a (by simp), List.length_cons, Nat.succ_mul]; omega
/-- Lagrange: so many smallest members of cosets, times the order of the subgroup. -/
theorem lagr (hG : Sgp N G) (hH : Sgp N H) (hs : ∀ p, H p → G p) (cG : Crd G g) (cH : Crd H h) : ∃ k, Crd (fun p => G p ∧ CMin N H p p) k ∧ g = k * h := by
  classical
  have cG0 := cG
  have cH0 := cH
  obtain ⟨lG, dG, mG, _⟩ := cG
  obtain ⟨lH, dH, mH, eH⟩ := cH
  have hR : ∀ p, p ∈ lG.filter (fun p => decide (CMin N H p p)) ↔ G p ∧ CMin N H p p := fun p => by rw [List.mem_filter, mG, decide_eq_true_eq]
  refine ⟨_, ⟨lG.filter fun p => decide (CMin N H p p), dG.filter _, hR, rfl⟩, ?_⟩
  obtain ⟨i1, i2⟩ := flat_ndL (O := lG.filter fun p => decide (CMin N H p p)) (f := fun r => lH.map fun x => compL x r) (m := h) (dG.filter _)
    (fun r hr => nd_mapA dH fun x hx y hy e => cancel_r (hH.pn x ((mH x).1 hx)) (hH.pn y ((mH y).1 hy)) (hG.pn r ((hR r).1 hr).1) e)
    (fun r hr s hs' hne p hp hp2 => by
      obtain ⟨x, hx, rfl⟩ := List.mem_map.1 hp
      obtain ⟨y, hy, e⟩ := List.mem_map.1 hp2
      obtain ⟨gr, cr⟩ := (hR r).1 hr
      obtain ⟨gs', cs⟩ := (hR s).1 hs'
      have c1 : Cos H r (compL x r) := ⟨x, (mH x).1 hx, rfl⟩
      have c2 : Cos H s (compL x r) := ⟨y, (mH y).1 hy, e.symm⟩
      have c3 : Cos H r s := c1.trans hH (c2.symm hH (hG.pn s gs'))
      exact hne ((cr.cos hH (hG.pn r gr) c3).uniq hH (hG.pn s gs') cs))
    (fun r _ => by rw [List.length_map]; exact eH.symm)
  refine cG0.uniq ⟨_, i1, fun p => ?_, i2.symm⟩
  rw [List.mem_flatMap]
  constructor
  · rintro ⟨r, hr, hp⟩
    obtain ⟨x, hx, rfl⟩ := List.mem_map.1 hp
    exact hG.mul _ _ (hs x ((mH x).1 hx)) ((hR r).1 hr).1
  · intro gp
    obtain ⟨m, hm⟩ := CMin.ex hH cH0 (hG.pn p gp)
    obtain ⟨y, hy, e⟩ := hm.1.symm hH (hG.pn p gp)
    have hgm : G m := by
      obtain ⟨x, hx, rfl⟩ := hm.1
      exact hG.mul _ _ (hs x hx) gp
    exact ⟨m, (hR m).2 ⟨hgm, hm.cos hH (hG.pn p gp) hm.1⟩, List.mem_map.2 ⟨y, (mH y).2 hy, e.symm⟩⟩
/-- The identity precedes all. -/
theorem lx_id (hp : Pn N p) : ¬ LxI N p (idL N) := by
  rintro ⟨t, ht, a, b⟩
  rw [nx_id ht] at b
  have : Fx t p := fun i hi => by rw [a i hi, nx_id (by omega)]
  have := this.ge hp ht
  omega
theorem CMin.one (hH : Sgp N H) : CMin N H (idL N) (idL N) := ⟨cos_refl hH (hH.pn _ hH.one), fun _ hq => lx_id (hq.pn hH (hH.pn _ hH.one))⟩
theorem cos_one (hH : Sgp N H) : Cos H (idL N) p ↔ H p := by
  constructor
  · rintro ⟨x, hx, rfl⟩
    rw [(hH.pn x hx).idr]; exact hx
  · exact fun h => ⟨p, h, (hH.pn p h).idr.symm⟩
/-- In a group of twice as many, those outside have one coset. -/
theorem two_cos (hG : Sgp N G) (hH : Sgp N H) (hs : ∀ p, H p → G p) (cG : Crd G g) (cH : Crd H h) (e : g = 2 * h) (hh : 1 ≤ h) (gp : G p) (gq : G q) (np : ¬ H p) (nq : ¬ H q) : Cos H p q := by
  obtain ⟨k, ck, ek⟩ := lagr hG hH hs cG cH
  obtain rfl : k = 2 := by
    rw [e] at ek
    exact (Nat.eq_of_mul_eq_mul_right hh ek).symm
  obtain ⟨l, d, m, el⟩ := ck
  obtain ⟨mp, hmp⟩ := CMin.ex hH cH (hG.pn p gp)
  obtain ⟨mq, hmq⟩ := CMin.ex hH cH (hG.pn q gq)
  have hin : ∀ {x y : List Int}, G x → CMin N H x y → y ∈ l := fun gx hy => (m _).2 ⟨by
    obtain ⟨z, hz, rfl⟩ := hy.1
    exact hG.mul _ _ (hs z hz) gx, hy.cos hH (hG.pn _ gx) hy.1⟩
  have h1 := hin (hs _ hH.one) (CMin.one hH)
  have h2 := hin gp hmp
  have h3 := hin gq hmq
  have ne : ∀ {x y : List Int}, G x → ¬ H x → CMin N H x y → y ≠ idL N := fun gx nx hy e => by
    subst e
    exact nx ((cos_one hH).1 (hy.1.symm hH (hG.pn _ gx)))
  refine (hmp.same hH (hG.pn p gp) (hG.pn q gq) hmq).2 ?_
  rcases Classical.em (mp = mq) with e2 | e2
  · exact e2
  · exfalso
    have := nd_subA (l' := [idL N, mp, mq]) (l := l) (by simp [(ne gp np hmp).symm, (ne gq nq hmq).symm, e2]) fun x hx => by
      simp at hx
      rcases hx with rfl | rfl | rfl
      · exact h1
      · exact h2
      · exact h3
    simp at this
    omega
/-- A subgroup of index two is normal. -/
theorem two_normal (hG : Sgp N G) (hH : Sgp N H) (hs : ∀ p, H p → G p) (cG : Crd G g) (cH : Crd H h) (e : g = 2 * h) (hh : 1 ≤ h) (hp : H p) (gq : G q) : H (compL (compL (iv q) p) q) := by
  have pq := hG.pn q gq
  have pp := hH.pn p hp
  rcases Classical.em (H q) with hq | hq
  · exact hH.mul _ _ (hH.mul _ _ (hH.inv q hq) hp) hq
  · rcases Classical.em (H (compL (compL (iv q) p) q)) with hx | hx
    · exact hx
    · exfalso
      obtain ⟨y, hy, ey⟩ := two_cos hG hH hs cG cH e hh gq (hG.mul _ _ (hG.mul _ _ (hG.inv q gq) (hs p hp)) gq) hq hx
      have e2 : compL (iv q) p = y := cancel_r (pq.iv.comp pp) (hH.pn y hy) pq ey
      have e3 : iv q = compL y (iv p) := by rw [← e2, pq.iv.assoc pp, pp.ci, pq.iv.idr]
      have h4 : H (iv q) := by rw [e3]; exact hH.mul _ _ hy (hH.inv p hp)
      have := hH.inv _ h4
      rw [pq.iviv] at this
      exact hq this
/-- What begins with the identity, holds smallest members of cosets of what bs generates, and goes on at every generator, holds all of them. -/
theorem reps_all {bs l : List (List Int)} (hH : Sgp N H) (cH : Crd H h) (hb : ∀ g ∈ bs, Pn N g) (h1 : 1 ≤ N) (h2 : N ≤ 20) (l0 : idL N ∈ l) (hm : ∀ r ∈ l, Mb bs N r ∧ CMin N H r r) (hc : ∀ r ∈ l, ∀ g ∈ bs, ∀ m, CMin N H (compL r g) m → m ∈ l) : ∀ p, p ∈ l ↔ Mb bs N p ∧ CMin N H p p := by
  have key : ∀ q, Mb bs N q → ∃ r ∈ l, Cos H r q := fun q hq => by
    induction hq with
    | one => exact ⟨idL N, l0, cos_refl hH (pn_id h1 h2)⟩
    | @mul q' g hq' hg ih =>
      obtain ⟨r, hr, x, hx, e⟩ := ih
      have pr := (hm r hr).1.pn hb h1 h2
      have pg := hb _ hg
      obtain ⟨m, hmm⟩ := CMin.ex hH cH (pr.comp pg)
      refine ⟨m, hc r hr _ hg m hmm, (hmm.1.symm hH (pr.comp pg)).trans hH ⟨x, hx, ?_⟩⟩
      rw [e, (hH.pn x hx).assoc pr]
  refine fun p => ⟨hm p, fun ⟨hp, hmin⟩ => ?_⟩
  obtain ⟨r, hr, c⟩ := key p hp
  have pr := (hm r hr).1.pn hb h1 h2
  have := ((hm r hr).2.cos hH pr c).uniq hH (hp.pn hb h1 h2) hmin
  rw [← this]; exact hr
/-- The center. -/
def Ctr (G : List Int → Prop) (p : List Int) : Prop := G p ∧ ∀ q, G q → compL p q = compL q p
theorem Sgp.ctr (hG : Sgp N G) : Sgp N (Ctr G) := by
  refine ⟨fun p h => hG.pn p h.1, ⟨hG.one, fun q hq => by rw [(hG.pn q hq).idl, (hG.pn q hq).idr]⟩, fun p q hp hq => ⟨hG.mul p q hp.1 hq.1, fun r hr => ?_⟩, fun p hp => ⟨hG.inv p hp.1, fun r hr => ?_⟩⟩
  · have pp := hG.pn p hp.1
    have pq := hG.pn q hq.1
    have pr := hG.pn r hr
    rw [pp.assoc pq, hq.2 r hr, ← pp.assoc pr, hp.2 r hr, pr.assoc pp]
  · have pp := hG.pn p hp.1
    have pr := hG.pn r hr
    have e := hp.2 r hr
    refine cancel_r (pp.iv.comp pr) (pr.comp pp.iv) pp ?_
    rw [pr.assoc pp.iv, pp.ic, pr.idr, pp.iv.assoc pr, ← e, ← pp.iv.assoc pp, pp.ic, pr.idl]
end
end Go.Proofs.Ytedfcljikgmpgaa

/- What a set generates; normal and abelian groups by their generators; the derived subgroup by the commutators of generators and their conjugates. No Go in it. No condition. -/
namespace Go.Proofs.Ytedfcljikgmpgaa
open Go.RowKit

/-! ### words in permutations -/
def PG (N : Nat) : Type := {p : List Int // Pn N p}
namespace PG
variable {N : Nat}
def m (a b : PG N) : PG N := ⟨compL a.1 b.1, a.2.comp b.2⟩
def i (a : PG N) : PG N := ⟨iv a.1, a.2.iv⟩
theorem asc (a b c : PG N) : m (m a b) c = m a (m b c) := Subtype.ext (a.2.assoc b.2)
theorem c1 (a b : PG N) : m (i a) (m a b) = b := Subtype.ext (by show compL (iv a.1) (compL a.1 b.1) = b.1; rw [← a.2.iv.assoc a.2, a.2.ic, b.2.idl])
theorem c2 (a b : PG N) : m a (m (i a) b) = b := Subtype.ext (by show compL a.1 (compL (iv a.1) b.1) = b.1; rw [← a.2.assoc a.2.iv, a.2.ci, b.2.idl])
theorem ii (a : PG N) : i (i a) = a := Subtype.ext a.2.iviv
theorem im (a b : PG N) : i (m a b) = m (i b) (i a) := Subtype.ext (by
  show iv (compL a.1 b.1) = compL (iv b.1) (iv a.1)
  have hab := a.2.comp b.2
  refine cancel_r hab.iv (b.2.iv.comp a.2.iv) hab ?_
  rw [hab.ic, b.2.iv.assoc a.2.iv, ← a.2.iv.assoc a.2, a.2.ic, b.2.idl, b.2.ic])
end PG
/-- The commutator: the inverses of p and of q, then p, then q. -/
def cmt (p q : List Int) : List Int := compL (compL (iv p) (iv q)) (compL p q)
section
variable {N : Nat} {p q r : List Int}
theorem cmt_pn (hp : Pn N p) (hq : Pn N q) : Pn N (cmt p q) := (hp.iv.comp hq.iv).comp (hp.comp hq)
theorem iv_comp (hp : Pn N p) (hq : Pn N q) : iv (compL p q) = compL (iv q) (iv p) := congrArg Subtype.val (PG.im ⟨p, hp⟩ ⟨q, hq⟩)
theorem cmt_l (hp : Pn N p) (hq : Pn N q) (hr : Pn N r) : cmt (compL p r) q = compL (cj r (cmt p q)) (cmt r q) := by
  have : ∀ p q r : PG N, ((p.m r).i.m q.i).m ((p.m r).m q) = ((r.i.m ((p.i.m q.i).m (p.m q))).m r).m ((r.i.m q.i).m (r.m q)) := fun p q r => by
    simp only [PG.im, PG.asc, PG.c1, PG.c2]
  exact congrArg Subtype.val (this ⟨p, hp⟩ ⟨q, hq⟩ ⟨r, hr⟩)
theorem cmt_r (hp : Pn N p) (hq : Pn N q) (hr : Pn N r) : cmt p (compL q r) = compL (cmt p r) (cj r (cmt p q)) := by
  have : ∀ p q r : PG N, (p.i.m (q.m r).i).m (p.m (q.m r)) = ((p.i.m r.i).m (p.m r)).m ((r.i.m ((p.i.m q.i).m (p.m q))).m r) := fun p q r => by
    simp only [PG.im, PG.asc, PG.c1, PG.c2]
  exact congrArg Subtype.val (this ⟨p, hp⟩ ⟨q, hq⟩ ⟨r, hr⟩)
theorem cj_cj (hp : Pn N p) (hq : Pn N q) (hr : Pn N r) : cj (compL q r) p = cj r (cj q p) := by
  have : ∀ p q r : PG N, ((q.m r).i.m p).m (q.m r) = (r.i.m ((q.i.m p).m q)).m r := fun p q r => by simp only [PG.im, PG.asc]
  exact congrArg Subtype.val (this ⟨p, hp⟩ ⟨q, hq⟩ ⟨r, hr⟩)
theorem cj_cmt (hp : Pn N p) (hq : Pn N q) (hr : Pn N r) : cj r (cmt p q) = cmt (cj r p) (cj r q) := by
  have : ∀ p q r : PG N, (r.i.m ((p.i.m q.i).m (p.m q))).m r = (((r.i.m p).m r).i.m ((r.i.m q).m r).i).m (((r.i.m p).m r).m ((r.i.m q).m r)) := fun p q r => by
    simp only [PG.im, PG.asc, PG.c1, PG.c2, PG.ii]
  exact congrArg Subtype.val (this ⟨p, hp⟩ ⟨q, hq⟩ ⟨r, hr⟩)
theorem cmt_inv (hp : Pn N p) (hq : Pn N q) : iv (cmt p q) = cmt q p := by
  have : ∀ p q : PG N, ((p.i.m q.i).m (p.m q)).i = (q.i.m p.i).m (q.m p) := fun p q => by simp only [PG.im, PG.asc, PG.ii]
  exact congrArg Subtype.val (this ⟨p, hp⟩ ⟨q, hq⟩)
theorem cmt_one (hp : Pn N p) (hq : Pn N q) : cmt p q = idL N ↔ compL p q = compL q p := by
  have hpq := hp.comp hq
  have hqp := hq.comp hp
  have e : cmt p q = compL (iv (compL q p)) (compL p q) := by rw [iv_comp hq hp]; rfl
  rw [e]
  constructor
  · intro h
    have : compL (compL q p) (compL (iv (compL q p)) (compL p q)) = compL (compL q p) (idL N) := by rw [h]
    rwa [← hqp.assoc hqp.iv, hqp.ci, hpq.idl, hqp.idr] at this
  · intro h
    rw [h, hqp.ic]
theorem cmt_id_l (hq : Pn N q) : cmt (idL N) q = idL N := (cmt_one (pn_id hq.pos.1 hq.pos.2) hq).2 (by rw [hq.idl, hq.idr])
theorem cmt_id_r (hp : Pn N p) : cmt p (idL N) = idL N := (cmt_one hp (pn_id hp.pos.1 hp.pos.2)).2 (by rw [hp.idl, hp.idr])
end

/-! ### what a set generates -/
inductive Gn (N : Nat) (S : List Int → Prop) : List Int → Prop
  | one : Gn N S (idL N)
  | mul {p s : List Int} : Gn N S p → S s → Gn N S (compL p s)
section
variable {N : Nat} {S H G : List Int → Prop} {p q s : List Int} {gs hs : List (List Int)}
theorem Gn.pn (hS : ∀ s, S s → Pn N s) (h1 : 1 ≤ N) (h2 : N ≤ 20) (h : Gn N S p) : Pn N p := by
  induction h with
  | one => exact pn_id h1 h2
  | mul _ hm ih => exact ih.comp (hS _ hm)
theorem Gn.comp (hS : ∀ s, S s → Pn N s) (h1 : 1 ≤ N) (h2 : N ≤ 20) (hp : Gn N S p) (hq : Gn N S q) : Gn N S (compL p q) := by
  induction hq with
  | one => rw [(hp.pn hS h1 h2).idr]; exact hp
  | mul hq' hm ih =>
    rw [← (hp.pn hS h1 h2).assoc (hq'.pn hS h1 h2)]
    exact .mul ih hm
theorem Gn.of (hp : Pn N s) (hm : S s) : Gn N S s := by
  have := Gn.mul (Gn.one (N := N) (S := S)) hm
  rwa [hp.idl] at this
theorem sgp_gn (hS : ∀ s, S s → Pn N s) (h1 : 1 ≤ N) (h2 : N ≤ 20) : Sgp N (Gn N S) :=
  ⟨fun _ h => h.pn hS h1 h2, .one, fun _ _ a b => a.comp hS h1 h2 b, fun p hp => by
    rw [iv_pw (hp.pn hS h1 h2)]
    have : ∀ k, Gn N S (pw N p k) := fun k => by
      induction k with
      | zero => exact .one
      | succ k ih => exact ih.comp hS h1 h2 hp
    exact this _⟩
theorem Gn.le (hH : Sgp N H) (hS : ∀ s, S s → H s) (h : Gn N S p) : H p := by
  induction h with
  | one => exact hH.one
  | mul _ hm ih => exact hH.mul _ _ ih (hS _ hm)
theorem mb_le (hH : Sgp N H) (hS : ∀ s ∈ gs, H s) (h : Mb gs N p) : H p := by
  induction h with
  | one => exact hH.one
  | mul _ hm ih => exact hH.mul _ _ ih (hS _ hm)
/-- Conjugates by members of G lie in H. -/
def Nrm (G H : List Int → Prop) : Prop := ∀ p q, H p → G q → H (cj q p)
theorem cj_one (hp : Pn N p) : cj (idL N) p = p := by
  unfold cj
  rw [iv_id hp.pos.1 hp.pos.2, hp.idl, hp.idr]
theorem nrm_gens (hg : ∀ g ∈ gs, Pn N g) (hh : ∀ s ∈ hs, Pn N s) (h1 : 1 ≤ N) (h2 : N ≤ 20) (h : ∀ s ∈ hs, ∀ g ∈ gs, Mb hs N (cj g s)) : Nrm (Mb gs N) (Mb hs N) := by
  have one : ∀ g ∈ gs, ∀ p, Mb hs N p → Mb hs N (cj g p) := fun g hgm p hp => by
    induction hp with
    | one => rw [cj_id (hg g hgm)]; exact .one
    | mul hp' hm ih =>
      rw [cj_mul (hg g hgm) (hp'.pn hh h1 h2) (hh _ hm)]
      exact ih.comp hh h1 h2 (h _ hm g hgm)
  intro p q hp hq
  induction hq with
  | one =>
    have := cj_one (hp.pn hh h1 h2)
    rw [this]; exact hp
  | mul hq' hm ih =>
    rw [cj_cj (hp.pn hh h1 h2) (hq'.pn hg h1 h2) (hg _ hm)]
    exact one _ hm _ ih
/-- Any two commute. -/
def Abl (G : List Int → Prop) : Prop := ∀ p q, G p → G q → compL p q = compL q p
theorem abl_gens (hg : ∀ g ∈ gs, Pn N g) (h1 : 1 ≤ N) (h2 : N ≤ 20) (h : ∀ p ∈ gs, ∀ q ∈ gs, compL p q = compL q p) : Abl (Mb gs N) := by
  have one : ∀ g ∈ gs, ∀ p, Mb gs N p → compL p g = compL g p := fun g hgm p hp => by
    induction hp with
    | one => rw [(hg g hgm).idl, (hg g hgm).idr]
    | mul hp' hm ih =>
      have pp := hp'.pn hg h1 h2
      rw [pp.assoc (hg _ hm), h _ hm g hgm, ← pp.assoc (hg g hgm), ih, (hg g hgm).assoc pp]
  intro p q hp hq
  induction hq with
  | one => rw [(hp.pn hg h1 h2).idl, (hp.pn hg h1 h2).idr]
  | mul hq' hm ih =>
    have pp := hp.pn hg h1 h2
    have pq := hq'.pn hg h1 h2
    rw [← pp.assoc pq, ih, pq.assoc pp, one _ hm p hp, ← pq.assoc (hg _ hm)]
/-- The derived subgroup. -/
def Drv (N : Nat) (G : List Int → Prop) : List Int → Prop := Gn N fun c => ∃ p q, G p ∧ G q ∧ c = cmt p q
theorem drv_pn (hG : Sgp N G) : ∀ s, (∃ p q, G p ∧ G q ∧ s = cmt p q) → Pn N s := fun s ⟨p, q, hp, hq, e⟩ => by rw [e]; exact cmt_pn (hG.pn p hp) (hG.pn q hq)
theorem Sgp.pos (hG : Sgp N G) : 1 ≤ N ∧ N ≤ 20 := (hG.pn _ hG.one).pos
theorem Sgp.drv (hG : Sgp N G) : Sgp N (Drv N G) := sgp_gn (drv_pn hG) hG.pos.1 hG.pos.2
theorem Drv.le (hG : Sgp N G) (h : Drv N G p) : G p := Gn.le hG (fun s ⟨p, q, hp, hq, e⟩ => by
  rw [e]; exact hG.mul _ _ (hG.mul _ _ (hG.inv p hp) (hG.inv q hq)) (hG.mul _ _ hp hq)) h
theorem drv_cmt (hG : Sgp N G) (hp : G p) (hq : G q) : Drv N G (cmt p q) := .of (cmt_pn (hG.pn p hp) (hG.pn q hq)) ⟨p, q, hp, hq, rfl⟩
theorem drv_nrm (hG : Sgp N G) (hp : Drv N G p) (hq : G q) : Drv N G (cj q p) := by
  induction hp with
  | one => rw [cj_id (hG.pn q hq)]; exact .one
  | mul hp' hm ih =>
    obtain ⟨a, b, ha, hb, rfl⟩ := hm
    have pa := hG.pn a ha
    have pb := hG.pn b hb
    have pq := hG.pn q hq
    rw [cj_mul pq (hG.drv.pn _ hp') (cmt_pn pa pb), cj_cmt pa pb pq]
    exact hG.drv.mul _ _ ih (drv_cmt hG (hG.mul _ _ (hG.mul _ _ (hG.inv q hq) ha) hq) (hG.mul _ _ (hG.mul _ _ (hG.inv q hq) hb) hq))
/-- A normal subgroup with the commutators of the generators has all of them. -/
theorem cmt_gens (hg : ∀ g ∈ gs, Pn N g) (h1 : 1 ≤ N) (h2 : N ≤ 20) (hH : Sgp N H) (hn : Nrm (Mb gs N) H) (h : ∀ p ∈ gs, ∀ q ∈ gs, H (cmt p q)) (hp : Mb gs N p) (hq : Mb gs N q) : H (cmt p q) := by
  have one : ∀ g ∈ gs, ∀ q, Mb gs N q → H (cmt g q) := fun g hgm q hq => by
    induction hq with
    | one => rw [cmt_id_r (hg g hgm)]; exact hH.one
    | mul hq' hm ih =>
      rw [cmt_r (hg g hgm) (hq'.pn hg h1 h2) (hg _ hm)]
      exact hH.mul _ _ (h g hgm _ hm) (hn _ _ ih (.of (hg _ hm) hm))
  induction hp with
  | one => rw [cmt_id_l (hq.pn hg h1 h2)]; exact hH.one
  | mul hp' hm ih =>
    rw [cmt_l (hp'.pn hg h1 h2) (hq.pn hg h1 h2) (hg _ hm)]
    exact hH.mul _ _ (hn _ _ ih (.of (hg _ hm) hm)) (one _ hm q hq)
/-- The derived subgroup by generators. -/
theorem drv_gens (hg : ∀ g ∈ gs, Pn N g) (h1 : 1 ≤ N) (h2 : N ≤ 20) (hd : ∀ d ∈ hs, Drv N (Mb gs N) d) (hc : ∀ s ∈ hs, ∀ g ∈ gs, Mb hs N (cj g s)) (h : ∀ p ∈ gs, ∀ q ∈ gs, Mb hs N (cmt p q)) : Mb hs N p ↔ Drv N (Mb gs N) p := by
  have hG := sgp_mb hg h1 h2
  have hh : ∀ s ∈ hs, Pn N s := fun s hs' => hG.drv.pn s (hd s hs')
  have hH := sgp_mb hh h1 h2
  exact ⟨mb_le hG.drv hd, Gn.le hH fun s ⟨a, b, ha, hb, e⟩ => by rw [e]; exact cmt_gens hg h1 h2 hH (nrm_gens hg hh h1 h2 hc) h ha hb⟩
theorem crd_ex {g : Nat} (cG : Crd G g) (hs : ∀ p, H p → G p) : ∃ h, Crd H h := by
  classical
  obtain ⟨l, d, m, _⟩ := cG
  exact ⟨_, l.filter fun p => decide (H p), d.filter _, fun p => by rw [List.mem_filter, m, decide_eq_true_eq]; exact ⟨fun h => h.2, fun h => ⟨hs p h, h⟩⟩, rfl⟩
theorem crd_full {g h : Nat} (cG : Crd G g) (cH : Crd H h) (hs : ∀ p, H p → G p) (e : h = g) : ∀ p, G p → H p := by
  obtain ⟨l, d, m, rfl⟩ := cG
  obtain ⟨l', d', m', e'⟩ := cH
  intro p hp
  rcases Classical.em (H p) with hh | hh
  · exact hh
  · exfalso
    have := nd_subA (l' := p :: l') (l := l) (List.nodup_cons.2 ⟨fun h => hh ((m' p).1 h), d'⟩) fun x hx => by
      rcases List.mem_cons.1 hx with rfl | hx
      · exact (m _).2 hp
      · exact (m _).2 (hs _ ((m' _).1 hx))
    rw [List.length_cons] at this
    omega
/-- A greater group is at least twice as great. -/
theorem dbl {h k : Nat} {K : List Int → Prop} (hK : Sgp N K) (hH : Sgp N H) (hs : ∀ p, H p → K p) (cK : Crd K k) (cH : Crd H h) (hp : K p) (hn : ¬ H p) : 2 * h ≤ k := by
  obtain ⟨j, _, rfl⟩ := lagr hK hH hs cK cH
  rcases Nat.lt_or_ge j 2 with hj | hj
  · exfalso
    have h1 : 1 ≤ h := by
      have := crd_sub (crd_one (idL N)) cH fun x hx => by subst hx; exact hH.one
      exact this
    have h2 : 1 ≤ j * h := by
      have := crd_sub (crd_one (idL N)) cK fun x hx => by subst hx; exact hK.one
      exact this
    obtain rfl : j = 1 := by
      rcases j with _ | _ | j
      · rw [Nat.zero_mul] at h2; omega
      · rfl
      · omega
    exact hn (crd_full cK cH hs (Nat.one_mul h).symm p hp)
  · exact Nat.mul_le_mul_right h hj
/-- Abelian exactly if the center is all. -/
theorem abl_ctr {g c : Nat} (cG : Crd G g) (cC : Crd (Ctr G) c) : Abl G ↔ c = g := by
  constructor
  · intro ha
    exact cC.uniq (cG.congr fun p => ⟨fun h => ⟨h, fun q hq => ha p q h hq⟩, fun h => h.1⟩)
  · intro e p q hp hq
    exact (crd_full cG cC (fun p h => h.1) e p hp).2 q hq
/-- Abelian exactly if the derived subgroup is trivial. -/
theorem abl_drv {d : Nat} (hG : Sgp N G) (cD : Crd (Drv N G) d) : Abl G ↔ d = 1 := by
  constructor
  · intro ha
    refine cD.uniq ((crd_one (idL N)).congr fun p => ⟨fun e => e ▸ hG.drv.one, fun h => ?_⟩)
    have hS : Sgp N fun p => p = idL N := ⟨fun p e => e ▸ hG.pn _ hG.one, rfl, fun p q e e' => by rw [e, e', (hG.pn _ hG.one).idl], fun p e => by rw [e, iv_id hG.pos.1 hG.pos.2]⟩
    exact Gn.le (H := fun p => p = idL N) hS (fun s ⟨a, b, ha', hb', e⟩ => by rw [e]; exact (cmt_one (hG.pn a ha') (hG.pn b hb')).2 (ha a b ha' hb')) h
  · rintro rfl p q hp hq
    obtain ⟨l, _, m, el⟩ := cD
    have h1 := (m _).2 (drv_cmt hG hp hq)
    have h2 := (m _).2 hG.drv.one
    match l, el, h1, h2 with
    | [x], _, h1, h2 =>
      rw [List.mem_singleton] at h1 h2
      exact (cmt_one (hG.pn p hp) (hG.pn q hq)).1 (h1.trans h2.symm)
end
end Go.Proofs.Ytedfcljikgmpgaa

/- What the functions of chapter 5 answer. No Go in it. No condition. -/
namespace Go.Proofs.Ytedfcljikgmpgaa
open Go.RowKit

/-- Generators, and a permutation of their degree. -/
def Vld (a : Int) (gs : List (List Int)) (p : List Int) : Prop := gB a gs = true ∧ (p.length : Int) = a ∧ isP p = true
def IsCmb (a : Int) (gs : List (List Int)) (p : List Int) (v : Int) : Prop := (Vld a gs p ∧ ∃ c : Nat, Rk a.toNat gs p c ∧ v = (c : Int)) ∨ (¬ Vld a gs p ∧ v = -1)
def IsRnk (a : Int) (gs : List (List Int)) (p : List Int) (v : Int) : Prop := (Memb a gs p ∧ ∃ c : Nat, Rk a.toNat gs p c ∧ v = (c : Int)) ∨ (¬ Memb a gs p ∧ v = -1)
def IsMat (a : Int) (gs : List (List Int)) (k : Int) (m : List Int) (ok : Bool) : Prop :=
  (gB a gs = true ∧ ok = true ∧ Mb gs a.toNat m ∧ ∃ c : Nat, Rk a.toNat gs m c ∧ k = (c : Int)) ∨ (ok = false ∧ m = [] ∧ (gB a gs = true → ∀ q, Mb gs a.toNat q → ∀ c : Nat, Rk a.toNat gs q c → k ≠ (c : Int)))
def IsNxt (a : Int) (gs : List (List Int)) (p m : List Int) (ok : Bool) : Prop :=
  (Vld a gs p ∧ ∃ (c : Nat) (b : Bool), Rk a.toNat gs p c ∧ (b = true ↔ Memb a gs p) ∧ IsMat a gs ((c : Int) + (if b = true then 1 else 0)) m ok) ∨ (¬ Vld a gs p ∧ m = [] ∧ ok = false)
def IsFst (a : Int) (gs : List (List Int)) (m : List Int) (ok : Bool) : Prop := IsMat a gs 1 m ok
/-- No more than 3000 members. -/
def Few (a : Int) (gs : List (List Int)) : Prop := gB a gs = true ∧ ∃ V : Nat, Crd (Mb gs a.toNat) V ∧ V ≤ 3000
def IsMbs (a : Int) (gs l : List (List Int)) : Prop := (Few a gs ∧ l.Pairwise (LxI a.toNat) ∧ ∀ p, p ∈ l ↔ Mb gs a.toNat p) ∨ (¬ Few a gs ∧ l = [])
/-- The states of the generator behind a seed. -/
def seed0 (s : Int) : Int := (s.tmod 999999937 + 999999937).tmod 999999937
def stt (s : Int) : Nat → Int
  | 0 => seed0 s
  | i + 1 => (stt s i * 48271 + 11).tmod 999999937
def IsRnd (a : Int) (gs : List (List Int)) (s : Int) (m : List Int) (ok : Bool) : Prop :=
  (gB a gs = true ∧ ok = true ∧ Mb gs a.toNat m ∧ ∀ i, i < a.toNat → ∀ zs, ChL a.toNat gs m i zs → (nx m i : Int) = zs.getD (((stt s (i + 1)).tmod (zs.length : Int)).toNat) 0) ∨ (gB a gs = false ∧ ok = false ∧ m = [])
theorem IsCmb.uniq {a v v' : Int} {gs : List (List Int)} {p : List Int} (h : IsCmb a gs p v) (h' : IsCmb a gs p v') : v = v' := by
  rcases h with ⟨e, c, h, rfl⟩ | ⟨e, rfl⟩ <;> rcases h' with ⟨e', c', h', rfl⟩ | ⟨e', rfl⟩
  · rw [Crd.uniq h h']
  · exact absurd e e'
  · exact absurd e' e
  · rfl
theorem IsRnk.uniq {a v v' : Int} {gs : List (List Int)} {p : List Int} (h : IsRnk a gs p v) (h' : IsRnk a gs p v') : v = v' := by
  rcases h with ⟨e, c, h, rfl⟩ | ⟨e, rfl⟩ <;> rcases h' with ⟨e', c', h', rfl⟩ | ⟨e', rfl⟩
  · rw [Crd.uniq h h']
  · exact absurd e e'
  · exact absurd e' e
  · rfl
theorem IsMat.uniq {a k : Int} {gs : List (List Int)} {m m' : List Int} {ok ok' : Bool} (h : IsMat a gs k m ok) (h' : IsMat a gs k m' ok') : m = m' ∧ ok = ok' := by
  rcases h with ⟨e, rfl, hm, c, hc, ek⟩ | ⟨rfl, rfl, hn⟩ <;> rcases h' with ⟨e', rfl, hm', c', hc', ek'⟩ | ⟨rfl, rfl, hn'⟩
  · obtain ⟨N, rfl, h1, h2, _, _, ok⟩ := gB_pm e
    rw [Int.toNat_natCast] at hm hm' hc hc'
    obtain rfl : c = c' := by omega
    exact ⟨rk_inj ok h1 h2 hc hc' hm hm', rfl⟩
  · exact absurd ek (hn' e m hm c hc)
  · exact absurd ek' (hn e' m' hm' c' hc')
  · exact ⟨rfl, rfl⟩
theorem IsMat.len {a k : Int} {gs : List (List Int)} {m : List Int} {ok : Bool} (h : IsMat a gs k m ok) : m.length ≤ 20 := by
  rcases h with ⟨e, _, hm, _⟩ | ⟨_, rfl, _⟩
  · obtain ⟨N, rfl, h1, h2, _, _, ok⟩ := gB_pm e
    rw [Int.toNat_natCast] at hm
    rw [(hm.pn ok h1 h2).2]; exact h2
  · simp
theorem IsNxt.uniq {a : Int} {gs : List (List Int)} {p m m' : List Int} {ok ok' : Bool} (h : IsNxt a gs p m ok) (h' : IsNxt a gs p m' ok') : m = m' ∧ ok = ok' := by
  rcases h with ⟨e, c, b, hc, hb, h⟩ | ⟨e, rfl, rfl⟩ <;> rcases h' with ⟨e', c', b', hc', hb', h'⟩ | ⟨e', rfl, rfl⟩
  · obtain rfl : c = c' := Crd.uniq hc hc'
    obtain rfl : b = b' := by rw [Bool.eq_iff_iff, hb, hb']
    exact h.uniq h'
  · exact absurd e e'
  · exact absurd e' e
  · exact ⟨rfl, rfl⟩
theorem IsNxt.len {a : Int} {gs : List (List Int)} {p m : List Int} {ok : Bool} (h : IsNxt a gs p m ok) : m.length ≤ 20 := by
  rcases h with ⟨_, c, b, _, _, h⟩ | ⟨_, rfl, _⟩
  · exact h.len
  · simp
theorem IsFst.uniq {a : Int} {gs : List (List Int)} {m m' : List Int} {ok ok' : Bool} (h : IsFst a gs m ok) (h' : IsFst a gs m' ok') : m = m' ∧ ok = ok' := IsMat.uniq h h'
theorem IsFst.len {a : Int} {gs : List (List Int)} {m : List Int} {ok : Bool} (h : IsFst a gs m ok) : m.length ≤ 20 := IsMat.len h
theorem lx_nodup {N : Nat} {l : List (List Int)} (h : l.Pairwise (LxI N)) : l.Nodup := List.Pairwise.imp (S := fun a b => a ≠ b) (fun {a b} hab e => by subst e; exact LxI.irr hab) h
theorem lx_sorted_uniq {N : Nat} {l l' : List (List Int)} (h : l.Pairwise (LxI N)) (h' : l'.Pairwise (LxI N)) (hm : ∀ p, p ∈ l ↔ p ∈ l') : l = l' := by
  have n1 := lx_nodup h
  have n2 := lx_nodup h'
  exact ((List.perm_ext_iff_of_nodup n1 n2).2 hm).eq_of_pairwise (le := LxI N) (fun a b _ _ h1 h2 => absurd (h1.trans h2) LxI.irr) h h'
theorem IsMbs.uniq {a : Int} {gs l l' : List (List Int)} (h : IsMbs a gs l) (h' : IsMbs a gs l') : l = l' := by
  rcases h with ⟨e, h, m⟩ | ⟨e, rfl⟩ <;> rcases h' with ⟨e', h', m'⟩ | ⟨e', rfl⟩
  · exact lx_sorted_uniq h h' fun p => (m p).trans (m' p).symm
  · exact absurd e e'
  · exact absurd e' e
  · rfl
theorem IsMbs.len {a : Int} {gs l : List (List Int)} (h : IsMbs a gs l) : l.length ≤ 3000 ∧ ∀ y ∈ l, y.length ≤ 20 := by
  rcases h with ⟨⟨e, V, hV, hle⟩, h, m⟩ | ⟨e, rfl⟩
  · obtain ⟨N, rfl, h1, h2, _, _, ok⟩ := gB_pm e
    rw [Int.toNat_natCast] at h m hV
    have n1 := lx_nodup h
    have : l.length ≤ V := crd_sub ⟨l, n1, fun _ => Iff.rfl, rfl⟩ hV fun x hx => (m x).1 hx
    exact ⟨by omega, fun y hy => by rw [(((m y).1 hy).pn ok h1 h2).2]; exact h2⟩
  · exact ⟨by simp, fun y hy => by cases hy⟩
theorem boundMbs {a : Int} {gs l : List (List Int)} (h : IsMbs a gs l) : l.length ≤ 1048576 ∧ (∀ i, i < l.length → (l.getD i []).length ≤ 1048576) ∧ sumL l ≤ 1048576 :=
  bound_all (m := 3000) (k := 20) h.len.1 h.len.2 (by omega)
/-- A list of the entries there is. -/
theorem ChL.ex {N i : Nat} {gs : List (List Int)} (hg : ∀ g ∈ gs, Pn N g) (h1 : 1 ≤ N) (h2 : N ≤ 20) (hi : i < N) (m : List Int) : ∃ zs, ChL N gs m i zs := by
  classical
  refine ⟨((List.range N).filter fun v => decide (∃ q, Mb gs N q ∧ Ag i q m ∧ nx q i = v)).map Int.ofNat, ?_, fun v => ?_⟩
  · rw [List.pairwise_map]
    exact (List.pairwise_lt_range.filter _).imp fun hab => by show (_ : Int) < _; exact Int.ofNat_lt.2 hab
  · rw [List.mem_map]
    constructor
    · rintro ⟨y, hy, rfl⟩
      obtain ⟨_, hq⟩ := List.mem_filter.1 hy
      obtain ⟨q, a, b, e⟩ := of_decide_eq_true hq
      exact ⟨q, a, b, by show _ = (y : Int); omega⟩
    · rintro ⟨q, a, b, rfl⟩
      exact ⟨nx q i, List.mem_filter.2 ⟨List.mem_range.2 ((a.pn hg h1 h2).lt hi), decide_eq_true ⟨q, a, b, rfl⟩⟩, rfl⟩
theorem IsRnd.uniq {a s : Int} {gs : List (List Int)} {m m' : List Int} {ok ok' : Bool} (h : IsRnd a gs s m ok) (h' : IsRnd a gs s m' ok') : m = m' ∧ ok = ok' := by
  rcases h with ⟨e, rfl, hm, h⟩ | ⟨e, rfl, rfl⟩ <;> rcases h' with ⟨e', rfl, hm', h'⟩ | ⟨e', rfl, rfl⟩
  · obtain ⟨N, rfl, h1, h2, _, _, ok⟩ := gB_pm e
    rw [Int.toNat_natCast] at hm hm' h h'
    have hp := hm.pn ok h1 h2
    have hp' := hm'.pn ok h1 h2
    have key : ∀ i, i ≤ N → Ag i m m' := fun i => by
      induction i with
      | zero => exact fun _ t ht => absurd ht (Nat.not_lt_zero _)
      | succ i ih =>
        intro hi
        have ha := ih (by omega)
        refine ag_succ.2 ⟨ha, ?_⟩
        obtain ⟨zs, hz⟩ := ChL.ex ok h1 h2 (show i < N by omega) m
        have e1 := h i (by omega) zs hz
        have e2 := h' i (by omega) zs (hz.ag ha)
        omega
    exact ⟨hp.ext hp' (key N (Nat.le_refl _)), rfl⟩
  · rw [e] at e'; cases e'
  · rw [e] at e'; cases e'
  · exact ⟨rfl, rfl⟩
theorem IsRnd.len {a s : Int} {gs : List (List Int)} {m : List Int} {ok : Bool} (h : IsRnd a gs s m ok) : m.length ≤ 20 := by
  rcases h with ⟨e, _, hm, _⟩ | ⟨_, _, rfl⟩
  · obtain ⟨N, rfl, h1, h2, _, _, ok⟩ := gB_pm e
    rw [Int.toNat_natCast] at hm
    rw [(hm.pn ok h1 h2).2]; exact h2
  · simp
end Go.Proofs.Ytedfcljikgmpgaa

/- What the functions of chapter 6 answer, and the shapes of their contracts. No Go in it. No condition. -/
namespace Go.Proofs.Ytedfcljikgmpgaa
open Go.RowKit

/-- What xa generates lies in what xb generates. -/
def SubG (a : Int) (xa xb : List (List Int)) : Prop := gB a xa = true ∧ gB a xb = true ∧ ∀ g ∈ xa, Mb xb a.toNat g
def IsSub (a : Int) (xa xb : List (List Int)) (b : Bool) : Prop := b = true ↔ SubG a xa xb
def IsIdx (a : Int) (xa xb : List (List Int)) (v : Int) : Prop := (SubG a xa xb ∧ ∃ k : Nat, Crd (fun p => Mb xb a.toNat p ∧ CMin a.toNat (Mb xa a.toNat) p p) k ∧ v = (k : Int)) ∨ (¬ SubG a xa xb ∧ v = 0)
def IsSco (a : Int) (xa : List (List Int)) (p q : List Int) (b : Bool) : Prop := b = true ↔ Vld a xa p ∧ Vld a xa q ∧ Cos (Mb xa a.toNat) p q
def IsCmi (a : Int) (xa : List (List Int)) (p m : List Int) : Prop := (Vld a xa p ∧ CMin a.toNat (Mb xa a.toNat) p m) ∨ (¬ Vld a xa p ∧ m = [])
/-- At most 200 cosets. -/
def FewC (a : Int) (xa xb : List (List Int)) : Prop := SubG a xa xb ∧ ∃ k : Nat, Crd (fun p => Mb xb a.toNat p ∧ CMin a.toNat (Mb xa a.toNat) p p) k ∧ k ≤ 200
def IsRep (a : Int) (xa xb l : List (List Int)) : Prop := (FewC a xa xb ∧ l.Pairwise (LxI a.toNat) ∧ ∀ p, p ∈ l ↔ Mb xb a.toNat p ∧ CMin a.toNat (Mb xa a.toNat) p p) ∨ (¬ FewC a xa xb ∧ l = [])
def IsNor (a : Int) (xa xb : List (List Int)) (b : Bool) : Prop := b = true ↔ SubG a xa xb ∧ Nrm (Mb xb a.toNat) (Mb xa a.toNat)
def IsAbl (a : Int) (xa : List (List Int)) (b : Bool) : Prop := b = true ↔ gB a xa = true ∧ Abl (Mb xa a.toNat)
def IsCtr (a : Int) (xa : List (List Int)) (v : Int) : Prop := (Few a xa ∧ ∃ c : Nat, Crd (Ctr (Mb xa a.toNat)) c ∧ v = (c : Int)) ∨ (¬ Few a xa ∧ v = 0)
def IsDer (a : Int) (xa : List (List Int)) (v : Int) : Prop := (gB a xa = true ∧ ∃ c : Nat, Crd (Drv a.toNat (Mb xa a.toNat)) c ∧ v = (c : Int)) ∨ (gB a xa = false ∧ v = 0)

section
variable {a v v' : Int} {xa xb l l' : List (List Int)} {p q m m' : List Int} {b b' : Bool}
theorem gB_sgp (h : gB a xa = true) : Sgp a.toNat (Mb xa a.toNat) := by
  obtain ⟨N, rfl, h1, h2, _, _, ok⟩ := gB_pm h
  rw [Int.toNat_natCast]
  exact sgp_mb ok h1 h2
theorem gB_crd (h : gB a xa = true) : ∃ V, Crd (Mb xa a.toNat) V ∧ 1 ≤ V ∧ V ≤ 2432902008176640000 := by
  obtain ⟨N, rfl, h1, h2, _, _, ok⟩ := gB_pm h
  classical
  rw [Int.toNat_natCast]
  have hx : IsOS N xa ((List.range N).map fun i => (((List.range N).filter fun y => decide (∃ p, Mb xa N p ∧ Fx i p ∧ nx p i = y)).length : Int)) := ⟨by simp, fun i hi => ⟨(List.range N).filter fun y => decide (∃ p, Mb xa N p ∧ Fx i p ∧ nx p i = y), List.nodup_range.filter _, fun y => by rw [List.mem_filter, List.mem_range, decide_eq_true_eq], by
    rw [List.getD_eq_getElem?_getD, List.getElem?_map, List.getElem?_range hi]; rfl⟩⟩
  obtain ⟨V, hV, e⟩ := hx.order ok h1 h2
  have hp := hx.pr_le ok h1 h2 0 N (by omega)
  have hf := facts_le h2 (0 + N) (by omega)
  rw [prodL_pr, hx.1] at e
  exact ⟨V, hV, by omega, by omega⟩
theorem Vld.pn (h : Vld a xa p) : Pn a.toNat p := ⟨isP_iff.1 h.2.2, by have := h.2.1; omega⟩
theorem IsSub.uniq (h : IsSub a xa xb b) (h' : IsSub a xa xb b') : b = b' := by unfold IsSub at h h'; rw [Bool.eq_iff_iff, h, h']
theorem IsIdx.uniq (h : IsIdx a xa xb v) (h' : IsIdx a xa xb v') : v = v' := by
  rcases h with ⟨e, c, h, rfl⟩ | ⟨e, rfl⟩ <;> rcases h' with ⟨e', c', h', rfl⟩ | ⟨e', rfl⟩
  · rw [Crd.uniq h h']
  · exact absurd e e'
  · exact absurd e' e
  · rfl
theorem IsSco.uniq (h : IsSco a xa p q b) (h' : IsSco a xa p q b') : b = b' := by unfold IsSco at h h'; rw [Bool.eq_iff_iff, h, h']
theorem IsCmi.uniq (h : IsCmi a xa p m) (h' : IsCmi a xa p m') : m = m' := by
  rcases h with ⟨e, h⟩ | ⟨e, rfl⟩ <;> rcases h' with ⟨e', h'⟩ | ⟨e', rfl⟩
  · exact h.uniq (gB_sgp e.1) e.pn h'
  · exact absurd e e'
  · exact absurd e' e
  · rfl
theorem IsCmi.len (h : IsCmi a xa p m) : m.length ≤ 20 := by
  rcases h with ⟨e, h⟩ | ⟨_, rfl⟩
  · have hm := h.1.pn (gB_sgp e.1) e.pn
    have := hm.1.le
    exact this
  · simp
theorem IsRep.uniq (h : IsRep a xa xb l) (h' : IsRep a xa xb l') : l = l' := by
  rcases h with ⟨e, h, m⟩ | ⟨e, rfl⟩ <;> rcases h' with ⟨e', h', m'⟩ | ⟨e', rfl⟩
  · exact lx_sorted_uniq h h' fun p => (m p).trans (m' p).symm
  · exact absurd e e'
  · exact absurd e' e
  · rfl
theorem IsRep.len (h : IsRep a xa xb l) : l.length ≤ 200 ∧ ∀ y ∈ l, y.length ≤ 20 := by
  rcases h with ⟨⟨e, k, hk, hle⟩, h, m⟩ | ⟨_, rfl⟩
  · have n1 := lx_nodup h
    have : l.length ≤ k := crd_sub ⟨l, n1, fun _ => Iff.rfl, rfl⟩ hk fun x hx => (m x).1 hx
    refine ⟨by omega, fun y hy => ?_⟩
    have := ((gB_sgp e.2.1).pn y ((m y).1 hy).1).1.le
    exact this
  · exact ⟨by simp, fun y hy => by cases hy⟩
theorem boundRep (h : IsRep a xa xb l) : l.length ≤ 1048576 ∧ (∀ i, i < l.length → (l.getD i []).length ≤ 1048576) ∧ sumL l ≤ 1048576 :=
  bound_all (m := 200) (k := 20) h.len.1 h.len.2 (by omega)
theorem IsNor.uniq (h : IsNor a xa xb b) (h' : IsNor a xa xb b') : b = b' := by unfold IsNor at h h'; rw [Bool.eq_iff_iff, h, h']
theorem IsAbl.uniq (h : IsAbl a xa b) (h' : IsAbl a xa b') : b = b' := by unfold IsAbl at h h'; rw [Bool.eq_iff_iff, h, h']
theorem IsCtr.uniq (h : IsCtr a xa v) (h' : IsCtr a xa v') : v = v' := by
  rcases h with ⟨e, c, h, rfl⟩ | ⟨e, rfl⟩ <;> rcases h' with ⟨e', c', h', rfl⟩ | ⟨e', rfl⟩
  · rw [Crd.uniq h h']
  · exact absurd e e'
  · exact absurd e' e
  · rfl
theorem IsDer.uniq (h : IsDer a xa v) (h' : IsDer a xa v') : v = v' := by
  rcases h with ⟨e, c, h, rfl⟩ | ⟨e, rfl⟩ <;> rcases h' with ⟨e', c', h', rfl⟩ | ⟨e', rfl⟩
  · rw [Crd.uniq h h']
  · rw [e] at e'; cases e'
  · rw [e] at e'; cases e'
  · rfl
/-- The index by the orders. -/
theorem idx_ord {Va Vb : Nat} (hs : SubG a xa xb) (ha : Crd (Mb xa a.toNat) Va) (hb : Crd (Mb xb a.toNat) Vb) : ∃ k, Crd (fun p => Mb xb a.toNat p ∧ CMin a.toNat (Mb xa a.toNat) p p) k ∧ Vb = k * Va :=
  lagr (gB_sgp hs.2.1) (gB_sgp hs.1) (fun p hp => mb_le (gB_sgp hs.2.1) hs.2.2 hp) hb ha
end

/-! ### shapes -/
def CtImmI (F : Nat) (R : Int → List (List Int) → List (List Int) → Int → Prop) : Prop := ∀ (a : Int) (A : Option Addr) (n c : Nat) (vs : List SV) (xss : List (List Int)) (M : Option Addr) (m cm : Nat) (us : List SV) (yss : List (List Int)) (w : World), GIn w A n vs xss → GIn w M m us yss → I64 a →
  Calls Try.prog F #[.int .i64 a, .slice A n c, .slice M m cm] w fun e w' => ∃ v, e = .returned (.int .i64 v) ∧ R a xss yss v ∧ Below w.heap.size w w'
def CtImmM (F : Nat) (R : Int → List (List Int) → List (List Int) → List (List Int) → Prop) : Prop := ∀ (a : Int) (A : Option Addr) (n c : Nat) (vs : List SV) (xss : List (List Int)) (M : Option Addr) (m cm : Nat) (us : List SV) (yss : List (List Int)) (w : World), GIn w A n vs xss → GIn w M m us yss → I64 a →
  Calls Try.prog F #[.int .i64 a, .slice A n c, .slice M m cm] w fun e w' => ∃ A' m' c' us' l, e = .returned (.slice A' m' c') ∧ SS w' w.heap.size w.heap.size A' m' c' us' l ∧ R a xss yss l ∧ Below w.heap.size w w'
def CtImssB (F : Nat) (R : Int → List (List Int) → List Int → List Int → Bool → Prop) : Prop := ∀ (a : Int) (A : Option Addr) (n c : Nat) (vs : List SV) (xss : List (List Int)) (P : Option Addr) (np cp : Nat) (p : List Int) (Q : Option Addr) (nq cq : Nat) (q : List Int) (w : World), GIn w A n vs xss → SIn w P np cp p → SIn w Q nq cq q → I64 a →
  Calls Try.prog F #[.int .i64 a, .slice A n c, .slice P np cp, .slice Q nq cq] w fun e w' => ∃ v, e = .returned (.bool v) ∧ R a xss p q v ∧ Below w.heap.size w w'
def CtImsS (F : Nat) (R : Int → List (List Int) → List Int → List Int → Prop) : Prop := ∀ (a : Int) (A : Option Addr) (n c : Nat) (vs : List SV) (xss : List (List Int)) (P : Option Addr) (np cp : Nat) (p : List Int) (w : World), GIn w A n vs xss → SIn w P np cp p → I64 a →
  Calls Try.prog F #[.int .i64 a, .slice A n c, .slice P np cp] w fun e w' => ∃ A' m c' zs, e = .returned (.slice A' m c') ∧ Slc w' w.heap.size A' m c' zs ∧ R a xss p zs ∧ Below w.heap.size w w'
end Go.Proofs.Ytedfcljikgmpgaa

/- The shapes of chapter 7's contracts. No condition. -/
namespace Go.Proofs.Ytedfcljikgmpgaa
open Go.RowKit

def CtImmMB (F : Nat) (R : Int → List (List Int) → List (List Int) → List (List Int) → Bool → Prop) : Prop := ∀ (a : Int) (A : Option Addr) (n c : Nat) (vs : List SV) (xss : List (List Int)) (M : Option Addr) (m cm : Nat) (us : List SV) (yss : List (List Int)) (w : World), GIn w A n vs xss → GIn w M m us yss → I64 a →
  Calls Try.prog F #[.int .i64 a, .slice A n c, .slice M m cm] w fun e w' => ∃ A' m' c' us' l ok, e = .returned (.tuple #[.slice A' m' c', .bool ok]) ∧ SS w' w.heap.size w.heap.size A' m' c' us' l ∧ R a xss yss l ok ∧ Below w.heap.size w w'
def CtImiiM (F : Nat) (R : Int → List (List Int) → Int → Int → List (List Int) → Prop) : Prop := ∀ (a : Int) (A : Option Addr) (n c : Nat) (vs : List SV) (xss : List (List Int)) (x y : Int) (w : World), GIn w A n vs xss → I64 a → I64 x → I64 y →
  Calls Try.prog F #[.int .i64 a, .slice A n c, .int .i64 x, .int .i64 y] w fun e w' => ∃ A' m' c' us l, e = .returned (.slice A' m' c') ∧ SS w' w.heap.size w.heap.size A' m' c' us l ∧ R a xss x y l ∧ Below w.heap.size w w'
theorem getD_mapL {f : List Int → List Int} {l : List (List Int)} {i : Nat} (h : i < l.length) : (l.map f).take (i + 1) = (l.map f).take i ++ [f (l.getD i [])] := by
  rw [List.take_succ_eq_append_getElem (by rw [List.length_map]; exact h), List.getElem_map, getD_L h]
/-- The bounds of an order. -/
theorem ord_bnd {a : Int} {gs : List (List Int)} {v : Int} (h : IsOrd a gs v) : 0 ≤ v ∧ v ≤ 2432902008176640000 := by
  rcases h with ⟨e, xs, h, rfl⟩ | ⟨_, rfl⟩
  · obtain ⟨N, rfl, h1, h2, _, _, ok⟩ := gB_pm e
    rw [Int.toNat_natCast] at h
    have hp := h.pr_le ok h1 h2 0 N (by omega)
    have hf := facts_le h2 (0 + N) (by omega)
    rw [prodL_pr, h.1]
    omega
  · omega
end Go.Proofs.Ytedfcljikgmpgaa
