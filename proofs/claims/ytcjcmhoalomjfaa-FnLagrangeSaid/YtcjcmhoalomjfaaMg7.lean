/- Part 7 of the texts: Shelf, Row, PkV, PkO, PkL, PsN, PsD, MpK, MpA, PsB, MpB, MpC. No condition of its own: each text tells its own. -/
import Derived.Test.YtcjcmhoalomjfaaMg1
import Derived.Test.YtcjcmhoalomjfaaMg6
import Derived.Test.YtcjcmhoalomjfaaMg4
import Derived.Test.YtcjcmhoalomjfaaMg5
import Derived.Shelf.SortM.Plain
import Derived.Shelf.SlSortCmp.Whole1
import Derived.Test.YtcjcmhoalomjfaaProg
import Derived.Sort.Grow
import Derived.Laws.EntriesVeiled
import Derived.Maps.Own
import Derived.Maps.OwnSet
import Derived.Maps.RangeWalk
import Derived.DeepKeys4
import Derived.Laws.CopyOwn
import Derived.Deep.WholeRow
set_option linter.unusedVariables false
set_option linter.unusedSimpArgs false

/- The library's contracts laid at this program: tables of numbers, and facts that the kernel compares. No condition. -/
namespace Go.Proofs.Ytcjcmhoalomjfaa
open Go.Proofs Go.Shelf
def laySort_ren : Go.Shelf.Ren := ⟨fun | 5 => 146 | 8 => 129 | 7 => 152 | 19 => 144 | 20 => 145 | 10 => 154 | 11 => 155 | 12 => 156 | 13 => 157 | 14 => 158 | 15 => 159 | 16 => 160 | 17 => 161 | 18 => 162 | 30 => 163 | 31 => 148 | 32 => 149 | 33 => 164 | 34 => 165 | 35 => 130 | 40 => 166 | n => n, fun | 23 => 33 | 25 => 2 | 3 => 3 | 32 => 120 | 22 => 33 | 0 => 0 | 44 => 136 | 46 => 138 | 4 => 4 | 36 => 129 | 35 => 128 | 41 => 133 | 5 => 5 | 9 => 9 | 53 => 140 | 57 => 144 | 63 => 147 | 64 => 148 | n => n, fun | n => n⟩
theorem laySort : Go.Proofs.SlLaysM.n5 Try.prog laySort_ren := {
  mixed := by kernel_rfl
  f5 := ⟨Try.f146.name, by decide, Try.func146.trans (congrArg some (by kernel_rfl))⟩
  f7 := ⟨Try.f152.name, by decide, Try.func152.trans (congrArg some (by kernel_rfl))⟩
  f8 := Try.func129.trans (congrArg some (by kernel_rfl))
  f10 := ⟨Try.f154.name, by decide, Try.func154.trans (congrArg some (by kernel_rfl))⟩
  f11 := ⟨Try.f155.name, by decide, Try.func155.trans (congrArg some (by kernel_rfl))⟩
  f12 := ⟨Try.f156.name, by decide, Try.func156.trans (congrArg some (by kernel_rfl))⟩
  f13 := ⟨Try.f157.name, by decide, Try.func157.trans (congrArg some (by kernel_rfl))⟩
  f14 := ⟨Try.f158.name, by decide, Try.func158.trans (congrArg some (by kernel_rfl))⟩
  f15 := ⟨Try.f159.name, by decide, Try.func159.trans (congrArg some (by kernel_rfl))⟩
  f16 := ⟨Try.f160.name, by decide, Try.func160.trans (congrArg some (by kernel_rfl))⟩
  f17 := ⟨Try.f161.name, by decide, Try.func161.trans (congrArg some (by kernel_rfl))⟩
  f18 := ⟨Try.f162.name, by decide, Try.func162.trans (congrArg some (by kernel_rfl))⟩
  f19 := Try.func144.trans (congrArg some (by kernel_rfl))
  f20 := Try.func145.trans (congrArg some (by kernel_rfl))
  f30 := ⟨Try.f163.name, by decide, Try.func163.trans (congrArg some (by kernel_rfl))⟩
  f31 := Try.func148.trans (congrArg some (by kernel_rfl))
  f32 := Try.func149.trans (congrArg some (by kernel_rfl))
  f33 := ⟨Try.f164.name, by decide, Try.func164.trans (congrArg some (by kernel_rfl))⟩
  f34 := ⟨Try.f165.name, by decide, Try.func165.trans (congrArg some (by kernel_rfl))⟩
  f35 := ⟨Try.f130.name, by decide, Try.func130.trans (congrArg some (by kernel_rfl))⟩
  f40 := ⟨Try.f166.name, by decide, Try.func166.trans (congrArg some (by kernel_rfl))⟩
  t0 := Try.underlying0
  a0 := Try.isAgg0
  z0 := Try.sizeOf0
  v0 := Try.zeroValue0
  t3 := Try.underlying3
  a3 := Try.isAgg3
  z3 := Try.sizeOf3
  v3 := Try.zeroValue3
  t4 := Try.underlying4
  a4 := Try.isAgg4
  z4 := Try.sizeOf4
  v4 := Try.zeroValue4
  t5 := Try.underlying5
  a5 := Try.isAgg5
  z5 := Try.sizeOf5
  v5 := Try.zeroValue5
  t9 := Try.underlying9
  a9 := Try.isAgg9
  z9 := Try.sizeOf9
  v9 := Try.zeroValue9
  t22 := Try.underlying33
  a22 := Try.isAgg33
  z22 := Try.sizeOf33
  v22 := Try.zeroValue33
  t23 := Try.underlying33
  a23 := Try.isAgg33
  z23 := Try.sizeOf33
  v23 := Try.zeroValue33
  t25 := Try.underlying2
  a25 := Try.isAgg2
  z25 := Try.sizeOf2
  v25 := Try.zeroValue2
  t32 := Try.underlying120
  a32 := Try.isAgg120
  z32 := Try.sizeOf120
  v32 := Try.zeroValue120
  t35 := Try.underlying128
  a35 := Try.isAgg128
  z35 := Try.sizeOf128
  v35 := Try.zeroValue128
  t36 := Try.underlying129
  a36 := Try.isAgg129
  z36 := Try.sizeOf129
  v36 := Try.zeroValue129
  t41 := Try.underlying133
  a41 := Try.isAgg133
  z41 := Try.sizeOf133
  v41 := Try.zeroValue133
  t44 := Try.underlying136
  a44 := Try.isAgg136
  z44 := Try.sizeOf136
  v44 := Try.zeroValue136
  t46 := Try.underlying138
  a46 := Try.isAgg138
  z46 := Try.sizeOf138
  v46 := Try.zeroValue138
  t53 := Try.underlying140
  a53 := Try.isAgg140
  z53 := Try.sizeOf140
  v53 := Try.zeroValue140
  t57 := Try.underlying144
  a57 := Try.isAgg144
  z57 := Try.sizeOf144
  v57 := Try.zeroValue144
  t63 := Try.underlying147
  a63 := Try.isAgg147
  z63 := Try.sizeOf147
  v63 := Try.zeroValue147
  t64 := Try.underlying148
  a64 := Try.isAgg148
  z64 := Try.sizeOf148
  v64 := Try.zeroValue148 }
def laySortF_ren : Go.Shelf.Ren := ⟨fun | 6 => 103 | 15 => 129 | 14 => 128 | 28 => 144 | 29 => 145 | 20 => 136 | 21 => 137 | 22 => 138 | 23 => 139 | 24 => 140 | 25 => 141 | 26 => 142 | 27 => 143 | 46 => 147 | 47 => 148 | 48 => 149 | 49 => 150 | 50 => 151 | 57 => 153 | n => n, fun | 22 => 24 | 24 => 33 | 25 => 57 | 3 => 3 | 39 => 120 | 0 => 0 | 53 => 136 | 55 => 138 | 4 => 4 | 46 => 129 | 45 => 128 | 50 => 133 | 5 => 5 | 9 => 9 | 66 => 140 | 70 => 144 | 76 => 147 | 77 => 148 | n => n, fun | n => n⟩
theorem laySortF : Go.Proofs.SlLaysF.n6 Try.prog laySortF_ren := {
  mixed := by kernel_rfl
  f6 := ⟨Try.f103.name, by decide, Try.func103.trans (congrArg some (by kernel_rfl))⟩
  f14 := ⟨Try.f128.name, by decide, Try.func128.trans (congrArg some (by kernel_rfl))⟩
  f15 := Try.func129.trans (congrArg some (by kernel_rfl))
  f20 := ⟨Try.f136.name, by decide, Try.func136.trans (congrArg some (by kernel_rfl))⟩
  f21 := ⟨Try.f137.name, by decide, Try.func137.trans (congrArg some (by kernel_rfl))⟩
  f22 := ⟨Try.f138.name, by decide, Try.func138.trans (congrArg some (by kernel_rfl))⟩
  f23 := ⟨Try.f139.name, by decide, Try.func139.trans (congrArg some (by kernel_rfl))⟩
  f24 := ⟨Try.f140.name, by decide, Try.func140.trans (congrArg some (by kernel_rfl))⟩
  f25 := ⟨Try.f141.name, by decide, Try.func141.trans (congrArg some (by kernel_rfl))⟩
  f26 := ⟨Try.f142.name, by decide, Try.func142.trans (congrArg some (by kernel_rfl))⟩
  f27 := ⟨Try.f143.name, by decide, Try.func143.trans (congrArg some (by kernel_rfl))⟩
  f28 := Try.func144.trans (congrArg some (by kernel_rfl))
  f29 := Try.func145.trans (congrArg some (by kernel_rfl))
  f46 := ⟨Try.f147.name, by decide, Try.func147.trans (congrArg some (by kernel_rfl))⟩
  f47 := Try.func148.trans (congrArg some (by kernel_rfl))
  f48 := Try.func149.trans (congrArg some (by kernel_rfl))
  f49 := ⟨Try.f150.name, by decide, Try.func150.trans (congrArg some (by kernel_rfl))⟩
  f50 := ⟨Try.f151.name, by decide, Try.func151.trans (congrArg some (by kernel_rfl))⟩
  f57 := ⟨Try.f153.name, by decide, Try.func153.trans (congrArg some (by kernel_rfl))⟩
  t0 := Try.underlying0
  a0 := Try.isAgg0
  z0 := Try.sizeOf0
  v0 := Try.zeroValue0
  t3 := Try.underlying3
  a3 := Try.isAgg3
  z3 := Try.sizeOf3
  v3 := Try.zeroValue3
  t4 := Try.underlying4
  a4 := Try.isAgg4
  z4 := Try.sizeOf4
  v4 := Try.zeroValue4
  t5 := Try.underlying5
  a5 := Try.isAgg5
  z5 := Try.sizeOf5
  v5 := Try.zeroValue5
  t9 := Try.underlying9
  a9 := Try.isAgg9
  z9 := Try.sizeOf9
  v9 := Try.zeroValue9
  t22 := Try.underlying24
  a22 := Try.isAgg24
  z22 := Try.sizeOf24
  v22 := Try.zeroValue24
  a24 := Try.isAgg33
  z24 := Try.sizeOf33
  t25 := Try.underlying57
  a25 := Try.isAgg57
  z25 := Try.sizeOf57
  v25 := Try.zeroValue57
  t39 := Try.underlying120
  a39 := Try.isAgg120
  z39 := Try.sizeOf120
  v39 := Try.zeroValue120
  t45 := Try.underlying128
  a45 := Try.isAgg128
  z45 := Try.sizeOf128
  v45 := Try.zeroValue128
  t46 := Try.underlying129
  a46 := Try.isAgg129
  z46 := Try.sizeOf129
  v46 := Try.zeroValue129
  t50 := Try.underlying133
  a50 := Try.isAgg133
  z50 := Try.sizeOf133
  v50 := Try.zeroValue133
  t53 := Try.underlying136
  a53 := Try.isAgg136
  z53 := Try.sizeOf136
  v53 := Try.zeroValue136
  t55 := Try.underlying138
  a55 := Try.isAgg138
  z55 := Try.sizeOf138
  v55 := Try.zeroValue138
  t66 := Try.underlying140
  a66 := Try.isAgg140
  z66 := Try.sizeOf140
  v66 := Try.zeroValue140
  t70 := Try.underlying144
  a70 := Try.isAgg144
  z70 := Try.sizeOf144
  v70 := Try.zeroValue144
  t76 := Try.underlying147
  a76 := Try.isAgg147
  z76 := Try.sizeOf147
  v76 := Try.zeroValue147
  t77 := Try.underlying148
  a77 := Try.isAgg148
  z77 := Try.sizeOf148
  v77 := Try.zeroValue148 }
end Go.Proofs.Ytcjcmhoalomjfaa

/- Rows of the call's own that the library has written over. No condition. -/
namespace Go.Proofs.Ytcjcmhoalomjfaa
open Go.RowKit Go.Sort

theorem heap_put {α : Type} [Inhabited α] (enc : α → Value) (w : World) (k g : Nat) (d : Array α) (os : Array Obj) {cur : Array Value} {e : TypeId} {fr : Nat × Nat} (hb : w.heap[g]? = some (.cells cur e fr)) :
    (grow (putRow enc (Sort.ahead w k) g 0 d) os).heap[g]? = some (.cells (putCells enc 0 d cur) e fr) := by
  have hlt : g < w.heap.size := (Array.getElem?_eq_some_iff.1 hb).1
  rw [heap_grow_old _ _ (by simpa using hlt)]
  unfold putRow mapBlock
  simp [Array.getElem?_modify, hb, onCells]
theorem put_take {α : Type} [Inhabited α] (enc : α → Value) (ts : List α) (cur : Array Value) (n : Nat) (hn : n ≤ ts.length) (hc : ts.length ≤ cur.size) : (putCells enc 0 ts.toArray cur).toList.take n = (ts.take n).map enc := by
  apply List.ext_getElem
  · simp [putCells]; omega
  · intro i h1 h2
    simp [putCells] at h1 h2 ⊢
    rw [if_pos (by omega)]
    rw [List.getElem?_eq_getElem (by omega)]; rfl
theorem grown_put {α : Type} [Inhabited α] (enc : α → Value) (w : World) (k g : Nat) (d : Array α) (os : Array Obj) : w.grownBy (grow (putRow enc (Sort.ahead w k) g 0 d) os) (some g) := by
  refine ⟨rfl, rfl, rfl, by simp, fun i hi hne => ?_⟩
  rw [heap_grow_old _ _ (by simpa using hi)]
  unfold putRow mapBlock
  have : ¬ g = i := fun e => hne (by rw [e])
  simp [Array.getElem?_modify, this]
theorem own_put {α : Type} [Inhabited α] (enc : α → Value) {w : World} {base g cap n : Nat} {e : TypeId} {xs : List α} {ts : List α} (h : w.ownsRow base e 1 (.slice (some ⟨g, 0, none⟩) xs.length cap) xs.length (xs.map enc))
    (hl : ts.length = xs.length) (hn : n ≤ xs.length) (k : Nat) (os : Array Obj) :
    (grow (putRow enc (Sort.ahead w k) g 0 ts.toArray) os).ownsRow base e 1 (.slice (some ⟨g, 0, none⟩) n cap) n ((ts.take n).map enc) := by
  refine ⟨by simp; omega, .inr ?_⟩
  rcases h.2 with ⟨e1, _⟩ | ⟨g', cap', cur, e1, hb, hg, h1, h2, h3, h4⟩
  · cases e1
  · injection e1 with e1 e2 e3
    injection e1 with e1
    injection e1 with e1
    subst e1; subst e3
    refine ⟨g, cap, _, rfl, hb, heap_put enc w k g _ os hg, by omega, h2, by simp [putCells]; omega, ?_⟩
    rw [Nat.mul_one]
    exact put_take enc ts cur n (by omega) (by omega)
theorem holds_own {α : Type} [Inhabited α] (enc : α → Value) {w : World} {base g cap : Nat} {e : TypeId} {xs : List α} (h : w.ownsRow base e 1 (.slice (some ⟨g, 0, none⟩) xs.length cap) xs.length (xs.map enc)) :
    Holds enc w g 0 xs.toArray := by
  intro j hj
  simp at hj
  rw [Nat.zero_add]
  refine ⟨?_, h.frozenAt j⟩
  rw [h.cellAt j (by omega), List.getElem?_map, List.getElem?_eq_getElem hj, getElem!_pos _ j (by simpa using hj)]
  simp

/-- slices.Sort at a row of the call's own. -/
theorem sortT (base : Nat) (A : Option Addr) (n c : Nat) (xs : List Int) (w : World) (h : Slc w base A n c xs) (h1 : 1 ≤ n) (hn : n ≤ 2097152) :
    Calls Try.prog 146 #[.slice A n c] w fun e w' => e = .returned (.tuple #[]) ∧ Slc w' base A n c (xs.mergeSort fun x y => decide (x ≤ y)) ∧ w.grownBy w' (Value.slice A n c).ownBlock := by
  obtain ⟨hl, ho⟩ := h
  subst hl
  rcases Slc.at_ ⟨rfl, ho⟩ with ⟨_, _, e0, _⟩ | ⟨g, rfl, hb, hg⟩
  · omega
  have hho : w.ownsRow base 2 1 (.slice (some ⟨g, 0, none⟩) xs.length c) xs.length (xs.map (Value.int .i64)) := ho
  refine (AnyM.slices_Sort_int laySort g 0 c xs w (holds_own _ hho) hg (by omega)).mono ?_
  rintro e w' ⟨rfl, k, os, rfl⟩
  have hlen : (xs.mergeSort fun x y => decide (x ≤ y)).length = xs.length := List.length_mergeSort _
  refine ⟨rfl, ⟨hlen, ?_⟩, grown_put _ _ _ _ _ _⟩
  have := own_put (Value.int .i64) hho hlen (Nat.le_refl _) k os
  rw [List.take_of_length_le (by omega)] at this
  unfold Own
  rw [hlen]
  exact this
end Go.Proofs.Ytcjcmhoalomjfaa

/- The program's values: the entries that a link allows behind a member, in ascending order; slices.BinarySearch. Conditions: at most 20 points; the chain whole. -/
namespace Go.Proofs.Ytcjcmhoalomjfaa
open Go.RowKit

set_option maxHeartbeats 4000000 in
set_option maxRecDepth 100000 in
/-- values, at link j. -/
theorem implValues (base N k j cp : Nat) (M : Nat → Prop) (c : Ch) (L : Nat → LK) (gs : List (List Int)) (A : Option Addr) (m : List Int) (w : World) (hc : Ck w base N k M c L) (ho : Orbs N k c L) (hw : Hid (Whole N gs c)) (hkj : k ≤ j) (hjN : j < N) (h1 : 1 ≤ N) (h2 : N ≤ 20) (hg : Hid (∀ g ∈ gs, Pn N g))
    (hm : RI w w.heap.size A m) (hmb : Hid (Mb gs N m)) :
    Calls Try.prog 134 #[.pointer (some ⟨(L j).B, 0, none⟩), .slice A N cp] w fun e w' => ∃ (g n' c' : Nat) (zs : List Int), e = .returned (.slice (some ⟨g, 0, none⟩) n' c') ∧ Slc w' w.heap.size (some ⟨g, 0, none⟩) n' c' zs ∧ 1 ≤ n' ∧ n' ≤ 20 ∧ ChL N gs m j zs ∧ Below w.heap.size w w' := by
  have HC := Lib.hid hc
  have HM := Lib.hid hm
  have hOr := ho j hkj hjN
  have hR := hw.out.up.rep j (Nat.zero_le _) hjN
  have MP := Lib.hid (hmb.out.pn hg.out h1 h2)
  have Fin := Lib.hid (val_chL hOr hw.out h1 h2 hg.out hjN hmb.out)
  obtain ⟨on, hon⟩ : ∃ on, (L j).orb.length = on := ⟨_, rfl⟩
  have hjO : j ∈ (L j).orb := (hOr.2 j).2 (by rw [hR.one]; intro e; have := idL_length N; rw [e] at this; simp at this; omega)
  have h0n : 1 ≤ on := by rw [← hon]; exact List.length_pos_of_mem hjO
  have hon20 : on ≤ 20 := by have := hOr.len hR; omega
  obtain ⟨ob, oc, hoe, _⟩ := hc.cO hkj hjN (j := 0) (by omega)
  have x2 := (hc.cB hkj hjN).2.2.1
  rw [hoe, hon] at x2
  simp only [sval] at x2
  have Hon := Lib.hid hon
  have Hoe := Lib.hid hoe
  have Hor := Lib.hid hOr
  have HR := Lib.hid hR
  obtain ⟨b, off, rfl, hb, hcell⟩ := hm (by rw [MP.out.2]; omega)
  have Hb := Lib.hid hb
  have Hcell : Hid (∀ y, y < N → w.cell? ⟨b, off + y, none⟩ = some (.int .i64 ((nx m y : Nat) : Int))) := Lib.hid fun y hy => by
    rw [hcell y (by rw [MP.out.2]; exact hy), nx_val MP.out.1 (by rw [MP.out.2]; exact hy)]
  clear hc hm ho hOr hR hon hjO hoe hb hcell
  go_enter Try.func134, Try.ntmps134
  go_wp2_with fail
  go_loopw [5, 7, 13] (fun v _ i wr => ∃ (t cc : Nat) (A' : Option Addr), t ≤ on ∧ i = .int .i64 (t : Nat) ∧ v = .slice A' t cc ∧ Slc wr w.heap.size A' t cc (vlL m ((L j).orb.take t)) ∧ Below w.heap.size w wr) (fun _ _ i _ => on - (intOf i).toNat)
  case atStart => exact ⟨0, 0, none, Nat.zero_le _, rfl, rfl, Slc.nil_, Below.refl _ _⟩
  case round =>
    obtain ⟨t, cc, A', ht, rfl, rfl, hs, bel⟩ := hrel
    have Ss := Lib.hid hs
    have Be := Lib.hid bel
    have Cj := Lib.hid (HC.out.up bel)
    have hzr := bel.size
    clear hs bel
    by_cases hlt : t < on
    · obtain ⟨ob', oc', hoe', x6⟩ := Cj.out.cO hkj hjN (j := t) (by rw [Hon.out]; exact hlt)
      obtain ⟨rfl, rfl⟩ : ob = ob' ∧ oc = oc' := by
        rw [Hoe.out] at hoe'
        injection hoe' with h1 h2
        injection h1 with h1
        injection h1 with h1
        injection h2 with _ h2
        exact ⟨h1, h2⟩
      obtain ⟨y, ey⟩ : ∃ y, (L j).orb.getD t 0 = y := ⟨_, rfl⟩
      rw [ey] at x6
      have hyO : y ∈ (L j).orb := by rw [← ey, List.getD_eq_getElem?_getD, List.getElem?_eq_getElem (by rw [Hon.out]; exact hlt)]; exact List.getElem_mem _
      have hy : y < N := Hor.out.lt HR.out hyO
      have x7 := (Be.out.cell (p := ⟨b, off + y, none⟩) Hb.out).trans (Hcell.out y hy)
      obtain ⟨u, eu⟩ : ∃ u, nx m y = u := ⟨_, rfl⟩
      rw [eu] at x7
      have Nt : Hid (vlL m ((L j).orb.take (t + 1)) = vlL m ((L j).orb.take t) ++ [(u : Int)]) := Lib.hid (by rw [vlL_take (by rw [Hon.out]; exact hlt), ey, eu])
      have q0 : (0 : Int) ≤ t := by omega
      have q1 : (t : Int) < on := by omega
      have q2 : (0 : Int) ≤ y := by omega
      have q3 : (y : Int) < N := by omega
      clear hoe' ey hyO eu
      go_wp2_with (first | (at_builtin; refine wpList_app1 rfl _ _ rfl w.heap.size A' t cc _ rfl (Ss.out.alloc _) wr.heap.size (u : Int) rfl (by rw [World.cell?_alloc_at _ _ _ _ rfl]; rfl) (by omega) (by simp; omega) ?_; intro A3 c3 w3 s3 g3))
      have S3 : Hid (Slc w3 w.heap.size A3 (t + 1) c3 (vlL m ((L j).orb.take (t + 1)))) := Lib.hid (by rw [Nt.out]; exact s3)
      have B3 : Hid (Below w.heap.size w w3) := Lib.hid ((Be.out.alloc hzr _).grown g3 (by simp; omega) (fun j hj => (Ss.out.lt_ j hj).1))
      clear s3 g3
      go_wp2_with fail
      go_roundw
      case rel => exact ⟨t + 1, c3, A3, by omega, by go_num, rfl, S3.out, B3.out⟩
      case measure => simp [intOf]; omega
    · obtain rfl : t = on := by omega
      have Ta : Hid (vlL m ((L j).orb.take t) = vlL m (L j).orb) := Lib.hid (by rw [List.take_of_length_le (by rw [Hon.out]; exact Nat.le_refl _)])
      go_wp2_with fail
      refine (sortT w.heap.size A' t cc _ wr Ss.out h0n (by omega)).mono ?_
      rintro e w4 ⟨rfl, s4, g4⟩
      have S4 : Hid (Slc w4 w.heap.size A' t cc ((vlL m (L j).orb).mergeSort fun x y => decide (x ≤ y))) := Lib.hid (by rw [← Ta.out]; exact s4)
      have B4 : Hid (Below w.heap.size w w4) := Lib.hid (Be.out.grown g4 Be.out.size (fun j hj => (Ss.out.lt_ j hj).1))
      clear s4 g4
      go_wp2_with fail
      go_ret
      rcases S4.out.at_ with ⟨_, _, e0, _⟩ | ⟨g, rfl, _, _⟩
      · omega
      · exact ⟨g, _, _, _, rfl, S4.out, h0n, hon20, Fin.out, B4.out⟩

end Go.Proofs.Ytcjcmhoalomjfaa

/- The program's memberOf: a member chosen entry by entry, by a function that may keep a state of its own. Conditions: at most 20 points; the chain whole. -/
namespace Go.Proofs.Ytcjcmhoalomjfaa
open Go.RowKit

/-- What is asked of the function that picks: F with its captured cell cp; it writes into the blocks S alone; Inv tells what holds ahead of entry i, behind the choices that m tells. -/
structure PickOK (base N : Nat) (gs : List (List Int)) (F : Nat) (cp : Value) (M : Nat → Prop) (ch : Ch) (L : Nat → LK) (S : Nat → Prop) (Inv : Nat → List Int → World → Prop) : Prop where
  ent : ∀ (args : Array Value) (w : World), (callFunc F args).run Try.prog w = .ok (.enter F args) w
  ck : ∀ i m w, Inv i m w → Ck w base N 0 M ch L
  up : ∀ i m w w', Inv i m w → Below w.heap.size w w' → Inv i m w'
  pick : ∀ (i : Nat) (m zs : List Int) (A : Option Addr) (n c : Nat) (w : World), i < N → Inv i m w → Mb gs N m → ChL N gs m i zs → Rd w S (A, n, c) zs → 1 ≤ n → n ≤ 20 →
    Calls Try.prog F #[.pointer (some ⟨(L i).B, 0, none⟩), .slice A n c, cp] w fun e w' => ∃ v : Nat, e = .returned (.int .i64 (v : Nat)) ∧ (v : Int) ∈ zs ∧ Chg w w' S ∧ ∀ m', Mb gs N m' → Ag i m' m → nx m' i = v → Inv (i + 1) m' w'

/-- The member so far: at first the chain's own identity, then one in a new row. -/
def Cur (w : World) (lo N : Nat) (L : Nat → LK) (j : Nat) (A : Option Addr) (c : Nat) (m : List Int) : Prop := (j = 0 ∧ m = idL N ∧ (L 0).en.getD 0 sd0 = (A, N, c)) ∨ Slc w lo A N c m
section
variable {w w' : World} {base lo N j c : Nat} {L : Nat → LK} {M S : Nat → Prop} {ch : Ch} {A : Option Addr} {m : List Int} {gs : List (List Int)}
theorem rep00 (hw : Whole N gs ch) (h1 : 1 ≤ N) : ch.rep 0 0 = idL N := (hw.up.rep 0 (Nat.le_refl _) (by omega)).one
theorem idL_ne (h1 : 1 ≤ N) : idL N ≠ [] := fun e => by have := idL_length N; rw [e] at this; simp at this; omega
theorem Cur.ri (h : Cur w lo N L j A c m) (hc : Ck w base N 0 M ch L) (hw : Whole N gs ch) (h1 : 1 ≤ N) : RI w w.heap.size A m := by
  rcases h with ⟨_, rfl, e⟩ | h
  · have := (hc.eM (Nat.le_refl _) (by omega) (y := 0) (by omega)).2 (by rw [rep00 hw h1]; exact idL_ne h1)
    rw [e, rep00 hw h1] at this
    exact this.ri
  · exact h.ri_
theorem Cur.chg (h : Cur w lo N L j A c m) (hc : Chg w w' S) (hS : ∀ b, S b → b < lo) : Cur w' lo N L j A c m := by
  rcases h with h | h
  · exact .inl h
  · exact .inr (h.chgS hc fun b e hb => by have := (h.lt_ b e).1; have := hS b hb; omega)
/-- The mover of the base to itself. -/
theorem Ck.mover0 (hc : Ck w base N 0 M ch L) (hw : Whole N gs ch) (h1 : 1 ≤ N) : ∃ b off cc, (L 0).en.getD 0 sd0 = (some ⟨b, off, none⟩, N, cc) ∧ w.cell? ⟨(L 0).mb, 0, none⟩ = some (.slice (some ⟨b, off, none⟩) N cc) ∧ N ≤ cc ∧ RI w w.heap.size (some ⟨b, off, none⟩) (idL N) := by
  have x5 := hc.cM (Nat.le_refl _) (show 0 < N by omega) (y := 0) (by omega)
  have hrd := (hc.eM (Nat.le_refl _) (show 0 < N by omega) (y := 0) (by omega)).2 (by rw [rep00 hw h1]; exact idL_ne h1)
  rw [rep00 hw h1] at hrd
  rcases hd : (L 0).en.getD 0 sd0 with ⟨dA, dn, dc⟩
  rw [hd] at x5 hrd
  obtain ⟨b, off, e⟩ := rd_not0 hrd (idL_ne h1)
  have e : dA = some ⟨b, off, none⟩ := e
  subst e
  obtain rfl : dn = N := by have h3 : (idL N).length = dn := hrd.len; rw [idL_length] at h3; omega
  exact ⟨b, off, dc, rfl, x5, hrd.cap, hrd.ri⟩
end

end Go.Proofs.Ytcjcmhoalomjfaa

/- The program's members: all of them, by a function that calls itself through a variable; Members. Conditions: at most 1048576 lists of at most 1048576 numbers. -/
namespace Go.Proofs.Ytcjcmhoalomjfaa
open Go.RowKit

/-- The members that agree with m in the first i entries, in order. -/
structure Sub (N : Nat) (gs : List (List Int)) (i : Nat) (m : List Int) (l : List (List Int)) : Prop where
  srt : l.Pairwise (LxI N)
  mem : ∀ p, p ∈ l ↔ Mb gs N p ∧ Ag i p m
/-- Those among them whose entry i is one of the first t of zs. -/
structure SubT (N : Nat) (gs : List (List Int)) (i : Nat) (m zs : List Int) (t : Nat) (l : List (List Int)) : Prop where
  srt : l.Pairwise (LxI N)
  mem : ∀ p, p ∈ l ↔ Mb gs N p ∧ Ag i p m ∧ ∃ u, u < t ∧ (nx p i : Int) = zs.getD u 0
section
variable {N i t : Nat} {gs : List (List Int)} {m m' zs : List Int} {l l' : List (List Int)}
theorem Sub.one (hg : ∀ g ∈ gs, Pn N g) (h1 : 1 ≤ N) (h2 : N ≤ 20) (hm : Mb gs N m) : Sub N gs N m [m] :=
  ⟨List.pairwise_singleton _ _, fun p => by
    rw [List.mem_singleton]
    exact ⟨fun e => ⟨e ▸ hm, fun x _ => by rw [e]⟩, fun ⟨a, b⟩ => (a.pn hg h1 h2).ext (hm.pn hg h1 h2) fun x hx => b x hx⟩⟩
theorem SubT.zero : SubT N gs i m zs 0 [] := ⟨.nil, fun p => ⟨fun h => (by cases h), fun ⟨_, _, u, hu, _⟩ => absurd hu (Nat.not_lt_zero _)⟩⟩
theorem SubT.next (h : SubT N gs i m zs t l) (hs : Sub N gs (i + 1) m' l') (hz : zs.Pairwise (· < ·)) (hi : i < N) (ht : t < zs.length) (ha : Ag i m' m) (hv : (nx m' i : Int) = zs.getD t 0) : SubT N gs i m zs (t + 1) (l ++ l') := by
  refine ⟨List.pairwise_append.2 ⟨h.srt, hs.srt, fun x hx y hy => ?_⟩, fun p => ?_⟩
  · obtain ⟨_, a1, u, hu, e1⟩ := (h.mem x).1 hx
    obtain ⟨_, a2⟩ := (hs.mem y).1 hy
    have a3 := (ag_succ.1 a2)
    refine ⟨i, hi, a1.trans (a3.1.trans ha).symm, ?_⟩
    have := sorted_lo hz hu ht
    have := a3.2
    omega
  · rw [List.mem_append, h.mem, hs.mem]
    constructor
    · rintro (⟨a, b, u, hu, e⟩ | ⟨a, b⟩)
      · exact ⟨a, b, u, by omega, e⟩
      · have b3 := ag_succ.1 b
        exact ⟨a, b3.1.trans ha, t, by omega, by rw [b3.2]; exact hv⟩
    · rintro ⟨a, b, u, hu, e⟩
      by_cases eu : u = t
      · subst eu
        exact .inr ⟨a, ag_succ.2 ⟨b.trans ha.symm, by omega⟩⟩
      · exact .inl ⟨a, b, u, by omega, e⟩
theorem SubT.all (h : SubT N gs i m zs zs.length l) (hc : ChL N gs m i zs) : Sub N gs i m l :=
  ⟨h.srt, fun p => by
    rw [h.mem]
    refine ⟨fun ⟨a, b, _⟩ => ⟨a, b⟩, fun ⟨a, b⟩ => ⟨a, b, ?_⟩⟩
    obtain ⟨u, hu, e⟩ := List.mem_iff_getElem.1 ((hc.2 _).2 ⟨p, a, b, rfl⟩)
    exact ⟨u, hu, by rw [gdx' hu]; exact e.symm⟩⟩
/-- How many they are. -/
theorem Sub.len {xs : List Int} (h : Sub N gs i m l) (ho : IsOS N gs xs) (hg : ∀ g ∈ gs, Pn N g) (h1 : 1 ≤ N) (h2 : N ≤ 20) (hi : i ≤ N) (hm : Mb gs N m) : (l.length : Int) = pr xs i (N - i) := by
  obtain ⟨v, hv, e⟩ := agree_card ho hg h1 h2 hi hm
  rw [e, hv.uniq ⟨l, lx_nodup h.srt, h.mem, rfl⟩]
end

/-- The blocks that the list may turn: its box, its row. -/
def Tb (ball : Nat) (A : Option Addr) (n c : Nat) (b : Nat) : Prop := b = ball ∨ (Value.slice A n c).ownBlock = some b
theorem SS.chgS {w w' : World} {lo n c : Nat} {A : Option Addr} {us : List SV} {l : List (List Int)} {S : Nat → Prop} (h : SS w lo lo A n c us l) (hc : Chg w w' S) (hS : ∀ b, S b → b < lo) : SS w' lo lo A n c us l :=
  ⟨ownsRow_chg h.own hc fun b e hs => by have := (h.lt_ b e).1; have := hS b hs; omega, h.lv, h.lx, fun i hi => (h.row i hi).chgS hc fun b e hs => by have := ((h.row i hi).lt_ b e).1; have := hS b hs; omega, h.dis⟩
theorem chg_cellT (w : World) (b : Nat) (u : Value) : Chg w (w.setCell ⟨b, 0, none⟩ u) (fun x => x = b) := ⟨rfl, rfl, rfl, by simp, fun x hx hn => heap_setCell_other w ⟨b, 0, none⟩ _ _ fun e => hn e⟩

/-- withValue where the entry is one that the link allows. -/
theorem implWithY (base N k j cp : Nat) (M : Nat → Prop) (c : Ch) (L : Nat → LK) (A : Option Addr) (m : List Int) (v y : Nat) (w : World) (hc : Ck w base N k M c L) (hkj : k ≤ j) (hjN : j < N) (hr : Hid (RepOK N c j)) (hm : RI w w.heap.size A m) (hP : Hid (Pn N m)) (hy : y < N) (hyv : nx m y = v) (hyr : c.rep j y ≠ []) :
    Calls Try.prog 112 #[.pointer (some ⟨(L j).B, 0, none⟩), .slice A N cp, .int .i64 (v : Nat)] w fun e w' => ∃ (g c' : Nat), e = .returned (.slice (some ⟨g, 0, none⟩) N c') ∧ Slc w' w.heap.size (some ⟨g, 0, none⟩) N c' (compL (c.rep j y) m) ∧ Below w.heap.size w w' :=
  (implWith base N k j cp M c L A m (v : Nat) w hc hkj hjN hr hm hP).mono fun e w' h => by
    obtain ⟨A', n', c', rfl, (⟨_, _, _, hno⟩ | ⟨g, y2, rfl, rfl, hy2, hyv2, _, hs⟩), b⟩ := h
    · exact absurd (hno y hy (by rw [hyv])) hyr
    · obtain rfl : y2 = y := hP.out.inj hy2 hy (by omega)
      exact ⟨g, c', rfl, hs, b⟩

def ChooseOK (w0 : World) (N lo ball bch : Nat) (gs : List (List Int)) (os : List Int) (L : Nat → LK) (i : Nat) : Prop :=
  ∀ (A Am : Option Addr) (n c cm : Nat) (us : List SV) (l : List (List Int)) (m : List Int) (w : World), Below w0.heap.size w0 w → lo ≤ w.heap.size → Blk w ball 24 #[.slice A n c] → Blk w bch 125 #[.func (.func 133) #[] #[.pointer (some ⟨ball, 0, none⟩), .pointer (some ⟨bch, 0, none⟩)]] →
    SS w lo lo A n c us l → Mb gs N m → Rd w (Tb ball A n c) (Am, N, cm) m → (i = N → Slc w lo Am N cm m ∧ ∀ t, t < n → (sval (us.getD t sd0)).ownBlock = none ∨ (sval (us.getD t sd0)).ownBlock ≠ (sval (Am, N, cm)).ownBlock) → (l.length : Int) + pr os i (N - i) ≤ 3000 →
    Calls Try.prog 133 #[ptr N L i, .slice Am N cm, .pointer (some ⟨ball, 0, none⟩), .pointer (some ⟨bch, 0, none⟩)] w fun e w' => e = .returned (.tuple #[]) ∧ ∃ (A' : Option Addr) (n' c' : Nat) (us' : List SV) (l' : List (List Int)),
      Blk w' ball 24 #[.slice A' n' c'] ∧ SS w' lo lo A' n' c' us' (l ++ l') ∧ Sub N gs i m l' ∧ (∀ b, Tb ball A' n' c' b → Tb ball A n c b ∨ w.heap.size ≤ b) ∧ Chg w w' (Tb ball A n c)

set_option maxHeartbeats 4000000 in
set_option maxRecDepth 100000 in
theorem choose_end (w0 : World) (N lo ball bch : Nat) (gs : List (List Int)) (os : List Int) (L : Nat → LK) (hg : Hid (∀ g ∈ gs, Pn N g)) (h1 : 1 ≤ N) (h2 : N ≤ 20) (hbl : ball < lo) : ChooseOK w0 N lo ball bch gs os L N := by
  intro A Am n c cm us l m w bel hlo hba hbc hss hmb hrd hown hcnt
  obtain ⟨hsl, hdis⟩ := hown rfl
  have Ss := Lib.hid hss
  have Sl := Lib.hid hsl
  have Di := Lib.hid hdis
  have One := Lib.hid (Sub.one hg.out h1 h2 hmb)
  have hn3 : n ≤ 3000 := by
    rw [Nat.sub_self] at hcnt
    have hcnt : (l.length : Int) + 1 ≤ 3000 := hcnt
    have := hss.lx
    omega
  have c0 : w.cell? ⟨ball, 0, none⟩ = some (.slice A n c) := hba.cell 0
  have hnr : some ball ≠ (Value.slice A n c).ownBlock := fun e => by have := (hss.lt_ ball e.symm).1; omega
  have PA : Hid (∀ (A3 : Option Addr) (c3 : Nat) (w3 : World), SS w3 lo lo A3 (n + 1) c3 (us ++ [(Am, N, cm)]) (l ++ [m]) → (w.alloc (.cells #[.slice Am N cm] 33)).grownBy w3 (Value.slice A n c).ownBlock → ((Value.slice A3 (n + 1) c3).ownBlock = (Value.slice A n c).ownBlock ∨ (Value.slice A3 (n + 1) c3).ownBlock = some (w.alloc (.cells #[.slice Am N cm] 33)).heap.size) →
      w3.cell? ⟨ball, 0, none⟩ = some (.slice A n c) ∧ w3.frozen? ⟨ball, 0, none⟩ = false ∧ Hid (Blk (w3.setCell ⟨ball, 0, none⟩ (.slice A3 (n + 1) c3)) ball 24 #[.slice A3 (n + 1) c3] ∧ SS (w3.setCell ⟨ball, 0, none⟩ (.slice A3 (n + 1) c3)) lo lo A3 (n + 1) c3 (us ++ [(Am, N, cm)]) (l ++ [m]) ∧ (∀ b, Tb ball A3 (n + 1) c3 b → Tb ball A n c b ∨ w.heap.size ≤ b) ∧ Chg w (w3.setCell ⟨ball, 0, none⟩ (.slice A3 (n + 1) c3)) (Tb ball A n c))) := Lib.hid fun A3 c3 w3 s3 g3 h3 => by
    have b3 := (hba.alloc (.cells #[.slice Am N cm] 33)).grown g3 hnr
    refine ⟨b3.cell 0, b3.frozen 0, Lib.hid ⟨by simpa using b3.set_ 0 (.slice A3 (n + 1) c3), s3.chgS (chg_cellT _ _ _) (fun b e => by rw [e]; exact hbl), fun b e => ?_, ?_⟩⟩
    · rcases e with e | e
      · exact .inl (.inl e)
      · rcases h3 with h | h
        · exact .inl (.inr (by rw [← h]; exact e))
        · rw [h] at e; injection e with e; exact .inr (by simp at e; omega)
    · refine ((Chg.of_below (M := Tb ball A n c) ((Below.refl w.heap.size w).alloc (Nat.le_refl _) _)).trans (.of_grown (M := Tb ball A n c) g3 fun k e => .inr e) fun k e => .inl e).trans (chg_cellT _ _ _) fun k e => .inl (.inl e)
  have Fin := PA
  clear hba hbc hss hmb hrd hown hcnt hsl hdis hnr Fin
  rw [ptr_end (Nat.le_refl _)]
  go_enter Try.func133, Try.ntmps133
  go_wp2_with (first | (at_builtin; refine wpList_app2_at rfl _ _ rfl rfl (Ss.out.alloc _) w.heap.size Am N cm m rfl (by rw [World.cell?_alloc_at _ _ _ _ rfl]; rfl) (Sl.out.alloc _) Di.out (by omega) (by simp; omega) ?_; intro A3 c3 w3 s3 g3 h3; obtain ⟨v1, v2, v3⟩ := PA.out A3 c3 w3 s3 g3 h3; clear s3 g3 h3))
  (try simp only [Exit.inBlock, Exit.then]); refine bodyPost_ret (results_none rfl _ _ _) rfl ?_
  exact ⟨rfl, A3, n + 1, c3, _, [m], v3.out.1, v3.out.2.1, One.out, v3.out.2.2.1, v3.out.2.2.2⟩

set_option maxHeartbeats 8000000 in
set_option maxRecDepth 100000 in
theorem choose_step (w0 : World) (base N lo ball bch i : Nat) (gs : List (List Int)) (M : Nat → Prop) (ch : Ch) (L : Nat → LK) (hc0 : Hid (Ck w0 base N 0 M ch L)) (ho : Orbs N 0 ch L) (hw : Hid (Whole N gs ch)) (hg : Hid (∀ g ∈ gs, Pn N g)) (h1 : 1 ≤ N) (h2 : N ≤ 20) (hi : i < N) (hb0 : w0.heap.size ≤ ball) (hbl : ball < lo) (hcl : bch < lo) (hne : bch ≠ ball)
    (ih : ChooseOK w0 N lo ball bch gs (osL N ch N) L (i + 1)) : ChooseOK w0 N lo ball bch gs (osL N ch N) L i := by
  intro A Am n c cm us l m w bel hlo hba hbc hss hmb hrd hown hcnt
  have HO := Lib.hid ho
  have Os := Lib.hid (hw.out.os h1 h2)
  have C0 := Lib.hid (hc0.out.up bel)
  have Rm := Lib.hid hrd
  have Mb0 := Lib.hid hmb
  have Ss0 := Lib.hid hss
  have Ba0 := Lib.hid hba
  have Bc0 := Lib.hid hbc
  have Be0 := Lib.hid bel
  have hbaw := hba.lt
  have Cn := Lib.hid hcnt
  have PM := Lib.hid (hmb.pn hg.out h1 h2)
  have ST : Hid (∀ b, Tb ball A n c b → b < w.heap.size) := Lib.hid fun b e => by
    rcases e with e | e
    · omega
    · exact (hss.lt_ b e).2
  clear ho hba hbc hss hmb hrd hown hcnt bel
  rw [ptr_at hi]
  go_enter Try.func133, Try.ntmps133
  go_wp2_with fail
  refine (implValues base N 0 i cm M ch L gs Am m w C0.out HO.out hw (Nat.zero_le _) hi h1 h2 hg Rm.out.ri Mb0).mono ?_
  rintro e w2 ⟨g, nz, cz, zs, rfl, s2, hn1, hn20, chl, b2⟩
  have Chl := Lib.hid chl
  have Lz : Hid (zs.length = nz) := Lib.hid s2.1
  obtain ⟨cn, hcn, hcc⟩ := agree_card Os.out hg.out h1 h2 (i := i + 1) (by omega) Mb0.out
  have hfr : pr (osL N ch N) i (N - i) = ((nz * cn : Nat) : Int) := by
    have hlen := chl.len Os.out hg.out h1 h2 hi Mb0.out
    rw [show N - i = N - (i + 1) + 1 by omega, pr_front, hcc, ← hlen, s2.1, Int.natCast_mul]
  have Cc := Lib.hid hcc
  have Ct : Hid (l.length + nz * cn ≤ 3000) := Lib.hid (by have := Cn.out; rw [hfr] at this; omega)
  have Zs : Hid (Rd w2 (Tb ball A n c) (some ⟨g, 0, none⟩, nz, cz) zs) := Lib.hid (Rd.of_slc (d := (some ⟨g, 0, none⟩, nz, cz)) s2 ST.out)
  have Rm2 : Hid (Rd w2 (Tb ball A n c) (Am, N, cm) m) := Lib.hid (Rm.out.up b2)
  have Ss2 := Lib.hid (Ss0.out.up b2)
  have Ba2 := Lib.hid (Ba0.out.below b2 Ba0.out.lt)
  have Bc2 := Lib.hid (Bc0.out.below b2 Bc0.out.lt)
  have Be2 : Hid (Below w0.heap.size w0 w2) := Lib.hid (btr Be0.out b2)
  have Cg2 : Hid (Chg w w2 (Tb ball A n c)) := Lib.hid (.of_below b2)
  clear s2 chl b2 hcn hcc hfr
  go_wp2_with fail
  go_loopg [7, 18] nz (fun gg _ iv wr => ∃ (t : Nat) (A' : Option Addr) (n' c' : Nat) (us' : List SV) (l' : List (List Int)), t ≤ nz ∧ nz - t ≤ gg ∧ iv = .int .i64 (t : Nat) ∧ Blk wr ball 24 #[.slice A' n' c'] ∧ Blk wr bch 125 #[.func (.func 133) #[] #[.pointer (some ⟨ball, 0, none⟩), .pointer (some ⟨bch, 0, none⟩)]] ∧
    SS wr lo lo A' n' c' us' (l ++ l') ∧ SubT N gs i m zs t l' ∧ l'.length = t * cn ∧ (∀ b, Tb ball A' n' c' b → Tb ball A n c b ∨ w.heap.size ≤ b) ∧ Chg w wr (Tb ball A n c) ∧ Rd wr (Tb ball A' n' c') (Am, N, cm) m ∧ Rd wr (Tb ball A' n' c') (some ⟨g, 0, none⟩, nz, cz) zs ∧ Below w0.heap.size w0 wr)
  case atStart => exact ⟨0, A, n, c, us, [], Nat.zero_le _, by omega, rfl, Ba2.out, Bc2.out, by rw [List.append_nil]; exact Ss2.out, SubT.zero, by rw [Nat.zero_mul]; rfl, fun b e => .inl e, Cg2.out, Rm2.out, Zs.out, Be2.out⟩
  case round =>
    clear Zs Rm2 Ss2 Ba2 Bc2 Be2 Cg2
    obtain ⟨t, A', n', c', us', l', ht, hgg, rfl, hba, hbc, hss, hsb, hll, htb, hcg, hrm, hzs, bel⟩ := hrel
    have Ba := Lib.hid hba
    have Bc := Lib.hid hbc
    have Ss := Lib.hid hss
    have Sb := Lib.hid hsb
    have Ll := Lib.hid hll
    have Tt := Lib.hid htb
    have Cg := Lib.hid hcg
    have Rm1 := Lib.hid hrm
    have Zs := Lib.hid hzs
    have Be := Lib.hid bel
    have C1 := Lib.hid (hc0.out.up bel)
    have hzr := hcg.size
    have hz0 := bel.size
    clear hba hbc hss hsb hll htb hcg hrm hzs bel
    by_cases hlt : t < nz
    · have hzm : zs.getD t 0 ∈ zs := by rw [gdx' (by rw [Lz.out]; exact hlt)]; exact List.getElem_mem _
      obtain ⟨v, hv, _⟩ := Chl.out.bnd hg.out h1 h2 hi hzm
      obtain ⟨zb, zo, ez, hzb, _, hzc⟩ := Zs.out.at_ (by rw [Lz.out]; omega)
      have x9 := hzc t (by rw [Lz.out]; exact hlt)
      have ez2 : (some ⟨g, 0, none⟩ : Option Addr) = some ⟨zb, zo, none⟩ := ez
      injection ez2 with ez2
      injection ez2 with f1 f2 _
      subst f1 f2
      rw [Nat.zero_add, hv] at x9
      rw [hv] at hzm
      obtain ⟨y0, hy0, hyv, hry⟩ := hw.out.pick h1 h2 hg.out hi Mb0.out Chl.out hzm
      have Pk := Lib.hid (hw.out.picked h1 h2 hg.out hi Mb0.out hry)
      have Y0 : Hid (y0 < N ∧ nx m y0 = v ∧ ch.rep i y0 ≠ []) := Lib.hid ⟨hy0, by omega, hry⟩
      have Hv := Lib.hid hv
      obtain ⟨m', hm'⟩ : ∃ m', compL (ch.rep i y0) m = m' := ⟨_, rfl⟩
      have Em := Lib.hid hm'
      have x1 : wr.cell? ⟨bch, 0, none⟩ = some (.func (.func 133) #[] #[.pointer (some ⟨ball, 0, none⟩), .pointer (some ⟨bch, 0, none⟩)]) := Bc.out.cell 0
      have x2 := (C1.out.cB (Nat.zero_le _) hi).2.2.2.2
      have z0 : (0 : Int) ≤ t := by omega
      have z1 : (t : Int) < nz := by omega
      have hkk : l.length + t * cn + cn ≤ 3000 := by
        have h3 : (t + 1) * cn ≤ nz * cn := Nat.mul_le_mul_right cn hlt
        rw [Nat.succ_mul] at h3
        have := Ct.out
        omega
      have hB : (L i).B < wr.heap.size := (C1.out.lk i (Nat.zero_le _) hi).blk.lt
      have hbcw : bch < wr.heap.size := Bc.out.lt
      have ST1 : Hid (∀ b, Tb ball A' n' c' b → b < wr.heap.size) := Lib.hid fun b e => by
        rcases e with e | e
        · rw [e]; exact Ba.out.lt
        · exact (Ss.out.lt_ b e).2
      have NT : Hid (∀ b, Tb ball A' n' c' b → b ≠ bch ∧ w0.heap.size ≤ b) := Lib.hid fun b e => by
        rcases e with e | e
        · rw [e]; exact ⟨fun h => hne h.symm, hb0⟩
        · have := (Ss.out.lt_ b e).1
          exact ⟨by omega, by omega⟩
      clear ez hzb hzc hzm hy0 hyv hry hv hm'
      go_wp2_with fail
      go_region_held3 (fun w' => w'.cell? ⟨bch, 0, none⟩ = some (.func (.func 133) #[] #[.pointer (some ⟨ball, 0, none⟩), .pointer (some ⟨bch, 0, none⟩)]) ∧ w'.cell? ⟨(L i).B, 4, none⟩ = some (ptr N L (i + 1)))
        (first | exact ⟨x1, x2⟩ | exact hS1 | exact hS2 | go_keep)
        (first
          | (go_at_call 112; refine (implWithY base N 0 i cm M ch L Am m v y0 _ ?_ (Nat.zero_le _) hi ?_ ?_ PM Y0.out.1 Y0.out.2.1 Y0.out.2.2).mono ?_; (exact C1.out.up ⟨rfl, rfl, rfl, Nat.le_refl _, fun _ _ => rfl⟩); (exact Lib.hid (hw.out.up.rep i (Nat.zero_le _) hi)); (exact Rm1.out.ri); rintro e w3 ⟨g3, c3, rfl, s3', b3'⟩; have b3 : Below wr.heap.size wr w3 := ⟨b3'.os, b3'.tape, b3'.output, b3'.size, b3'.block⟩; have s3 : Slc w3 wr.heap.size (some ⟨g3, 0, none⟩) N c3 m' := by rw [← Em.out]; exact s3'
             have hS1 := And.intro ((b3.cell (p := ⟨bch, 0, none⟩) hbcw).trans x1) ((b3.cell (p := ⟨(L i).B, 4, none⟩) hB).trans x2))
          | (go_at_call 133; refine (ih A' (some ⟨g3, 0, none⟩) n' c' c3 us' (l ++ l') m' w3 ?_ ?_ ?_ ?_ ?_ ?_ ?_ ?_ ?_).mono ?_; (exact btr Be.out b3); (exact Nat.le_trans (Nat.le_trans hlo hzr) b3.size); (exact Ba.out.below b3 Ba.out.lt); (exact Bc.out.below b3 Bc.out.lt); (exact Ss.out.up b3); (rw [← Em.out]; exact Pk.out.1); (exact Rd.of_slc (d := (some ⟨g3, 0, none⟩, N, c3)) s3 ST1.out); (exact fun _ => ⟨s3.mono (Nat.le_trans hlo hzr), lies_dis Ss.out s3.lies (Nat.le_refl _)⟩); (rw [List.length_append, Ll.out, Cc.out]; omega)
             rintro e w4 ⟨rfl, A4, n4, c4, us4, l4, ba4, ss4, sb4, tb4, cg4⟩
             have cg5 : Chg wr w4 (Tb ball A' n' c') := (Chg.of_below (M := Tb ball A' n' c') b3).trans cg4 fun k e => .inl e
             have bc4 := Bc.out.chg cg5 (fun e => (NT.out bch e).1 rfl)
             have be4 : Below w0.heap.size w0 w4 := Be.out.trans (cg5.below (fun k e => (NT.out k e).2) hz0)
             have hS2 := And.intro (bc4.cell 0) (((hc0.out.up be4).cB (Nat.zero_le _) hi).2.2.2.2)))
      have T4 : Hid (∀ b, Tb ball A4 n4 c4 b → Tb ball A' n' c' b ∨ wr.heap.size ≤ b) := Lib.hid fun b e => by
        rcases tb4 b e with h | h
        · exact .inl h
        · exact .inr (Nat.le_trans b3.size h)
      have R1 : Hid (Blk w4 ball 24 #[.slice A4 n4 c4]) := Lib.hid ba4
      have R2 := Lib.hid bc4
      have R3 : Hid (SS w4 lo lo A4 n4 c4 us4 (l ++ (l' ++ l4))) := Lib.hid (by rw [← List.append_assoc]; exact ss4)
      have R4 : Hid (SubT N gs i m zs (t + 1) (l' ++ l4)) := Lib.hid (Sb.out.next sb4 Chl.out.1 hi (by rw [Lz.out]; exact hlt) (by rw [← Em.out]; exact Pk.out.2.1) (by rw [← Em.out, Pk.out.2.2, Y0.out.2.1, Hv.out]))
      have R5 : Hid ((l' ++ l4).length = (t + 1) * cn) := Lib.hid (by
        have := sb4.len Os.out hg.out h1 h2 (by omega) (by rw [← Em.out]; exact Pk.out.1)
        rw [Cc.out] at this
        rw [List.length_append, Ll.out, Nat.succ_mul]; omega)
      have R6 : Hid (∀ b, Tb ball A4 n4 c4 b → Tb ball A n c b ∨ w.heap.size ≤ b) := Lib.hid fun b e => by
        rcases T4.out b e with h | h
        · exact Tt.out b h
        · exact .inr (Nat.le_trans hzr h)
      have R7 : Hid (Chg w w4 (Tb ball A n c)) := Lib.hid (Cg.out.trans cg5 Tt.out)
      have R8 : Hid (Rd w4 (Tb ball A4 n4 c4) (Am, N, cm) m) := Lib.hid (Rm1.out.keep cg5 (fun _ e => e) T4.out)
      have R9 : Hid (Rd w4 (Tb ball A4 n4 c4) (some ⟨g, 0, none⟩, nz, cz) zs) := Lib.hid (Zs.out.keep cg5 (fun _ e => e) T4.out)
      have R10 := Lib.hid be4
      clear ba4 ss4 sb4 tb4 cg4 cg5 bc4 be4 b3 s3 hS1 hS2
      go_wp2_with fail
      go_roundg (nz - (t + 1))
      case rel => exact ⟨t + 1, A4, n4, c4, us4, l' ++ l4, by omega, by omega, by go_num, R1.out, R2.out, R3.out, R4.out, R5.out, R6.out, R7.out, R8.out, R9.out, R10.out⟩
      case measure => omega
    · obtain rfl : t = nz := by omega
      have Fin : Hid (Sub N gs i m l') := Lib.hid (by
        have := Sb.out
        rw [← Lz.out] at this
        exact this.all Chl.out)
      go_wp2_with fail
      go_end0
      exact ⟨rfl, A', n', c', us', l', Ba.out, Ss.out, Fin.out, Tt.out, Cg.out⟩
theorem choose_all (w0 : World) (base N lo ball bch : Nat) (gs : List (List Int)) (M : Nat → Prop) (ch : Ch) (L : Nat → LK) (hc0 : Hid (Ck w0 base N 0 M ch L)) (ho : Orbs N 0 ch L) (hw : Hid (Whole N gs ch)) (hg : Hid (∀ g ∈ gs, Pn N g)) (h1 : 1 ≤ N) (h2 : N ≤ 20) (hb0 : w0.heap.size ≤ ball) (hbl : ball < lo) (hcl : bch < lo) (hne : bch ≠ ball) :
    ∀ d i, i + d = N → ChooseOK w0 N lo ball bch gs (osL N ch N) L i
  | 0, i, e => by
    obtain rfl : i = N := by omega
    exact choose_end w0 i lo ball bch gs _ L hg h1 h2 hbl
  | d + 1, i, e => choose_step w0 base N lo ball bch i gs M ch L hc0 ho hw hg h1 h2 (by omega) hb0 hbl hcl hne (choose_all w0 base N lo ball bch gs M ch L hc0 ho hw hg h1 h2 hb0 hbl hcl hne d (i + 1) (by omega))

set_option maxHeartbeats 4000000 in
set_option maxRecDepth 100000 in
/-- members, of a whole chain of at most 3000. -/
theorem implMembersC (base N V : Nat) (gs : List (List Int)) (M : Nat → Prop) (ch : Ch) (L : Nat → LK) (w : World) (hc : Ck w base N 0 M ch L) (ho : Orbs N 0 ch L) (hw : Hid (Whole N gs ch)) (h1 : 1 ≤ N) (h2 : N ≤ 20) (hg : Hid (∀ g ∈ gs, Pn N g)) (hV : Hid (pr (osL N ch N) 0 N = (V : Int))) (hV3 : V ≤ 3000) :
    Calls Try.prog 115 #[.pointer (some ⟨(L 0).B, 0, none⟩)] w fun e w' => ∃ (A : Option Addr) (n c : Nat) (us : List SV) (l : List (List Int)), e = .returned (.slice A n c) ∧ SS w' w.heap.size w.heap.size A n c us l ∧ Sub N gs 0 (idL N) l ∧ Below w.heap.size w w' := by
  have hmf : ∀ (fn : Fn) (first cap : Array Value) (w : World), (Instr.makeFunc fn first cap).run Try.prog w = .ok (.func fn first cap) w := fun _ _ _ _ => rfl
  have HC := Lib.hid hc
  have HO := Lib.hid ho
  obtain ⟨w3, hw3⟩ : ∃ w3, w3 = (w.alloc (.cells #[.slice none 0 0] 24)).alloc (.cells #[.func (.func 133) #[] #[.pointer (some ⟨w.heap.size, 0, none⟩), .pointer (some ⟨w.heap.size + 1, 0, none⟩)]] 125) := ⟨_, rfl⟩
  have hz3 : w3.heap.size = w.heap.size + 2 := by rw [hw3]; simp
  have b3 : Below w.heap.size w w3 := by rw [hw3]; exact ((Below.refl _ _).alloc (Nat.le_refl _) _).alloc (by simp) _
  have B3 := Lib.hid b3
  have Ba : Hid (Blk w3 w.heap.size 24 #[.slice none 0 0]) := Lib.hid (by rw [hw3]; exact (Blk.new w _ _).alloc _)
  have Bc : Hid (Blk w3 (w.heap.size + 1) 125 #[.func (.func 133) #[] #[.pointer (some ⟨w.heap.size, 0, none⟩), .pointer (some ⟨w.heap.size + 1, 0, none⟩)]]) := Lib.hid (by
    rw [hw3]
    have := Blk.new (w.alloc (.cells #[.slice none 0 0] 24)) 125 #[.func (.func 133) #[] #[.pointer (some ⟨w.heap.size, 0, none⟩), .pointer (some ⟨w.heap.size + 1, 0, none⟩)]]
    rw [World.size_alloc] at this
    exact this)
  have C3 := Lib.hid (hc.up b3)
  obtain ⟨b, off, cc, en, x5, hcc, hri⟩ := C3.out.mover0 hw.out h1
  have hrd := (hc.eM (Nat.le_refl _) (show 0 < N by omega) (y := 0) (by omega)).2 (by rw [rep00 hw.out h1]; exact idL_ne h1)
  rw [rep00 hw.out h1, en] at hrd
  have Rd3 : Hid (Rd w3 (Tb w.heap.size none 0 0) (some ⟨b, off, none⟩, N, cc) (idL N)) := Lib.hid (hrd.keep (S := fun _ => False) (.of_below b3) (fun _ e => e.elim) fun x e => by
    rcases e with e | e
    · exact .inr (by omega)
    · cases e)
  obtain ⟨x0, x1, x2, x3, x4⟩ := C3.out.cB (Nat.le_refl _) (show 0 < N by omega)
  have x6 : w3.cell? ⟨w.heap.size + 1, 0, none⟩ = some (.func (.func 133) #[] #[.pointer (some ⟨w.heap.size, 0, none⟩), .pointer (some ⟨w.heap.size + 1, 0, none⟩)]) := Bc.out.cell 0
  have CA := choose_all w base N (w.heap.size + 2) w.heap.size (w.heap.size + 1) gs M ch L HC HO.out hw hg h1 h2 (Nat.le_refl _) (by omega) (by omega) (by omega) N 0 (by omega)
  have K : Hid (∀ q, Calls Try.prog 133 #[.pointer (some ⟨(L 0).B, 0, none⟩), .slice (some ⟨b, off, none⟩) N cc, .pointer (some ⟨w.heap.size, 0, none⟩), .pointer (some ⟨w.heap.size + 1, 0, none⟩)] (w3.drewN q) fun e w' => e = .returned (.tuple #[]) ∧ ∃ (A' : Option Addr) (n' c' : Nat) (us' : List SV) (l' : List (List Int)),
      Blk w' w.heap.size 24 #[.slice A' n' c'] ∧ SS w' w.heap.size w.heap.size A' n' c' us' l' ∧ Sub N gs 0 (idL N) l' ∧ Chg w3 w' (fun b => b = w.heap.size)) := Lib.hid fun q => by
    have KK := CA none (some ⟨b, off, none⟩) 0 0 cc [] [] (idL N) (w3.drewN q) (btr b3 (pcDrewBelow w3 q)) (by show w.heap.size + 2 ≤ w3.heap.size; omega) Ba.out Bc.out SS.nil_ .one (Rd3.out.up (pcDrewBelow w3 q)) (fun e => by omega) (by
      rw [Nat.sub_zero, hV.out]; simp; omega)
    rw [ptr_at (by omega)] at KK
    refine KK.mono fun e w' h => ?_
    obtain ⟨h0, A', n', c', us', l', a1, a2, a3, _, a5⟩ := h
    refine ⟨h0, A', n', c', us', l', a1, by rw [List.nil_append] at a2; exact a2.mono (by omega) (by omega), a3, a5.os, a5.tape, a5.output, a5.size, fun k hk hn => a5.block k hk fun e => ?_⟩
    rcases e with e | e
    · exact hn e
    · cases e
  have hB0 : (L 0).B < w.heap.size := (hc.lk 0 (Nat.le_refl _) (by omega)).blk.lt
  have hm0 : (L 0).mb < w.heap.size := (hc.mlt _ (hc.mm 0 3 _ (Nat.le_refl _) (by omega) (by decide) rfl)).2
  have p0 : (0 : Int) ≤ (0 : Nat) := by omega
  have p1 : ((0 : Nat) : Int) < N := by omega
  have p2 : (0 : Int) < N := by omega
  have p3 : 0 < N := by omega
  have Hw3 := Lib.hid hw3
  clear hc ho hw3 b3 en hri hrd x1 x2 x4 CA
  go_enter Try.func115, Try.ntmps115
  go_wp2_with fail
  rw [← Hw3.out]
  go_region_held3 (fun w' => w'.cell? ⟨w.heap.size + 1, 0, none⟩ = some (.func (.func 133) #[] #[.pointer (some ⟨w.heap.size, 0, none⟩), .pointer (some ⟨w.heap.size + 1, 0, none⟩)]) ∧ w'.cell? ⟨(L 0).B, 3, none⟩ = some (.slice (some ⟨(L 0).mb, 0, none⟩) N N) ∧ w'.cell? ⟨(L 0).B, 0, none⟩ = some (.int .i64 (0 : Nat)) ∧ w'.cell? ⟨(L 0).mb, 0, none⟩ = some (.slice (some ⟨b, off, none⟩) N cc))
    (first | exact ⟨x6, x3, x0, x5⟩ | exact hS1 | go_keep)
    (first
      | (go_at_call 133; refine (K.out _).mono ?_; rintro e w4 ⟨rfl, A4, n4, c4, us4, l4, ba4, ss4, sb4, cg4⟩
         have hk4 : ∀ x y, x < w3.heap.size → x ≠ w.heap.size → w4.cell? ⟨x, y, none⟩ = w3.cell? ⟨x, y, none⟩ := fun x y h h' => World.cell?_of_block (cg4.block x h h')
         have hS1 := And.intro ((hk4 (w.heap.size + 1) 0 (by omega) (by omega)).trans x6) (And.intro ((hk4 (L 0).B 3 (by omega) (by omega)).trans x3) (And.intro ((hk4 (L 0).B 0 (by omega) (by omega)).trans x0) ((hk4 (L 0).mb 0 (by omega) (by omega)).trans x5)))))
  have z1 : w4.cell? ⟨w.heap.size, 0, none⟩ = some (.slice A4 n4 c4) := ba4.cell 0
  have S4 := Lib.hid ss4
  have Sb := Lib.hid sb4
  have B4 : Hid (Below w.heap.size w w4) := Lib.hid (B3.out.trans (cg4.below (B := w.heap.size) (fun k e => by omega) (by omega)))
  clear ba4 ss4 sb4 cg4 x6 x3 x0 x5 hS1
  go_wp2_with fail
  go_ret
  exact ⟨_, _, _, _, _, rfl, S4.out, Sb.out, B4.out⟩

set_option maxHeartbeats 4000000 in
set_option maxRecDepth 100000 in
/-- Members; nil where there are none. -/
theorem implMembersN (a : Int) (A : Option Addr) (n c : Nat) (vs : List SV) (xss : List (List Int)) (w : World) (g : GIn w A n vs xss) :
    Calls Try.prog 84 #[.int .i64 a, .slice A n c] w fun e w' => ∃ A' m c' us l, e = .returned (.slice A' m c') ∧ SS w' w.heap.size w.heap.size A' m c' us l ∧ IsMbs a xss l ∧ (l = [] → A' = none) ∧ Below w.heap.size w w' := by
  have HX := Lib.hid g.rr
  have hlx : Hid (xss.length = n) := Lib.hid g.rr.lx
  have hn := g.hn
  have hl := Lib.hid g.hl
  clear g
  go_enter Try.func84, Try.ntmps84
  go_wp2_with fail
  refine (implGS a A n c vs xss w HX.out hn hl).mono ?_
  rintro e w1 ⟨rfl, b1⟩
  have B1 := Lib.hid b1
  have X1 := Lib.hid (HX.out.up b1)
  clear b1
  rcases hs : gB a xss with _ | _
  · have Fin : Hid (IsMbs a xss []) := Lib.hid (.inr ⟨fun h => (by have := h.1; rw [hs] at this; cases this), rfl⟩)
    clear hs
    go_wp2_with fail
    go_ret
    exact ⟨_, _, _, _, _, rfl, SS.nil_, Fin.out, fun _ => rfl, B1.out⟩
  · obtain ⟨N, rfl, hN1, hN2, hg8, hpm, hok⟩ := gB_pm hs
    have Hs := Lib.hid hs
    have Ok : Hid (∀ g ∈ xss, Pn N g) := Lib.hid hok
    have hn8 : n ≤ 8 := by rw [← hlx.out]; exact hg8
    clear hs hpm hok hg8
    go_wp2_with fail
    refine (implChainOf N n c A vs xss w1 X1.out hN1 hN2 hn8 Ok).mono ?_
    rintro e w2 ⟨ch, L, M, rfl, hc, ho, hw, b2⟩
    have W2 := Lib.hid hw
    have C2 := Lib.hid hc
    have O2 := Lib.hid ho
    have B2 : Hid (Below w.heap.size w w2) := Lib.hid (btr B1.out b2)
    obtain ⟨V, hV, eV, hVb⟩ := (hw.os hN1 hN2).ordB Ok.out hN1 hN2
    have eV' : pr (osL N ch N) 0 N = (V : Int) := by rw [prodL_pr, osL_len] at eV; exact eV
    have HV := Lib.hid hV
    have EV := Lib.hid eV'
    have K := implOrder w1.heap.size N 0 0 M ch L xss w2 hc ho W2 (Nat.le_refl _) (Nat.zero_le _) hN1 hN2 Ok
    rw [ptr_at (by omega), Nat.sub_zero, eV'] at K
    clear hc ho hw b2 hV eV eV'
    by_cases hV3 : V ≤ 3000
    · have d0 : decide ((3000 : Int) < (V : Int)) = false := by simp; omega
      have Few0 : Hid (Few (N : Int) xss) := Lib.hid ⟨Hs.out, V, by rw [Int.toNat_natCast]; exact HV.out, hV3⟩
      go_wp2_with fail
      refine K.mono ?_
      rintro e w' ⟨rfl, rfl⟩
      clear K
      go_wp2_with fail
      refine (implMembersC w1.heap.size N V xss M ch L w2 C2.out O2.out W2 hN1 hN2 Ok EV hV3).mono ?_
      rintro e w4 ⟨A4, n4, c4, us4, l4, rfl, s4, sb4, b4⟩
      have S4 : Hid (SS w4 w.heap.size w.heap.size A4 n4 c4 us4 l4) := Lib.hid (s4.mono B2.out.size B2.out.size)
      have Fin : Hid (IsMbs (N : Int) xss l4) := Lib.hid (.inl ⟨Few0.out, by rw [Int.toNat_natCast]; exact sb4.srt, fun p => by rw [Int.toNat_natCast, sb4.mem]; exact ⟨fun h => h.1, fun h => ⟨h, fun t ht => absurd ht (Nat.not_lt_zero _)⟩⟩⟩)
      have Ne : Hid (l4 ≠ []) := Lib.hid fun e => by
        have := (sb4.mem (idL N)).2 ⟨.one, fun t ht => absurd ht (Nat.not_lt_zero _)⟩
        rw [e] at this; cases this
      have B4 : Hid (Below w.heap.size w w4) := Lib.hid (btr B2.out b4)
      clear s4 sb4 b4
      go_wp2_with fail
      go_ret
      exact ⟨_, _, _, _, _, rfl, S4.out, Fin.out, fun e => absurd e Ne.out, B4.out⟩
    · have d0 : decide ((3000 : Int) < (V : Int)) = true := by simp; omega
      have Fin : Hid (IsMbs (N : Int) xss []) := Lib.hid (.inr ⟨fun ⟨_, V', h, h'⟩ => (by rw [Int.toNat_natCast] at h; have := h.uniq HV.out; omega), rfl⟩)
      go_wp2_with fail
      refine K.mono ?_
      rintro e w' ⟨rfl, rfl⟩
      clear K
      go_wp2_with fail
      go_ret
      exact ⟨_, _, _, _, _, rfl, SS.nil_, Fin.out, fun _ => rfl, B2.out⟩
/-- Members. -/
theorem implMembers : CtImM 84 IsMbs := fun a A n c vs xss w g _ =>
  (implMembersN a A n c vs xss w g).mono fun _ _ ⟨A', m, c', us, l, h0, h1, h2, _, h4⟩ => ⟨A', m, c', us, l, h0, h1, h2, h4⟩
end Go.Proofs.Ytcjcmhoalomjfaa

/- The program's commutesWithAll, IsNormalSubgroup, IsAbelian, CenterOrder. Conditions: at most 1048576 lists of at most 1048576 numbers. -/
namespace Go.Proofs.Ytcjcmhoalomjfaa
open Go.RowKit

set_option maxHeartbeats 400000 in
/-- slices.Equal of two lists that can be read. -/
theorem sEqP_core (A B : Option Addr) (c d n : Nat) (xs ys : List Int) (w : World) (hx : RI w w.heap.size A xs) (hy : RI w w.heap.size B ys) (lx : Hid (xs.length = n)) (ly : Hid (ys.length = n)) (hn : n ≤ 2097152) :
    Calls Try.prog 116 #[.slice A n c, .slice B n d] w fun e w' => e = .returned (.bool (decide (xs = ys))) ∧ ∃ m, w' = w.drewN m := by
  go_enter Try.func116, Try.ntmps116
  go_wp2
  go_loopw [5, 13] (fun _ i wr => ∃ k : Nat, k ≤ n ∧ i = .int .i64 k ∧ (∀ j, j < k → xs.getD j 0 = ys.getD j 0) ∧ ∃ m, wr = w.drewN m) (fun _ i _ => n - (intOf i).toNat)
  case atStart => exact ⟨0, Nat.zero_le _, rfl, fun j h => absurd h (by omega), 0, rfl⟩
  case round =>
    obtain ⟨k, hk, rfl, heq, m, rfl⟩ := hrel
    have Heq := Lib.hid heq
    clear heq
    by_cases hlt : k < n
    · obtain ⟨b, off, rfl, hb, hc⟩ := hx (by rw [lx.out]; omega)
      obtain ⟨b', off', rfl, hb', hc'⟩ := hy (by rw [ly.out]; omega)
      have c1 := hc k (by rw [lx.out]; omega)
      have c2 := hc' k (by rw [ly.out]; omega)
      obtain ⟨x, ex⟩ : ∃ x, xs.getD k 0 = x := ⟨_, rfl⟩
      obtain ⟨y, ey⟩ : ∃ y, ys.getD k 0 = y := ⟨_, rfl⟩
      rw [ex] at c1
      rw [ey] at c2
      have Ex := Lib.hid ex
      have Ey := Lib.hid ey
      clear ex ey hc hc' hx hy
      have p1 : (0 : Int) ≤ k := by omega
      have p2 : (k : Int) < n := by omega
      by_cases hxy : x = y
      · subst hxy
        go_wp2
        go_quiet (fail)
        go_wp2
        go_roundw
        case rel => exact ⟨k + 1, by omega, by go_num, fun j hj => by
          by_cases e : j = k
          · subst e; rw [Ex.out, Ey.out]
          · exact Heq.out j (by omega), _, rfl⟩
        case measure => simp [intOf]; omega
      · have hd : (x != y) = true := by simpa using hxy
        have hd' : (x == y) = false := by simpa using hxy
        go_wp2
        go_quiet (fail)
        go_wp2
        go_ret
        refine ⟨ret_bool (Eq.symm (decide_eq_false fun e => hxy ?_)), _, World.drewN_drewN _ _ _⟩
        rw [← Ex.out, ← Ey.out, e]
    · go_wp2
      go_ret
      have : k = n := by omega
      subst this
      exact ⟨ret_bool (Eq.symm (decide_eq_true (ext_getD lx.out ly.out Heq.out))), _, rfl⟩
theorem sEqP (A B : Option Addr) (c d n m : Nat) (xs ys : List Int) (w : World) (hx : RI w w.heap.size A xs) (hy : RI w w.heap.size B ys) (lx : Hid (xs.length = n)) (ly : Hid (ys.length = m)) (hn : n ≤ 2097152) (hm : m ≤ 2097152) :
    Calls Try.prog 116 #[.slice A n c, .slice B m d] w fun e w' => e = .returned (.bool (decide (xs = ys))) ∧ ∃ m, w' = w.drewN m := by
  by_cases hl : n = m
  · subst hl
    exact sEqP_core A B c d n xs ys w hx hy lx ly hn
  · have hd : ((n : Int) != (m : Int)) = true := by rw [bne_iff_ne]; omega
    have hd' : ((n : Int) == (m : Int)) = false := by rw [beq_eq_false_iff_ne]; omega
    go_enter Try.func116, Try.ntmps116
    go_wp2
    go_ret
    refine ⟨ret_bool (Eq.symm (decide_eq_false fun e => hl ?_)), 0, rfl⟩
    rw [← lx.out, ← ly.out, e]
theorem implCj (A B : Option Addr) (c d N : Nat) (p q : List Int) (w : World) (hp : RI w w.heap.size A p) (hq : RI w w.heap.size B q) (hP : Hid (Pn N p)) (hQ : Hid (Pn N q)) :
    Calls Try.prog 81 #[.slice A N c, .slice B N d] w fun e w' => ∃ A' c', e = .returned (.slice A' N c') ∧ Slc w' w.heap.size A' N c' (cj q p) ∧ Below w.heap.size w w' :=
  implConjBy A B c d N p q w hp hq (Lib.hid hP.out.2) (Lib.hid hQ.out.2) (Lib.hid hP.out.1) (Lib.hid hQ.out.1) hP.out.pos.2

set_option maxHeartbeats 4000000 in
set_option maxRecDepth 100000 in
/-- commutesWithAll. -/
theorem implCwa (N n c cp : Nat) (P A : Option Addr) (vs : List SV) (gs : List (List Int)) (p : List Int) (w : World) (hx : RR w w.heap.size A n vs gs) (hp : RI w w.heap.size P p) (hP : Hid (Pn N p)) (hn8 : n ≤ 8) (ok : Hid (∀ g ∈ gs, Pn N g)) (ans : Bool) (ha : Hid (cwB gs p = ans)) :
    Calls Try.prog 85 #[.slice P N cp, .slice A n c] w fun e w' => e = .returned (.bool ans) ∧ Below w.heap.size w w' := by
  have HX := Lib.hid hx
  have HP := Lib.hid hp
  have hlx : Hid (gs.length = n) := Lib.hid hx.lx
  have lp : Hid (p.length = N) := Lib.hid hP.out.2
  have hN := hP.out.pos.2
  clear hx hp
  go_enter Try.func85, Try.ntmps85
  go_wp2_with fail
  go_loopg [6, 9] n (fun gg _ jv wr => ∃ j : Nat, j ≤ n ∧ n - j ≤ gg ∧ jv = .int .i64 (j : Nat) ∧ (∀ x ∈ gs.take j, compL p x = compL x p) ∧ Below w.heap.size w wr)
  case atStart => exact ⟨0, Nat.zero_le _, by omega, rfl, fun x hx => by simp at hx, Below.refl _ _⟩
  case round =>
    obtain ⟨k, hk, hgg, rfl, hall, bel⟩ := hrel
    have Al := Lib.hid hall
    have Be := Lib.hid bel
    have P1 := Lib.hid (HP.out.up bel)
    clear hall bel
    by_cases hlt : k < n
    · obtain ⟨b, off, A5, l, c5, y, rfl, hb, hv, ey, x1, ri, ly, hl5⟩ := (HX.out.up Be.out).at_ hlt
      have hym : y ∈ gs := by rw [← ey]; exact getD_memL (by rw [hlx.out]; exact hlt)
      have hyP := ok.out y hym
      obtain rfl : l = N := by have := hyP.2; omega
      have Ri := Lib.hid ri
      have YP := Lib.hid hyP
      have ly' : Hid (y.length = l) := Lib.hid hyP.2
      have Ym := Lib.hid hym
      have Ey := Lib.hid ey
      have q0 : (0 : Int) ≤ k := by omega
      have q1 : (k : Int) < n := by omega
      obtain ⟨r, hr⟩ : ∃ r, decide (compL p y = compL y p) = r := ⟨_, rfl⟩
      have Hr := Lib.hid hr
      clear hv ey hb ri hyP hym hr
      go_wp2_with fail
      refine (implThen P A5 cp c5 l p y wr P1.out Ri.out lp ly' (Lib.hid hP.out.1) hN).mono ?_
      rintro e w1 ⟨A1, c1, rfl, s1, b1⟩
      have S1 := Lib.hid s1
      have B1 := Lib.hid b1
      clear s1 b1
      go_wp2_with fail
      refine (implThen A5 P c5 cp l y p w1 (Ri.out.up B1.out) (P1.out.up B1.out) ly' lp (Lib.hid YP.out.1) hN).mono ?_
      rintro e w2 ⟨A2, c2, rfl, s2, b2⟩
      have S2 := Lib.hid s2
      have S1b := Lib.hid (S1.out.up b2)
      have B2 : Hid (Below w.heap.size w w2) := Lib.hid (btr (btr Be.out B1.out) b2)
      clear s2 b2
      go_wp2_with fail
      refine (quiet_below (sEqP A1 A2 c1 c2 l l (compL p y) (compL y p) w2 S1b.out.ri_ S2.out.ri_ S1b.out.hid S2.out.hid (by omega) (by omega))).mono ?_
      rintro e w3 ⟨rfl, b3⟩
      have Be2 : Hid (Below w.heap.size w w3) := Lib.hid (btr B2.out b3)
      clear b3
      rw [Hr.out]
      rcases r with _ | _
      · have Fin : Hid (ans = false) := Lib.hid (by
          rcases hq : ans with _ | _
          · rfl
          · exact absurd (cwB_iff.1 (ha.out.trans hq) y Ym.out) (of_decide_eq_false Hr.out))
        go_wp2_with fail
        go_ret
        exact ⟨ret_bool Fin.out.symm, Be2.out⟩
      · have Al2 : Hid (∀ x ∈ gs.take (k + 1), compL p x = compL x p) := Lib.hid fun x hx => by
          rw [List.take_succ_eq_append_getElem (by rw [hlx.out]; exact hlt)] at hx
          rcases List.mem_append.1 hx with hx | hx
          · exact Al.out x hx
          · have e1 : gs[k]'(by rw [hlx.out]; exact hlt) = y := by rw [← Ey.out, List.getD_eq_getElem?_getD, List.getElem?_eq_getElem (by rw [hlx.out]; exact hlt)]; rfl
            rw [List.mem_singleton.1 hx, e1]; exact of_decide_eq_true Hr.out
        go_wp2_with fail
        go_roundg (n - (k + 1))
        case rel => exact ⟨k + 1, by omega, by omega, by go_num, Al2.out, Be2.out⟩
        case measure => omega
    · obtain rfl : k = n := by omega
      have Fin : Hid (ans = true) := Lib.hid (ha.out.symm.trans (cwB_iff.2 fun x hx => Al.out x (by rw [List.take_of_length_le (by rw [hlx.out]; exact Nat.le_refl _)]; exact hx)))
      go_wp2_with fail
      go_ret
      exact ⟨ret_bool Fin.out.symm, Be.out⟩

set_option maxHeartbeats 4000000 in
set_option maxRecDepth 100000 in
/-- IsAbelian. -/
theorem implIsAbelian : CtImB 39 IsAbl := by
  intro a A n c vs xss w g _
  have HX := Lib.hid g.rr
  have hlx : Hid (xss.length = n) := Lib.hid g.rr.lx
  have hn := g.hn
  have hl := Lib.hid g.hl
  clear g
  go_enter Try.func39, Try.ntmps39
  go_wp2_with fail
  refine (implGS a A n c vs xss w HX.out hn hl).mono ?_
  rintro e w1 ⟨rfl, b1⟩
  have B1 := Lib.hid b1
  clear b1
  rcases hs : gB a xss with _ | _
  · have Fin : Hid (IsAbl a xss false) := Lib.hid ⟨fun h => (by cases h), fun h => (by have := h.1; rw [hs] at this; cases this)⟩
    clear hs
    go_wp2_with fail
    go_ret
    exact ⟨_, rfl, Fin.out, B1.out⟩
  · obtain ⟨N, rfl, hN1, hN2, hg8, hpm, hok⟩ := gB_pm hs
    have Hs := Lib.hid hs
    have Ok : Hid (∀ g ∈ xss, Pn N g) := Lib.hid hok
    have hn8 : n ≤ 8 := by rw [← hlx.out]; exact hg8
    have Abi := Lib.hid (abl_iff Ok.out hN1 hN2)
    clear hs hpm hok hg8
    go_wp2_with fail
    go_loopg [6, 13] n (fun gg _ jv wr => ∃ j : Nat, j ≤ n ∧ n - j ≤ gg ∧ jv = .int .i64 (j : Nat) ∧ (∀ x ∈ xss.take j, cwB xss x = true) ∧ Below w.heap.size w wr)
    case atStart => exact ⟨0, Nat.zero_le _, by omega, rfl, fun x hx => by simp at hx, B1.out⟩
    case round =>
      obtain ⟨k, hk, hgg, rfl, hall, bel⟩ := hrel
      have Al := Lib.hid hall
      have Be := Lib.hid bel
      clear hall bel
      by_cases hlt : k < n
      · have Xr := Lib.hid (HX.out.up Be.out)
        obtain ⟨b, off, A5, l, c5, y, eA, hb, hv, ey, x1, ri, ly, hl5⟩ := Xr.out.at_ hlt
        subst eA
        have hym : y ∈ xss := by rw [← ey]; exact getD_memL (by rw [hlx.out]; exact hlt)
        have hyP := Ok.out y hym
        obtain rfl : l = N := by have := hyP.2; omega
        have Ri := Lib.hid ri
        have YP := Lib.hid hyP
        have Ym := Lib.hid hym
        have Ey := Lib.hid ey
        have q0 : (0 : Int) ≤ k := by omega
        have q1 : (k : Int) < n := by omega
        obtain ⟨r, hr⟩ : ∃ r, cwB xss y = r := ⟨_, rfl⟩
        have Hr := Lib.hid hr
        clear hv ey hb ri hyP hym hr
        go_wp2_with fail
        refine (implCwa l n c c5 A5 (some ⟨b, off, none⟩) vs xss y wr Xr.out Ri.out YP hn8 Ok r Hr).mono ?_
        rintro e w2 ⟨rfl, b2⟩
        have Be2 : Hid (Below w.heap.size w w2) := Lib.hid (btr Be.out b2)
        clear b2
        rcases r with _ | _
        · have Fin : Hid (IsAbl l xss false) := Lib.hid ⟨fun h => (by cases h), fun h => (by
            have h3 := h.2
            rw [Int.toNat_natCast] at h3
            have h4 := cwB_iff.2 (Abi.out.1 h3 y Ym.out)
            rw [Hr.out] at h4; cases h4)⟩
          go_wp2_with fail
          go_ret
          exact ⟨_, rfl, Fin.out, Be2.out⟩
        · have Al2 : Hid (∀ x ∈ xss.take (k + 1), cwB xss x = true) := Lib.hid fun x hx => by
            rw [List.take_succ_eq_append_getElem (by rw [hlx.out]; exact hlt)] at hx
            rcases List.mem_append.1 hx with hx | hx
            · exact Al.out x hx
            · have e1 : xss[k]'(by rw [hlx.out]; exact hlt) = y := by rw [← Ey.out, List.getD_eq_getElem?_getD, List.getElem?_eq_getElem (by rw [hlx.out]; exact hlt)]; rfl
              rw [List.mem_singleton.1 hx, e1]; exact Hr.out
          go_wp2_with fail
          go_roundg (n - (k + 1))
          case rel => exact ⟨k + 1, by omega, by omega, by go_num, Al2.out, Be2.out⟩
          case measure => omega
      · obtain rfl : k = n := by omega
        have Fin : Hid (IsAbl N xss true) := Lib.hid ⟨fun _ => ⟨Hs.out, by
          rw [Int.toNat_natCast]
          exact Abi.out.2 fun p hp => cwB_iff.1 (Al.out p (by rw [List.take_of_length_le (by rw [hlx.out]; exact Nat.le_refl _)]; exact hp))⟩, fun _ => rfl⟩
        go_wp2_with fail
        go_ret
        exact ⟨_, rfl, Fin.out, Be.out⟩

set_option maxHeartbeats 4000000 in
set_option maxRecDepth 100000 in
/-- CenterOrder. -/
theorem implCenterOrder : CtImI 36 IsCtr := by
  intro a A n c vs xss w g ha
  have G := Lib.hid g
  have HX := Lib.hid g.rr
  have hlx : Hid (xss.length = n) := Lib.hid g.rr.lx
  clear g
  go_enter Try.func36, Try.ntmps36
  go_wp2_with fail
  refine (implMembers a A n c vs xss w G.out ha).mono ?_
  rintro e w2 ⟨A2, m2, c2, us, l, rfl, s2, r2, b2⟩
  have R2 := Lib.hid r2
  have L2 : Hid (l.length = m2) := Lib.hid s2.lx
  have hm3 : m2 ≤ 3000 := by rw [← s2.lx]; exact r2.len.1
  have S2 := Lib.hid s2.rr
  have B2 := Lib.hid b2
  clear s2 r2 b2
  have Mem : Hid (∀ y ∈ l, gB a xss = true ∧ Mb xss a.toNat y) := Lib.hid fun y hy => by
    rcases R2.out with ⟨hf, _, hm⟩ | ⟨_, e⟩
    · exact ⟨hf.1, (hm y).1 hy⟩
    · rw [e] at hy; cases hy
  have Fin : Hid (IsCtr a xss (cnP (cwB xss) l l.length : Nat)) := Lib.hid (by
    rcases Classical.em (Few a xss) with hf | hf
    · obtain ⟨N, rfl, hN1, hN2, _, _, hok⟩ := gB_pm hf.1
      refine R2.out.ctr hf fun p hp => ?_
      rw [Int.toNat_natCast] at hp ⊢
      rw [cwB_iff, ctr_gens hok hN1 hN2]; exact ⟨fun h => ⟨hp, h⟩, fun h => h.2⟩
    · rcases R2.out with ⟨h, _⟩ | ⟨_, e⟩
      · exact absurd h hf
      · rw [e]; exact .inr ⟨hf, rfl⟩)
  go_wp2_with fail
  go_loopg [5, 7, 12] m2 (fun gg v _ jv wr => ∃ j : Nat, j ≤ m2 ∧ m2 - j ≤ gg ∧ jv = .int .i64 (j : Nat) ∧ v = .int .i64 (cnP (cwB xss) l j : Nat) ∧ Below w2.heap.size w2 wr)
  case atStart => exact ⟨0, Nat.zero_le _, by omega, rfl, rfl, Below.refl _ _⟩
  case round =>
    obtain ⟨k, hk, hgg, rfl, rfl, bel⟩ := hrel
    have Be := Lib.hid bel
    have Xr := Lib.hid (HX.out.up (btr B2.out bel))
    clear bel
    by_cases hlt : k < m2
    · obtain ⟨b, off, A5, lz, c5, y, eA, hb, ev, ey, hc0, hr0, hy, hlc⟩ := S2.out.at_ hlt
      subst eA
      obtain ⟨hs, hyM⟩ := Mem.out y (getD_of (by rw [L2.out]; exact hlt) ey)
      obtain ⟨N, rfl, hN1, hN2, hg8, _, hok⟩ := gB_pm hs
      have Ok : Hid (∀ g ∈ xss, Pn N g) := Lib.hid hok
      have hn8 : n ≤ 8 := by rw [← hlx.out]; exact hg8
      rw [Int.toNat_natCast] at hyM
      have hyl := hyM.pn hok hN1 hN2
      obtain rfl : lz = N := by have := hyl.2; omega
      have YP := Lib.hid hyl
      have Cs := Lib.hid (cnP_succ (f := cwB xss) (by rw [L2.out]; exact hlt) ey)
      have x1 := (Be.out.cell (p := ⟨b, off + k, none⟩) hb).trans hc0
      have Ry := Lib.hid (hr0.up Be.out)
      have z0 : (0 : Int) ≤ k := by omega
      have z1 : (k : Int) < m2 := by omega
      have hcl := cnP_le (cwB xss) l k
      rw [L2.out] at hcl
      obtain ⟨r, hr⟩ : ∃ r, cwB xss y = r := ⟨_, rfl⟩
      have Hr := Lib.hid hr
      have Cs2 : Hid (cnP (cwB xss) l (k + 1) = cnP (cwB xss) l k + if r = true then 1 else 0) := Lib.hid (by rw [← Hr.out]; exact Cs.out)
      obtain ⟨cv, ecv⟩ : ∃ cv, cnP (cwB xss) l k = cv := ⟨_, rfl⟩
      have Ec := Lib.hid ecv
      rw [ecv] at hcl ⊢
      clear ev ey hr0 hb hc0 hr hyl hyM hs hok hg8 ecv
      go_wp2_with fail
      refine (implCwa lz n c c5 A5 A vs xss y wr Xr.out Ry.out YP hn8 Ok r Hr).mono ?_
      rintro e w3 ⟨rfl, b3⟩
      have B3 : Hid (Below w2.heap.size w2 w3) := Lib.hid (btr Be.out b3)
      clear b3
      rcases r with _ | _
      · have E3 : Hid (cnP (cwB xss) l (k + 1) = cv) := Lib.hid (by rw [Cs2.out, Ec.out]; rfl)
        go_wp2_with fail
        go_roundg (m2 - (k + 1))
        case rel => exact ⟨k + 1, by omega, by omega, by go_num, by rw [E3.out], B3.out⟩
        case measure => omega
      · have E3 : Hid (cnP (cwB xss) l (k + 1) = cv + 1) := Lib.hid (by rw [Cs2.out, Ec.out]; rfl)
        go_wp2_with fail
        go_roundg (m2 - (k + 1))
        case rel => exact ⟨k + 1, by omega, by omega, by go_num, by rw [E3.out]; go_num, B3.out⟩
        case measure => omega
    · obtain rfl : k = m2 := by omega
      have Fin2 : Hid (IsCtr a xss (cnP (cwB xss) l k : Nat)) := Lib.hid (by have := Fin.out; rwa [L2.out] at this)
      have B5 : Hid (Below w.heap.size w wr) := Lib.hid (btr B2.out Be.out)
      go_wp2_with fail
      go_ret
      exact ⟨_, rfl, Fin2.out, B5.out⟩
end Go.Proofs.Ytcjcmhoalomjfaa

/- The program's commutatorsOf, derivedChain and DerivedSubgroupOrder. Conditions: at most 1048576 lists of at most 1048576 numbers. -/
namespace Go.Proofs.Ytcjcmhoalomjfaa
open Go.RowKit

section
variable {w w' : World} {base B N k n c : Nat} {M M' S : Nat → Prop} {ch : Ch} {L L' : Nat → LK} {A : Option Addr} {vs : List SV} {W : List (List Int)}
/-- A chain is kept where blocks turn that are none of its own; what may turn grows. -/
theorem Ck.step (h : Ck w base N k M ch L) (hbs : base ≤ w.heap.size) (hc : Chg w w' S) (hS : ∀ b, S b → M b) (hn : ∀ b, Mu N k L b → ¬ S b) (hMM : ∀ b, M b → M' b) (hM : ∀ b, M' b → M b ∨ (w.heap.size ≤ b ∧ b < w'.heap.size)) : Ck w' base N k M' ch L :=
  ⟨fun i a b => (h.lk i a b).keep hc (fun t b' ht e => hn b' ⟨i, t, a, b, ht, e⟩) hS fun b' e => (hM b' e).imp id And.left, fun i t b a1 a2 a3 e => hMM b (h.mm i t b a1 a2 a3 e), fun b e => by
    have := hc.size
    rcases hM b e with h1 | h1
    · have := h.mlt b h1; omega
    · omega, h.dis⟩
/-- A list of permutations in a slice of the call's own; what it reads lies outside of M. -/
structure Wt (w : World) (B : Nat) (M : Nat → Prop) (A : Option Addr) (n c : Nat) (vs : List SV) (W : List (List Int)) : Prop where
  own : w.ownsRow B 69 1 (.slice A n c) n (vs.map sval)
  lv : vs.length = n
  lx : W.length = n
  row : ∀ j, j < n → Rd w M (vs.getD j sd0) (W.getD j [])
  inM : ∀ b, (Value.slice A n c).ownBlock = some b → M b
theorem Wt.nil_ : Wt w B M none 0 0 [] [] := ⟨World.ownsRow_nil _ _ _ _, rfl, rfl, fun j h => absurd h (by omega), fun b e => by cases e⟩
theorem Wt.lt_ (h : Wt w B M A n c vs W) : ∀ b, (Value.slice A n c).ownBlock = some b → B ≤ b ∧ b < w.heap.size := World.ownsRow.lt h.own
theorem Wt.keep (h : Wt w B M A n c vs W) (hc : Chg w w' S) (hS : ∀ b, S b → M b) (hn : ∀ b, (Value.slice A n c).ownBlock = some b → ¬ S b) (hMM : ∀ b, M b → M' b) (hM : ∀ b, M' b → M b ∨ w.heap.size ≤ b) : Wt w' B M' A n c vs W :=
  ⟨ownsRow_chg h.own hc hn, h.lv, h.lx, fun j hj => (h.row j hj).keep hc hS hM, fun b e => hMM b (h.inM b e)⟩
theorem Wt.up (h : Wt w B M A n c vs W) (hb : Below w.heap.size w w') : Wt w' B M A n c vs W := h.keep (S := fun _ => False) (.of_below hb) (fun _ e => e.elim) (fun _ _ e => e) (fun _ e => e) fun _ e => .inl e
theorem Wt.at_ (h : Wt w B M A n c vs W) {j : Nat} (hj : j < n) : ∃ g dA dn dc, A = some ⟨g, 0, none⟩ ∧ g < w.heap.size ∧ vs.getD j sd0 = (dA, dn, dc) ∧ w.cell? ⟨g, j, none⟩ = some (.slice dA dn dc) ∧ Rd w M (dA, dn, dc) (W.getD j []) := by
  rcases h.own.2 with ⟨e, h0⟩ | ⟨g', cap, cur, e, hb', hg', hnc, _⟩
  · omega
  · injection e with e _ _
    rcases hv : vs.getD j sd0 with ⟨dA, dn, dc⟩
    subst e
    refine ⟨g', dA, dn, dc, rfl, (Array.getElem?_eq_some_iff.1 hg').1, rfl, ?_, hv ▸ h.row j hj⟩
    rw [h.own.cellAt j (by omega), List.getElem?_map]
    rw [List.getD_eq_getElem?_getD, List.getElem?_eq_getElem (by rw [h.lv]; exact hj)] at hv
    rw [List.getElem?_eq_getElem (by rw [h.lv]; exact hj)]
    have hv : vs[j]'(by rw [h.lv]; exact hj) = (dA, dn, dc) := hv
    show some (sval _) = _
    rw [hv]; rfl
/-- What an append leaves. -/
theorem Wt.snoc (h : Wt w B M A n c vs W) {d : SV} {p : List Int} {A' : Option Addr} {c' : Nat} (hd : Rd w M d p) (ho : w'.ownsRow B 69 1 (.slice A' (n + 1) c') (n + 1) (vs.map sval ++ [sval d])) (hg : w.grownBy w' (Value.slice A n c).ownBlock)
    (hat : (Value.slice A' (n + 1) c').ownBlock = (Value.slice A n c).ownBlock ∨ (Value.slice A' (n + 1) c').ownBlock = some w.heap.size) :
    Wt w' B (fun b => M b ∨ (Value.slice A' (n + 1) c').ownBlock = some b) A' (n + 1) c' (vs ++ [d]) (W ++ [p]) := by
  have hc : Chg w w' (fun b => (Value.slice A n c).ownBlock = some b) := .of_grown hg fun b e => e
  have hM : ∀ b, (M b ∨ (Value.slice A' (n + 1) c').ownBlock = some b) → M b ∨ w.heap.size ≤ b := fun b e => by
    rcases e with e | e
    · exact .inl e
    · rcases hat with h2 | h2
      · exact .inl (h.inM b (h2 ▸ e))
      · rw [h2] at e; injection e with e; exact .inr (by omega)
  refine ⟨by rw [List.map_append]; exact ho, by simp [h.lv], by simp [h.lx], fun j hj => ?_, fun b e => .inr e⟩
  by_cases e : j < n
  · rw [getD_app _ _ _ _ (by rw [h.lv]; exact e), getD_app _ _ _ _ (by rw [h.lx]; exact e)]
    exact (h.row j e).keep hc h.inM hM
  · obtain rfl : j = n := by omega
    rw [getD_snoc _ _ _ _ h.lv.symm, getD_snoc _ _ _ _ h.lx.symm]
    exact hd.keep hc h.inM hM
end

set_option maxHeartbeats 8000000 in
set_option maxRecDepth 100000 in
/-- commutatorsOf. -/
theorem implComms (N n c : Nat) (A : Option Addr) (vs : List SV) (gs : List (List Int)) (M0 : Nat → Prop) (w : World) (hx : RR w w.heap.size A n vs gs) (ok : Hid (∀ g ∈ gs, Pn N g)) (hn8 : n ≤ 8) (hN2 : N ≤ 20) (hM0 : Hid (∀ b, M0 b → b < w.heap.size)) :
    Calls Try.prog 117 #[.slice A n c] w fun e w' => ∃ (A' : Option Addr) (m c' : Nat) (us : List SV) (W : List (List Int)) (M : Nat → Prop), e = .returned (.slice A' m c') ∧ Wt w' w.heap.size M A' m c' us W ∧ (∀ b, M0 b → M b) ∧ (∀ b, M b → M0 b ∨ (w.heap.size ≤ b ∧ b < w'.heap.size)) ∧
      (∀ s ∈ W, ∃ p ∈ gs, ∃ q ∈ gs, s = cmt p q) ∧ (∀ p ∈ gs, ∀ q ∈ gs, cmt p q ∈ W) ∧ W.length ≤ 64 ∧ Below w.heap.size w w' := by
  have HX := Lib.hid hx
  have hlx : Hid (gs.length = n) := Lib.hid hx.lx
  clear hx
  go_enter Try.func117, Try.ntmps117
  go_wp2_with fail
  go_loopg [3, 10] n (fun gg v iv wr => ∃ (i m cc : Nat) (A' : Option Addr) (us : List SV) (W : List (List Int)) (M : Nat → Prop), i ≤ n ∧ n - i ≤ gg ∧ iv = .int .i64 (i : Nat) ∧ v = .slice A' m cc ∧ Wt wr w.heap.size M A' m cc us W ∧ (∀ b, M0 b → M b) ∧ (∀ b, M b → M0 b ∨ (w.heap.size ≤ b ∧ b < wr.heap.size)) ∧ (∀ s ∈ W, ∃ p ∈ gs, ∃ q ∈ gs, s = cmt p q) ∧ (∀ t, t < i → ∀ q ∈ gs, cmt (gs.getD t []) q ∈ W) ∧ W.length ≤ 8 * i ∧ Below w.heap.size w wr)
  case atStart => exact ⟨0, _, _, _, _, _, M0, Nat.zero_le _, by omega, rfl, rfl, Wt.nil_, fun _ e => e, fun _ e => .inl e, fun s hs => (by cases hs), fun t h => absurd h (by omega), Nat.le_refl _, Below.refl _ _⟩
  case round =>
    obtain ⟨i, m, cc, A', us, W, M, hi, hgg, rfl, rfl, hwt, hm1, hm2, hcm, hpr, hlw, bel⟩ := hrel
    have Wt0 := Lib.hid hwt
    have Ma := Lib.hid hm1
    have Mb_ := Lib.hid hm2
    have Cm0 := Lib.hid hcm
    have Pr0 := Lib.hid hpr
    have Be0 := Lib.hid bel
    clear hwt hm1 hm2 hcm hpr bel
    by_cases hlt : i < n
    · obtain ⟨b, off, A5, l, c5, p, eA, hb, hv, ep, x1, rp, lp, hl5⟩ := HX.out.at_ hlt
      subst eA
      have hpm : p ∈ gs := by rw [← ep]; exact getD_memL (by rw [hlx.out]; exact hlt)
      have hpP := ok.out p hpm
      obtain rfl : l = N := by have := hpP.2; omega
      have Rp := Lib.hid rp
      have PP := Lib.hid hpP
      have Pm_ := Lib.hid hpm
      have Ep := Lib.hid ep
      have x2 := (Be0.out.cell (p := ⟨b, off + i, none⟩) hb).trans x1
      have q0 : (0 : Int) ≤ i := by omega
      have q1 : (i : Int) < n := by omega
      clear hv ep rp hpP hpm x1
      go_wp2_with fail
      go_loopg [3, 16] n (fun gg v kv wr => ∃ (k m cc : Nat) (A' : Option Addr) (us : List SV) (W : List (List Int)) (M : Nat → Prop), k ≤ n ∧ n - k ≤ gg ∧ kv = .int .i64 (k : Nat) ∧ v = .slice A' m cc ∧ Wt wr w.heap.size M A' m cc us W ∧ (∀ b, M0 b → M b) ∧ (∀ b, M b → M0 b ∨ (w.heap.size ≤ b ∧ b < wr.heap.size)) ∧ (∀ s ∈ W, ∃ p ∈ gs, ∃ q ∈ gs, s = cmt p q) ∧ (∀ t, t < i → ∀ q ∈ gs, cmt (gs.getD t []) q ∈ W) ∧ (∀ q ∈ gs.take k, cmt p q ∈ W) ∧ W.length ≤ 8 * i + k ∧ Below w.heap.size w wr)
      case atStart => exact ⟨0, _, _, _, _, _, M, Nat.zero_le _, by omega, rfl, rfl, Wt0.out, Ma.out, Mb_.out, Cm0.out, Pr0.out, fun q hq => by simp at hq, by omega, Be0.out⟩
      case round =>
        clear Wt0 Ma Mb_ Cm0 Pr0 Be0 hlw x2
        obtain ⟨k, m, cc, A', us, W, M, hk, hg2, rfl, rfl, hwt, hm1, hm2, hcm, hpr, hpk, hlw, bel⟩ := hrel
        have Ww := Lib.hid hwt
        have Ma := Lib.hid hm1
        have Mb_ := Lib.hid hm2
        have Cm := Lib.hid hcm
        have Pr := Lib.hid hpr
        have Pk := Lib.hid hpk
        have Be := Lib.hid bel
        have hlm : Hid (W.length = m) := Lib.hid hwt.lx
        have hzw := bel.size
        clear hwt hm1 hm2 hcm hpr hpk bel
        by_cases hkt : k < n
        · obtain ⟨b', off', A6, l2, c6, q, eA, hb', hv, eq_, y1, rq, lq, hl6⟩ := HX.out.at_ hkt
          injection eA with eA
          injection eA with eb eo _
          subst eb eo
          have hqm : q ∈ gs := by rw [← eq_]; exact getD_memL (by rw [hlx.out]; exact hkt)
          have hqP := ok.out q hqm
          obtain rfl : l2 = l := by have := hqP.2; omega
          have QQ := Lib.hid hqP
          have Qm := Lib.hid hqm
          have Eq := Lib.hid eq_
          have Rq2 := Lib.hid (rq.up Be.out)
          have Rp2 := Lib.hid (Rp.out.up Be.out)
          have y2 := (Be.out.cell (p := ⟨b, off + k, none⟩) hb').trans y1
          have r0 : (0 : Int) ≤ k := by omega
          have r1 : (k : Int) < n := by omega
          have hm9 : m ≤ 100 := by have := hlm.out; omega
          have CJ : Hid (Pn l2 (cj q p)) := Lib.hid ((hqP.iv.comp PP.out).comp hqP)
          have lp2 : Hid (p.length = l2) := Lib.hid PP.out.2
          clear hv eq_ hb' rq hqP hqm y1
          go_wp2_with fail
          refine (implInv A5 c5 l2 p wr Rp2.out lp2 (Lib.hid PP.out.1) hN2).mono ?_
          rintro e w5 ⟨A7, c7, rfl, s7, b5⟩
          rw [inv_iv PP.out] at s7
          have S7 := Lib.hid s7
          have B5 := Lib.hid b5
          clear s7 b5
          go_wp2_with fail
          refine (implCj A5 A6 c5 c6 l2 p q w5 (Rp2.out.up B5.out) (Rq2.out.up B5.out) PP QQ).mono ?_
          rintro e w6 ⟨A8, c8, rfl, s8, b6⟩
          have S8 := Lib.hid s8
          have S7b := Lib.hid (S7.out.up b6)
          have B6 : Hid (Below wr.heap.size wr w6) := Lib.hid (btr B5.out b6)
          clear s8 b6
          go_wp2_with fail
          refine (implThen A7 A8 c7 c8 l2 (iv p) (cj q p) w6 S7b.out.ri_ S8.out.ri_ (Lib.hid PP.out.iv.2) (Lib.hid CJ.out.2) (Lib.hid PP.out.iv.1) hN2).mono ?_
          rintro e w7 ⟨A9, c9, rfl, s9, b7⟩
          rw [cmt_cj PP.out QQ.out] at s9
          have S9 := Lib.hid s9
          have B7 : Hid (Below wr.heap.size wr w7) := Lib.hid (btr B6.out b7)
          have hz7 : wr.heap.size ≤ w7.heap.size := B7.out.size
          have hz6 : wr.heap.size ≤ w6.heap.size := B6.out.size
          have W7 := Lib.hid (Ww.out.up B7.out)
          have R9 : Hid (Rd w7 M (A9, l2, c9) (cmt p q)) := Lib.hid (.of_slc (d := (A9, l2, c9)) s9 fun b e => by
            have h0 := hM0.out b
            rcases Mb_.out b e with h | h
            · have := h0 h; omega
            · omega)
          clear s9 b7
          go_wp2_with (at_builtin; go_must (refine wpList_appP rfl _ _ rfl w.heap.size (.slice A' m cc) m (us.map sval) rfl (World.ownsRow.alloc W7.out.own _) w7.heap.size (A9, l2, c9) rfl (by rw [World.cell?_alloc_at _ _ _ _ rfl]; rfl) (by omega) (by simp; omega) ?_); intro A10 c10 w10 o10 g10 h10)
          have Al : Below w7.heap.size w7 (w7.alloc (.cells #[.slice A9 l2 c9] 69)) := (Below.refl _ _).alloc (Nat.le_refl _) _
          have Wn := (W7.out.up Al).snoc (R9.out.up Al) o10 g10 h10
          have Be10 : Hid (Below w.heap.size w w10) := Lib.hid (((btr Be.out B7.out).alloc (btr Be.out B7.out).size _).grown g10 (by have := (btr Be.out B7.out).size; simp; omega) (fun j hj => (Ww.out.lt_ j hj).1))
          have Wn1 := Lib.hid Wn
          have Ma2 : Hid (∀ b, M0 b → (M b ∨ (Value.slice A10 (m + 1) c10).ownBlock = some b)) := Lib.hid fun b e => .inl (Ma.out b e)
          have Mb2 : Hid (∀ b, (M b ∨ (Value.slice A10 (m + 1) c10).ownBlock = some b) → M0 b ∨ (w.heap.size ≤ b ∧ b < w10.heap.size)) := Lib.hid fun b e => by
            have hz := g10.size
            simp at hz
            rcases e with e | e
            · rcases Mb_.out b e with h | h
              · exact .inl h
              · exact .inr (by omega)
            · exact .inr (Wn.lt_ b e)
          have Cm2 : Hid (∀ s ∈ W ++ [cmt p q], ∃ p ∈ gs, ∃ q ∈ gs, s = cmt p q) := Lib.hid fun s hs => by
            rcases List.mem_append.1 hs with hs | hs
            · exact Cm.out s hs
            · exact ⟨p, Pm_.out, q, Qm.out, List.mem_singleton.1 hs⟩
          have Pr2 : Hid (∀ t, t < i → ∀ q' ∈ gs, cmt (gs.getD t []) q' ∈ W ++ [cmt p q]) := Lib.hid fun t h q' hq' => List.mem_append_left _ (Pr.out t h q' hq')
          have Pk2 : Hid (∀ x ∈ gs.take (k + 1), cmt p x ∈ W ++ [cmt p q]) := Lib.hid fun x hx => by
            rw [List.take_succ_eq_append_getElem (by rw [hlx.out]; exact hkt)] at hx
            rcases List.mem_append.1 hx with hx | hx
            · exact List.mem_append_left _ (Pk.out x hx)
            · have e1 : gs[k]'(by rw [hlx.out]; exact hkt) = q := by rw [← Eq.out, List.getD_eq_getElem?_getD, List.getElem?_eq_getElem (by rw [hlx.out]; exact hkt)]; rfl
              rw [List.mem_singleton.1 hx, e1]; simp
          have hlw2 : (W ++ [cmt p q]).length ≤ 8 * i + (k + 1) := by rw [List.length_append, List.length_singleton]; omega
          clear o10 g10 h10 Wn Al y2
          go_wp2_with fail
          go_roundg (n - (k + 1))
          case rel => exact ⟨k + 1, _, _, _, _, _, _, by omega, by omega, by go_num, rfl, Wn1.out, Ma2.out, Mb2.out, Cm2.out, Pr2.out, Pk2.out, hlw2, Be10.out⟩
          case measure => omega
        · obtain rfl : n = k := by omega
          have Pr2 : Hid (∀ t, t < i + 1 → ∀ q ∈ gs, cmt (gs.getD t []) q ∈ W) := Lib.hid fun t h1 q hq => by
            rcases Nat.lt_or_ge t i with h | h
            · exact Pr.out t h q hq
            · obtain rfl : t = i := by omega
              rw [Ep.out]; exact Pk.out q (by rw [List.take_of_length_le (by rw [hlx.out]; exact Nat.le_refl _)]; exact hq)
          go_wp2_with fail
          go_roundg (n - (i + 1))
          case rel => exact ⟨i + 1, _, _, _, _, _, M, by omega, by omega, by go_num, rfl, Ww.out, Ma.out, Mb_.out, Cm.out, Pr2.out, by omega, Be.out⟩
          case measure => omega
    · obtain rfl : n = i := by omega
      have All : Hid (∀ p ∈ gs, ∀ q ∈ gs, cmt p q ∈ W) := Lib.hid fun p hp q hq => by
        obtain ⟨t, ht, rfl⟩ := mem_at hp
        exact Pr0.out t (by rw [← hlx.out]; exact ht) q hq
      go_wp2_with fail
      go_ret
      exact ⟨_, _, _, us, W, M, rfl, Wt0.out, Ma.out, Mb_.out, Cm0.out, All.out, by omega, Be0.out⟩

set_option maxHeartbeats 16000000 in
set_option maxRecDepth 100000 in
/-- derivedChain. -/
theorem implDerivedChain (N n c : Nat) (A : Option Addr) (vs : List SV) (gs : List (List Int)) (w : World) (hx : RR w w.heap.size A n vs gs) (ok : Hid (∀ g ∈ gs, Pn N g)) (hn8 : n ≤ 8) (hN1 : 1 ≤ N) (hN2 : N ≤ 20) :
    Calls Try.prog 86 #[.int .i64 (N : Nat), .slice A n c] w fun e w' => ∃ (ch : Ch) (L : Nat → LK) (M : Nat → Prop) (hs : List (List Int)), e = .returned (.pointer (some ⟨(L 0).B, 0, none⟩)) ∧ Ck w' w.heap.size N 0 M ch L ∧ Orbs N 0 ch L ∧ Whole N hs ch ∧ (∀ s ∈ hs, Pn N s) ∧ (∀ p, Mb hs N p ↔ Drv N (Mb gs N) p) ∧ Below w.heap.size w w' := by
  have HX := Lib.hid hx
  have hlx : Hid (gs.length = n) := Lib.hid hx.lx
  clear hx
  go_enter Try.func86, Try.ntmps86
  go_wp2_with fail
  refine (implChainOf N 0 0 none [] [] w RR.nil_ hN1 hN2 (by omega) (Lib.hid fun g hg => (by cases hg))).mono ?_
  rintro e w2 ⟨ch0, L0, M0, rfl, hc, ho, hw, b2⟩
  have C2 := Lib.hid hc
  have O2 := Lib.hid ho
  have W2 := Lib.hid hw
  have B2 := Lib.hid b2
  have hz2 := b2.size
  clear hc ho hw b2
  go_wp2_with fail
  refine (implComms N n c A vs gs M0 w2 (HX.out.up B2.out) ok hn8 hN2 (Lib.hid fun b e => (C2.out.mlt b e).2)).mono ?_
  rintro e w3 ⟨A3, m3, c3, us3, W, M3, rfl, hwt, hm1, hm2, hcm, hall, hlw, b3⟩
  have Wt3 := Lib.hid hwt
  have C3 : Hid (Ck w3 w.heap.size N 0 M3 ch0 L0) := Lib.hid (C2.out.step hz2 (S := fun _ => False) (.of_below b3) (fun _ e => e.elim) (fun _ _ e => e) hm1 hm2)
  have Ap3 : Hid (∀ b, (Value.slice A3 m3 c3).ownBlock = some b → ¬ Mu N 0 L0 b) := Lib.hid fun b hb hm => by
    have h1 := (hwt.lt_ b hb).1
    have h2 := (C2.out.mlt b (C2.out.muM b hm)).2
    omega
  have B3 : Hid (Below w.heap.size w w3) := Lib.hid (btr B2.out b3)
  have Hz3 := Lib.hid b3.size
  have All : Hid (∀ p ∈ gs, ∀ q ∈ gs, cmt p q ∈ W ∨ cmt q p ∈ W ∨ p = q) := Lib.hid fun p hp q hq => .inl (hall p hp q hq)
  have Dv0 : Hid (Dv N gs W W [] 0) := Lib.hid (.start (fun s hs => by
    obtain ⟨p, hp, q, hq, rfl⟩ := hcm s hs
    exact drv_cmt (sgp_mb ok.out hN1 hN2) (.of (ok.out p hp) hp) (.of (ok.out q hq) hq)) hlw)
  clear hwt hm1 hm2 hcm hall hlw b3 C2
  go_wp2_with fail
  go_loopg [6, 7] 700 (fun gg v iv wr => ∃ (j m cc : Nat) (A' : Option Addr) (us : List SV) (V hs : List (List Int)) (ch : Ch) (L : Nat → LK) (M : Nat → Prop), j ≤ V.length ∧ 700 - j ≤ gg ∧ iv = .int .i64 (j : Nat) ∧ v = .slice A' m cc ∧ Wt wr w2.heap.size M A' m cc us V ∧ Ck wr w.heap.size N 0 M ch L ∧ Orbs N 0 ch L ∧ Whole N hs ch ∧ (L 0).B = (L0 0).B ∧ (∀ b, (Value.slice A' m cc).ownBlock = some b → ¬ Mu N 0 L b) ∧ Dv N gs W V hs j ∧ w2.heap.size ≤ wr.heap.size ∧ Below w.heap.size w wr)
  case atStart => exact ⟨0, _, _, _, _, _, [], ch0, L0, M3, Nat.zero_le _, by omega, rfl, rfl, Wt3.out, C3.out, O2.out, W2.out, rfl, Ap3.out, Dv0.out, Hz3.out, B3.out⟩
  case round =>
    clear Wt3 C3 Ap3 Dv0 B3 O2 W2
    obtain ⟨j, m, cc, A', us, V, hs, ch, L, M, hj, hg2, rfl, rfl, hwt, hc, ho, hw, hB, hap, hdv, hz0, bel⟩ := hrel
    have HzA := Lib.hid hz0
    clear hz0
    have Ws := Lib.hid hwt
    have Cj := Lib.hid hc
    have Oj := Lib.hid ho
    have Wj := Lib.hid hw
    have HB := Lib.hid hB
    have Ap := Lib.hid hap
    have Dj := Lib.hid hdv
    have Be := Lib.hid bel
    have hlm : Hid (V.length = m) := Lib.hid hwt.lx
    obtain ⟨few1, few2⟩ := hdv.few ok.out hN1 hN2
    have hjm : j ≤ m := by rw [← hwt.lx]; exact hj
    have hm6 : m ≤ 600 := by rw [← hwt.lx]; exact few2
    have Pnh := Lib.hid (hdv.pnh ok.out hN1 hN2)
    have hzw := bel.size
    clear hwt hc ho hw hB hap hdv bel hj few1 few2
    by_cases hlt : j < m
    · obtain ⟨b, A5, l, c5, eA, hb, ev, x1, hrd⟩ := Ws.out.at_ hlt
      subst eA
      obtain ⟨y, ey⟩ : ∃ y, V.getD j [] = y := ⟨_, rfl⟩
      rw [ey] at hrd
      have hyV : y ∈ V := getD_of (by rw [hlm.out]; exact hlt) ey
      have hyP := Dj.out.pn ok.out hN1 hN2 y hyV
      obtain rfl : l = N := by have h1 : y.length = l := hrd.len; have := hyP.2; omega
      have Rdy := Lib.hid hrd
      have YP := Lib.hid hyP
      have Ey := Lib.hid ey
      obtain ⟨ans, hans⟩ := boolOf (Mb hs l y)
      have Ha := Lib.hid hans
      have q0 : (0 : Int) ≤ j := by omega
      have q1 : (j : Int) < m := by omega
      have K := implContains w.heap.size l 0 c5 M ch L A5 y wr Cj.out (by omega) (Lib.hid Wj.out.up) hN2 Rdy.out.ri YP (Lib.hid Fx.zero) ans (Lib.hid (Ha.out.trans (Wj.out.mem y).symm))
      rw [HB.out] at K
      have Kh := Lib.hid K
      clear ev ey hrd hyV hyP hans K
      go_wp2_with fail
      refine Kh.out.mono ?_
      rintro e w4 ⟨rfl, b4⟩
      have C4 := Lib.hid (Cj.out.up b4)
      have Ws4 := Lib.hid (Ws.out.up b4)
      have R4 := Lib.hid (Rdy.out.up b4)
      have Be4 : Hid (Below w.heap.size w w4) := Lib.hid (btr Be.out b4)
      have hz4 := Be4.out.size
      have Hz4 : Hid (w2.heap.size ≤ w4.heap.size) := Lib.hid (Nat.le_trans HzA.out b4.size)
      clear b4 x1 hb Cj Rdy Be hzw Kh Ws
      rcases ans with _ | _
      · have hno : ¬ Mb hs l y := fun h => absurd (Ha.out.2 h) (by decide)
        have Dn := Lib.hid (Dj.out.add ok.out hN1 hN2 (by rw [hlx.out]; exact hn8) (by rw [hlm.out]; exact hlt) Ey.out hno)
        have K := implAdd w.heap.size l hN2 (l - 1) 0 (by omega) M ch L A5 c5 y w4 C4.out Oj.out R4.out YP.out Fx.zero Wj.out.up
        rw [HB.out] at K
        have Kh := Lib.hid K
        clear hno K
        go_wp2_with fail
        refine Kh.out.mono ?_
        rintro e w5 ⟨ch', L', M', rfl, hc5, ho5, hg5, hap5⟩
        have C5 := Lib.hid hc5
        have O5 := Lib.hid ho5
        have Ws5 : Hid (Wt w5 w2.heap.size M' (some ⟨b, 0, none⟩) m cc us V) := Lib.hid (Ws4.out.keep hg5.chg C4.out.muM Ap.out hg5.mm hg5.new_)
        have R5 := Lib.hid (R4.out.gw hg5 C4.out.muM)
        have Ap5 : Hid (∀ b', (Value.slice (some ⟨b, 0, none⟩) m cc).ownBlock = some b' → ¬ Mu l 0 L' b') := Lib.hid fun b' hb' hm => by
          rcases hg5.mu b' hm with h | h
          · exact Ap.out b' hb' h
          · have := (Ws4.out.lt_ b' hb').2; omega
        have HB5 : Hid ((L' 0).B = (L0 0).B) := Lib.hid ((hg5.ptr 0).trans HB.out)
        have Be5 : Hid (Below w.heap.size w w5) := Lib.hid (Be4.out.trans (hg5.chg.below (fun b' e => (C4.out.mlt b' (C4.out.muM b' e)).1) hz4))
        have Hz5 : Hid (w2.heap.size ≤ w5.heap.size) := Lib.hid (Nat.le_trans Hz4.out hg5.chg.size)
        have W5 : Hid (Whole l (hs ++ [y]) ch') := Lib.hid (Wj.out.next hN1 hN2 Pnh.out YP.out hap5)
        clear Kh hc5 ho5 hg5 hap5 C4 Ws4 R4 Be4 hz4
        go_wp2_with fail
        obtain ⟨wo, rfl⟩ : ∃ wo, wo = wr := ⟨_, rfl⟩
        go_loopg [6, 33] n (fun gg v kv wr => ∃ (k m' cc : Nat) (A' : Option Addr) (us : List SV) (M : Nat → Prop), k ≤ n ∧ n - k ≤ gg ∧ m' = m + k ∧ kv = .int .i64 (k : Nat) ∧ v = .slice A' m' cc ∧ Wt wr w2.heap.size M A' m' cc us (V ++ (gs.take k).map fun g => cj g y) ∧ Ck wr w.heap.size l 0 M ch' L' ∧ (∀ b, (Value.slice A' m' cc).ownBlock = some b → ¬ Mu l 0 L' b) ∧ Rd wr M (A5, l, c5) y ∧ w2.heap.size ≤ wr.heap.size ∧ Below w.heap.size w wr)
        case atStart => exact ⟨0, _, _, _, _, M', Nat.zero_le _, by omega, rfl, rfl, rfl, by simpa using Ws5.out, C5.out, Ap5.out, R5.out, Hz5.out, Be5.out⟩
        case round =>
          clear Ws5 C5 Ap5 R5 Be5
          obtain ⟨k, m', cc', A', us', M2, hk, hg3, hmk, rfl, rfl, hwt, hc, hap, hrd, hz0, bel⟩ := hrel
          have HzB := Lib.hid hz0
          clear hz0
          have Hmk := Lib.hid hmk
          have hm7 : m' ≤ 700 := by omega
          have S2 := Lib.hid hwt
          have C2 := Lib.hid hc
          have Ap2 := Lib.hid hap
          have R2 := Lib.hid hrd
          have Be := Lib.hid bel
          have hzw := bel.size
          clear hwt hc hap hrd bel hmk
          by_cases hkt : k < n
          · obtain ⟨b2, off2, A6, l2, c6, q, eA, hb2, hv, eq_, y1, rq, lq, hl6⟩ := HX.out.at_ hkt
            subst eA
            have hqm : q ∈ gs := by rw [← eq_]; exact getD_memL (by rw [hlx.out]; exact hkt)
            have hqP := ok.out q hqm
            obtain rfl : l2 = l := by have := hqP.2; omega
            have QQ := Lib.hid hqP
            have Eq := Lib.hid eq_
            have Rq2 := Lib.hid (rq.up Be.out)
            have y2 := (Be.out.cell (p := ⟨b2, off2 + k, none⟩) hb2).trans y1
            have r0 : (0 : Int) ≤ k := by omega
            have r1 : (k : Int) < n := by omega
            clear hv eq_ rq hqP hqm y1 lq hl6
            go_wp2_with fail
            refine (implCj A5 A6 c5 c6 l2 y q wr R2.out.ri Rq2.out YP QQ).mono ?_
            rintro e w9 ⟨A9, c9, rfl, s9, b9⟩
            have S9 := Lib.hid s9
            have B9 := Lib.hid b9
            have hz9 := b9.size
            have Sw := Lib.hid (S2.out.up b9)
            have C9 := Lib.hid (C2.out.up b9)
            have R9 := Lib.hid (R2.out.up b9)
            have Rn : Hid (Rd w9 M2 (A9, l2, c9) (cj q y)) := Lib.hid (.of_slc (d := (A9, l2, c9)) s9 fun b e => (C2.out.mlt b e).2)
            clear s9 b9 y2
            go_wp2_with (at_builtin; go_must (refine wpList_appP rfl _ _ rfl w2.heap.size (.slice A' m' cc') m' (us'.map sval) rfl (World.ownsRow.alloc Sw.out.own _) w9.heap.size (A9, l2, c9) rfl (by rw [World.cell?_alloc_at _ _ _ _ rfl]; rfl) (by omega) (by have := HzB.out; simp; omega) ?_); intro A10 c10 w10 o10 g10 h10)
            have Al : Below w9.heap.size w9 (w9.alloc (.cells #[.slice A9 l2 c9] 69)) := (Below.refl _ _).alloc (Nat.le_refl _) _
            have Wn := (Sw.out.up Al).snoc (Rn.out.up Al) o10 g10 h10
            have S10 : Hid (Wt w10 w2.heap.size (fun b => M2 b ∨ (Value.slice A10 (m' + 1) c10).ownBlock = some b) A10 (m' + 1) c10 (us' ++ [(A9, l2, c9)]) (V ++ (gs.take (k + 1)).map fun g => cj g y)) := Lib.hid (by
              have e1 : (gs.take (k + 1)).map (fun g => cj g y) = (gs.take k).map (fun g => cj g y) ++ [cj q y] := by
                rw [List.take_succ_eq_append_getElem (by rw [hlx.out]; exact hkt), List.map_append]
                have e1 : gs[k]'(by rw [hlx.out]; exact hkt) = q := by rw [← Eq.out, List.getD_eq_getElem?_getD, List.getElem?_eq_getElem (by rw [hlx.out]; exact hkt)]; rfl
                rw [e1]; rfl
              rw [e1, ← List.append_assoc]; exact Wn)
            have hcg : Chg (w9.alloc (.cells #[.slice A9 l2 c9] 69)) w10 (fun b => (Value.slice A' m' cc').ownBlock = some b) := .of_grown g10 fun b e => e
            have hMn : ∀ b, (M2 b ∨ (Value.slice A10 (m' + 1) c10).ownBlock = some b) → M2 b ∨ ((w9.alloc (.cells #[.slice A9 l2 c9] 69)).heap.size ≤ b ∧ b < w10.heap.size) := fun b e => by
              rcases e with e | e
              · exact .inl e
              · rcases h10 with h | h
                · exact .inl (S2.out.inM b (h ▸ e))
                · have h2 := (Wn.lt_ b e).2
                  rw [h] at e; injection e with e
                  exact .inr (by omega)
            have C10 : Hid (Ck w10 w.heap.size l2 0 (fun b => M2 b ∨ (Value.slice A10 (m' + 1) c10).ownBlock = some b) ch' L') := Lib.hid ((C9.out.up Al).step (by simp; omega) hcg S2.out.inM (fun b hb e => Ap2.out b e hb) (fun _ e => .inl e) hMn)
            have R10 : Hid (Rd w10 (fun b => M2 b ∨ (Value.slice A10 (m' + 1) c10).ownBlock = some b) (A5, l2, c5) y) := Lib.hid ((R9.out.up Al).keep hcg S2.out.inM fun b e => (hMn b e).imp id And.left)
            have Ap10 : Hid (∀ b, (Value.slice A10 (m' + 1) c10).ownBlock = some b → ¬ Mu l2 0 L' b) := Lib.hid fun b hb hm => by
              rcases h10 with e | e
              · exact Ap2.out b (e ▸ hb) hm
              · have h1 := (C2.out.mlt b (C2.out.muM b hm)).2
                rw [e] at hb
                injection hb with hb
                simp at hb; omega
            have B10 : Hid (Below w.heap.size w w10) := Lib.hid (((btr Be.out B9.out).alloc (btr Be.out B9.out).size _).grown g10 (by have := (btr Be.out B9.out).size; simp; omega) (fun j hj => by have := (S2.out.lt_ j hj).1; omega))
            have Hz10 : Hid (w2.heap.size ≤ w10.heap.size) := Lib.hid (by have := g10.size; have := HzB.out; simp at *; omega)
            clear o10 g10 h10 Wn Al hcg hMn
            go_wp2_with fail
            go_roundg (n - (k + 1))
            case rel => exact ⟨k + 1, _, _, _, _, _, by omega, by omega, by have := Hmk.out; omega, by go_num, rfl, S10.out, C10.out, Ap10.out, R10.out, Hz10.out, B10.out⟩
            case measure => omega
          · obtain rfl : n = k := by omega
            have S3 : Hid (Wt wr w2.heap.size M2 A' m' cc' us' (V ++ gs.map fun g => cj g y)) := Lib.hid (by have := S2.out; rwa [List.take_of_length_le (by rw [hlx.out]; exact Nat.le_refl _)] at this)
            have hlen : j + 1 ≤ (V ++ gs.map fun g => cj g y).length := by rw [List.length_append, hlm.out]; omega
            go_wp2_with fail
            go_roundg (700 - (j + 1))
            case rel => exact ⟨j + 1, _, _, _, _, _, hs ++ [y], ch', L', M2, hlen, by omega, by go_num, rfl, S3.out, C2.out, O5.out, W5.out, HB5.out, Ap2.out, Dn.out, HzB.out, Be.out⟩
            case measure => omega
      · have Dn := Lib.hid (Dj.out.skip (by rw [Ey.out]; exact Ha.out.1 rfl))
        go_wp2_with fail
        go_roundg (700 - (j + 1))
        case rel => exact ⟨j + 1, _, _, _, _, _, hs, ch, L, M, by rw [hlm.out]; omega, by omega, by go_num, rfl, Ws4.out, C4.out, Oj.out, Wj.out, HB.out, Ap.out, Dn.out, Hz4.out, Be4.out⟩
        case measure => omega
    · obtain rfl : j = m := by omega
      have Fin : Hid (∀ p, Mb hs N p ↔ Drv N (Mb gs N) p) := Lib.hid (by
        have hf := Dj.out
        rw [← hlm.out] at hf
        exact hf.fin ok.out hN1 hN2 All.out)
      go_wp2_with fail
      go_ret
      exact ⟨ch, L, M, hs, by rw [HB.out]; rfl, Cj.out, Oj.out, Wj.out, Pnh.out, Fin.out, Be.out⟩

set_option maxHeartbeats 4000000 in
set_option maxRecDepth 100000 in
/-- DerivedSubgroupOrder. -/
theorem implDerivedSubgroupOrder : CtImI 37 IsDer := by
  intro a A n c vs xss w g _
  have HX := Lib.hid g.rr
  have hlx : Hid (xss.length = n) := Lib.hid g.rr.lx
  have hn := g.hn
  have hl := Lib.hid g.hl
  clear g
  go_enter Try.func37, Try.ntmps37
  go_wp2_with fail
  refine (implGS a A n c vs xss w HX.out hn hl).mono ?_
  rintro e w1 ⟨rfl, b1⟩
  have B1 := Lib.hid b1
  clear b1
  rcases hs : gB a xss with _ | _
  · have Fin : Hid (IsDer a xss 0) := Lib.hid (.inr ⟨hs, rfl⟩)
    clear hs
    go_wp2_with fail
    go_ret
    exact ⟨_, rfl, Fin.out, B1.out⟩
  · obtain ⟨N, rfl, hN1, hN2, hg8, hpm, hok⟩ := gB_pm hs
    have Hs := Lib.hid hs
    have Ok : Hid (∀ g ∈ xss, Pn N g) := Lib.hid hok
    have hn8 : n ≤ 8 := by rw [← hlx.out]; exact hg8
    clear hs hpm hok hg8
    go_wp2_with fail
    refine (implDerivedChain N n c A vs xss w1 (HX.out.up B1.out) Ok hn8 hN1 hN2).mono ?_
    rintro e w2 ⟨ch, L, M, hs, rfl, hc, ho, hw, hp, hd, b2⟩
    have W2 := Lib.hid hw
    have C2 := Lib.hid hc
    have O2 := Lib.hid ho
    have Hp := Lib.hid hp
    have B2 : Hid (Below w.heap.size w w2) := Lib.hid (btr B1.out b2)
    have Fin : ∃ v : Nat, prodL (osL N ch N) = (v : Int) ∧ IsDer N xss v := by
      obtain ⟨v, cv, ev⟩ := (hw.os hN1 hN2).order hp hN1 hN2
      exact ⟨v, ev, .inl ⟨Hs.out, v, by rw [Int.toNat_natCast]; exact cv.congr hd, rfl⟩⟩
    obtain ⟨v, ev, hfin⟩ := Fin
    have Fin := Lib.hid hfin
    have K := implOrder w1.heap.size N 0 0 M ch L hs w2 C2.out O2.out W2 (Nat.le_refl _) (Nat.zero_le _) hN1 hN2 Hp
    rw [ptr_at (by omega)] at K
    have Ev : Hid (pr (osL N ch N) 0 (N - 0) = (v : Int)) := Lib.hid (by rw [← ev, prodL_pr, osL_len]; rfl)
    have Kh := Lib.hid K
    clear hc ho hw hp hd b2 ev hfin K
    go_wp2_with fail
    refine Kh.out.mono ?_
    rintro e w3 ⟨rfl, rfl⟩
    rw [Ev.out]
    go_wp2_with fail
    go_ret
    exact ⟨_, rfl, Fin.out, B2.out⟩
end Go.Proofs.Ytcjcmhoalomjfaa

/- Maps keyed by the entries of a permutation: the keys, what a map holds. Conditions: at most 20 points. -/
namespace Go.Proofs.Ytcjcmhoalomjfaa
open Go.RowKit

theorem lawK : Maps.Keyed Try.prog 56 := Maps.Keyed.of_law (deep_law_laid (by kernel_rfl) (m := 2) (by omega) (of_decide_eq_true (by kernel_rfl)) (by kernel_rfl) (by kernel_rfl))
/-- The array that holds p, noughts behind it. -/
def arrV (p : List Int) : Value := .agg ((List.range 20).map fun i => Value.int .i64 (p.getD i 0)).toArray
theorem keyOf_arr {p : List Int} (hw : ∀ i, i < 20 → (Lit.int .i64 (p.getD i 0)).wf = true) : ∃ l, keyOf Try.prog 56 (arrV p) = some l := by
  obtain ⟨d, hd⟩ : ∃ d, Try.prog.types.size + 1 = d + 1 + 1 := ⟨Try.prog.types.size - 1, by
    have : 0 < Try.prog.types.size := of_decide_eq_true (by kernel_rfl)
    omega⟩
  have hc : Try.prog.cellsOf 56 = 20 := by kernel_rfl
  have hc1 : Try.prog.cellsOf 2 = 1 := by kernel_rfl
  have hk : Try.prog.keyType 56 = true := by kernel_rfl
  have hu : Try.prog.underlying 56 = some (.array 20 2) := Try.underlying56
  have hu2 : Try.prog.underlying 2 = some (.int .i64) := Try.underlying2
  have hf : (arrV p).formed Try.prog 56 = true := by
    unfold arrV Value.formed
    rw [hu]; simp [hc]
  unfold keyOf
  rw [hu]
  simp only [hk, hf, Bool.and_self, if_true]
  have hcs : (arrV p).cells.toList = (List.range 20).map fun i => Value.int .i64 (p.getD i 0) := by simp [arrV, Value.cells]
  rw [hcs, hd]
  unfold Program.keyLits
  rw [hu]
  simp only [List.length_map, List.length_range, hc, if_true, hc1]
  have hone : ∀ i ∈ List.range 20, Try.prog.keyLits (d + 1) 2 ((((List.range 20).map fun i => Value.int .i64 (p.getD i 0)).drop (i * 1)).take 1) = some [.int .i64 (p.getD i 0)] := fun i hi => by
    rw [List.mem_range] at hi
    have e1 : (((List.range 20).map fun i => Value.int .i64 (p.getD i 0)).drop (i * 1)).take 1 = [Value.int .i64 (p.getD i 0)] := by
      apply List.ext_getElem?
      intro j
      rw [Nat.mul_one, List.getElem?_take, List.getElem?_drop]
      rcases j with _ | j
      · simp [hi]
      · simp
    rw [e1]
    unfold Program.keyLits
    rw [hu2]
    have hwi := hw i hi
    rw [List.getD_eq_getElem?_getD] at hwi
    simp [hwi]
  have hm : ∀ l : List Nat, (∀ i ∈ l, i ∈ List.range 20) → ∃ r, (l.mapM fun i => Try.prog.keyLits (d + 1) 2 ((((List.range 20).map fun i => Value.int .i64 (p.getD i 0)).drop (i * 1)).take 1)) = some r := fun l => by
    induction l with
    | nil => exact fun _ => ⟨[], rfl⟩
    | cons a t ih =>
      intro h
      obtain ⟨r, hr⟩ := ih fun i hi => h i (by simp [hi])
      exact ⟨_, by rw [List.mapM_cons, hone a (h a (by simp)), hr]; rfl⟩
  obtain ⟨r, hr⟩ := hm _ fun i hi => hi
  exact ⟨_, by rw [hr]; rfl⟩
/-- The key of p. -/
noncomputable def kO (p : List Int) : Lit := (keyOf Try.prog 56 (arrV p)).getD (.bool false)
theorem pn_wf {N : Nat} {p : List Int} (hp : Pn N p) : ∀ i, (Lit.int .i64 (p.getD i 0)).wf = true := fun i => by
  have h2 := hp.pos.2
  rcases Nat.lt_or_ge i N with h | h
  · rw [nx_val hp.1 (by rw [hp.2]; exact h)]
    have := hp.lt h
    exact WalkArith.wf_i64 (by omega)
  · rw [List.getD_eq_getElem?_getD, List.getElem?_eq_none (by rw [hp.2]; exact h)]; rfl
theorem kO_eq {N : Nat} {p : List Int} (hp : Pn N p) : keyOf Try.prog 56 (arrV p) = some (kO p) := by
  obtain ⟨l, hl⟩ := keyOf_arr fun i _ => pn_wf hp i
  unfold kO; rw [hl]; rfl
attribute [irreducible] kO
theorem kO_key {N : Nat} {p : List Int} (hp : Pn N p) : WideAt.IsKeyLit (kO p) := lawK.key (kO_eq hp)
theorem arrV_inj {N : Nat} {p q : List Int} (hp : Pn N p) (hq : Pn N q) (h : arrV p = arrV q) : p = q := by
  refine hp.ext hq fun x hx => ?_
  have h2 := hp.pos.2
  unfold arrV at h
  injection h with h
  have h3 := congrArg Array.toList h
  have h4 := congrArg (fun l : List Value => l[x]?) h3
  simp [show x < 20 by omega] at h4
  have e1 := nx_val (p := p) hp.1 (x := x) (by rw [hp.2]; exact hx)
  have e2 := nx_val (p := q) hq.1 (x := x) (by rw [hq.2]; exact hx)
  rw [List.getD_eq_getElem?_getD] at e1 e2
  omega
theorem kO_inj {N : Nat} {p q : List Int} (hp : Pn N p) (hq : Pn N q) (h : kO p = kO q) : p = q :=
  arrV_inj hp hq (lawK.inj (kO_eq hp) (by rw [h]; exact kO_eq hq))
end Go.Proofs.Ytcjcmhoalomjfaa

/- A map of cosets: what it holds; add. Conditions: at most 20 points, 200 cosets. -/
namespace Go.Proofs.Ytcjcmhoalomjfaa
open Go.RowKit

/-- An element of the map reads as itself. -/
def Rv (v : Value) : Option (DataW Value × List MemPlace) := some (.held v, [])

/-- Block b is a map of the permutations that S tells of, all of them in U, each under its own key. -/
structure CS (w : World) (bi b N : Nat) (U : List (List Int)) (S : List Int → Prop) (D : DataW Value) : Prop where
  own : w.ownsMap Try.prog 56 Rv b (Maps.size D) D
  inU : ∀ p, S p → p ∈ U
  pn : ∀ p, p ∈ U → Pn N p
  cap : U.length ≤ 200
  has : ∀ p, Pn N p → (Maps.has D (kO p) = true ↔ S p)
  key : ∀ kl, Maps.has D kl = true → ∃ p, Pn N p ∧ kl = kO p
  row : ∀ p, S p → ∃ (A : Option Addr) (cp : Nat), (∀ zd, D.atKey (kO p) zd = .held (.slice A N cp)) ∧ Slc w bi A N cp p

theorem ownsMap_tight {w : World} {b n : Nat} {D : DataW Value} (h : w.ownsMap Try.prog 56 Rv b n D) : w.ownsMap Try.prog 56 Rv b (Maps.size D) D := by
  obtain ⟨es, clock, hb, F, hs, rfl⟩ := h
  refine ⟨es, clock, hb, F, ?_, rfl⟩
  rw [Maps.size_eq, length_sorted]; simp
theorem has_mem {es : List (Lit × DataW Value)} {x : Lit × DataW Value} (hx : x ∈ es) (hk : WideAt.IsKeyLit x.1) : Maps.has (.map es) x.1 = true := by
  rw [Maps.has_eq, List.any_eq_true]
  exact ⟨x, hx, WideAt.sameKey_self hk⟩
theorem size_le {w : World} {b n : Nat} {D : DataW Value} (h : w.ownsMap Try.prog 56 Rv b n D) (ks : List Lit) (hk : ∀ kl, Maps.has D kl = true → kl ∈ ks) : Maps.size D ≤ ks.length := by
  obtain ⟨es, rfl, hd, hl⟩ := h.entries lawK
  rw [Maps.size_eq]
  have h1 : (es.map Prod.fst).Nodup := List.pairwise_map.2 hd
  haveI : DecidableEq Lit := fun a b => Classical.propDecidable (a = b)
  have := nd_subA (l' := es.map Prod.fst) (l := ks) h1 fun x hx => by
    obtain ⟨y, hy, rfl⟩ := List.mem_map.1 hx
    exact hk _ (has_mem hy (hl y hy))
  simpa using this

section
variable {w w' : World} {bi b N : Nat} {U : List (List Int)} {S : List Int → Prop} {D : DataW Value}
theorem CS.lt (h : CS w bi b N U S D) : b < w.heap.size := h.own.lt
theorem CS.size (h : CS w bi b N U S D) : Maps.size D ≤ 200 := by
  have := size_le h.own (U.map kO) fun kl hk => by
    obtain ⟨p, hp, e⟩ := h.key kl hk
    rw [e] at hk ⊢
    exact List.mem_map.2 ⟨p, h.inU p ((h.has p hp).1 hk), rfl⟩
  rw [List.length_map] at this
  have := h.cap
  omega
theorem own_ne {w : World} {bi b n cp : Nat} {A : Option Addr} {p : List Int} {es : Array MapEntry} {clock : Nat} (hs : Slc w bi A n cp p) (hb : w.heap[b]? = some (.map es clock)) : (Value.slice A n cp).ownBlock ≠ some b := by
  rcases hs.2.2 with ⟨e, _⟩ | ⟨g, cap, cur, e, _, hg, _⟩
  · rw [e]; exact fun h => by cases h
  · rw [e]
    intro h
    have h2 : g = b := by injection h
    rw [h2, hb] at hg
    cases hg
/-- Blocks beside the map and its rows are made or written. -/
theorem CS.kept (h : CS w bi b N U S D) {row : Option Nat} (hg : w.grownBy w' row) (hne : some b ≠ row) (hr : ∀ A cp p, Slc w bi A N cp p → (Value.slice A N cp).ownBlock = none ∨ (Value.slice A N cp).ownBlock ≠ row) : CS w' bi b N U S D :=
  ⟨h.own.kept hg hne, h.inU, h.pn, h.cap, h.has, h.key, fun p hp => by
    obtain ⟨A, cp, h1, h2⟩ := h.row p hp
    exact ⟨A, cp, h1, h2.kept hg (hr A cp p h2)⟩⟩
theorem CS.gro0 (h : CS w bi b N U S D) (hg : w.grownBy w' none) : CS w' bi b N U S D :=
  h.kept hg (by simp) fun A cp p hs => by
    cases hq : (Value.slice A N cp).ownBlock with
    | none => exact .inl rfl
    | some k => exact .inr (by simp)
theorem slc_ne {w : World} {bi k n cp : Nat} {A : Option Addr} {p : List Int} (hs : Slc w bi A n cp p) (hb : ∀ cs t fr, w.heap[k]? ≠ some (.cells cs t fr)) : (Value.slice A n cp).ownBlock ≠ some k := by
  rcases hs.2.2 with ⟨e, _⟩ | ⟨g, cap, cur, e, _, hg, _⟩
  · rw [e]; exact fun h => by cases h
  · rw [e]
    intro h
    have h2 : g = k := by injection h
    rw [h2] at hg
    exact hb _ _ _ hg
theorem CS.groK (h : CS w bi b N U S D) {k : Nat} (hg : w.grownBy w' (some k)) (hk : b ≠ k) (hb : ∀ cs t fr, w.heap[k]? ≠ some (.cells cs t fr)) : CS w' bi b N U S D :=
  h.kept hg (fun e => hk (by injection e)) fun _ _ _ hs => .inr (slc_ne hs hb)
theorem CS.noCells (h : CS w bi b N U S D) : ∀ cs t fr, w.heap[b]? ≠ some (.cells cs t fr) := by
  obtain ⟨es, clock, hb, _⟩ := h.own
  intro cs t fr e
  rw [hb] at e
  cases e
theorem rg_noCells {r n cnt : Nat} {left : Lit → Bool} (h : w.ranges Try.prog 56 Rv b r n D left cnt) : ∀ cs t fr, w.heap[r]? ≠ some (.cells cs t fr) := by
  obtain ⟨es, clock, since, seen, c0, _, _, _, _, hr, _⟩ := h
  intro cs t fr e
  rw [hr] at e
  cases e
theorem CS.up (h : CS w bi b N U S D) (hb : Below w.heap.size w w') : CS w' bi b N U S D :=
  h.kept (row := none) ⟨hb.os, hb.tape, hb.output, hb.size, fun k hk _ => hb.block k hk⟩ (by simp) fun A cp p hs => by
    cases hq : (Value.slice A N cp).ownBlock with
    | none => exact .inl rfl
    | some k => exact .inr (by simp)
theorem grown_ofB {row : Option Nat} (h : Below w.heap.size w w') : w.grownBy w' row := ⟨h.os, h.tape, h.output, h.size, fun k hk _ => h.block k hk⟩
theorem CS.mono (h : CS w bi b N U S D) {bi' : Nat} (hb : bi' ≤ bi) : CS w bi' b N U S D :=
  ⟨h.own, h.inU, h.pn, h.cap, h.has, h.key, fun p hp => by
    obtain ⟨A, cp, h1, h2⟩ := h.row p hp
    exact ⟨A, cp, h1, h2.mono hb⟩⟩
theorem CS.ext {S' : List Int → Prop} (h : CS w bi b N U S D) (hS : ∀ p, S p ↔ S' p) : CS w bi b N U S' D := by
  obtain rfl : S = S' := funext fun p => propext (hS p)
  exact h
theorem CS.put (h : CS w bi b N U S D) {A : Option Addr} {cp n : Nat} {p : List Int} (hP : Pn N p) (hU : p ∈ U) (hs : Slc w bi A N cp p) (hg : w.grownBy w' (some b)) (ho : w'.ownsMap Try.prog 56 Rv b n (D.put (kO p) (.held (.slice A N cp)))) :
    CS w' bi b N U (fun q => S q ∨ q = p) (D.put (kO p) (.held (.slice A N cp))) := by
  have hm := h.own.isMap
  have hk : WideAt.IsKeyLit (kO p) := kO_key hP
  obtain ⟨es, clock, hb, _⟩ := h.own
  refine ⟨ownsMap_tight ho, fun q hq => ?_, h.pn, h.cap, fun q hq => ?_, fun kl hkl => ?_, fun q hq => ?_⟩
  · rcases hq with hq | rfl
    · exact h.inU q hq
    · exact hU
  · by_cases e : q = p
    · subst e
      exact ⟨fun _ => .inr rfl, fun _ => Maps.has_put_same hm hk _⟩
    · rw [Maps.has_put_other (fun he => e (kO_inj hq hP he)), h.has q hq]
      exact ⟨.inl, fun x => x.resolve_right e⟩
  · by_cases e : kl = kO p
    · exact ⟨p, hP, e⟩
    · rw [Maps.has_put_other e] at hkl
      exact h.key kl hkl
  · by_cases e : q = p
    · subst e
      exact ⟨A, cp, fun zd => Maps.atKey_put_same hm hk _ zd, hs.kept hg (.inr (own_ne hs hb))⟩
    · have hq2 := hq.resolve_right e
      obtain ⟨A', cp', h1, h2⟩ := h.row q hq2
      refine ⟨A', cp', fun zd => ?_, h2.kept hg ?_⟩
      · rw [Maps.atKey_put_other (fun he => e (kO_inj (h.pn q (h.inU q hq2)) hP he))]; exact h1 zd
      · exact .inr (own_ne h2 hb)
end

theorem spl_arr {p : List Int} (n : Nat) (h : p.length ≤ n) : splice (List.replicate n (Value.int .i64 0)) 0 (p.map (Value.int .i64)) = (List.range n).map fun i => Value.int .i64 (p.getD i 0) := by
  apply List.ext_getElem?
  intro i
  unfold splice
  rw [List.take_zero, List.nil_append, List.length_map, Nat.zero_add]
  rcases Nat.lt_or_ge i p.length with hi | hi
  · rw [List.getElem?_append_left (by simpa using hi)]
    simp [show i < n by omega, List.getElem?_eq_getElem hi]
  · rw [List.getElem?_append_right (by simpa using hi)]
    simp only [List.length_map, List.getElem?_drop]
    rcases Nat.lt_or_ge i n with hi2 | hi2
    · simp [hi2, List.getElem?_eq_none hi, show p.length + (i - p.length) < n by omega]
    · simp [show ¬ i < n by omega, show ¬ p.length + (i - p.length) < n by omega]
theorem ld_arr {w : World} {g : Nat} {p : List Int} (h : w.heap[g]? = some (.cells (splice (List.replicate 20 (Value.int .i64 0)) 0 (p.map (Value.int .i64))).toArray 56 (0, 0))) (hp : p.length ≤ 20) :
    (Instr.loadAt 56 (.pointer (some ⟨g, 0, none⟩))).run Try.prog w = .ok (arrV p) w := by
  rw [spl_arr 20 hp] at h
  have := run_loadVar_row (P := Try.prog) w g 56 56 _ (0, 0) _ h Try.underlying56 rfl (by rw [List.size_toArray, List.length_map, List.length_range]; kernel_rfl)
  simp only [Instr.loadAt, Instr.sureAddr, Sem.run_bind, Sem.run_pure, Result.andThen, this]
  rfl

theorem wpList_ldK {ops : Array Oper} {rest : List Oper} {o : Oper} {a : Act} {w : World} {Q : Exit → Act → World → Prop} (hgd : o.guard = none) (x : Operand) (ho : o.op = .load 56 x) (g : Nat) (hx : a.eval x = .pointer (some ⟨g, 0, none⟩)) (v : Value)
    (hl : (Instr.loadAt 56 (.pointer (some ⟨g, 0, none⟩))).run Try.prog w = .ok v w) (h : wpList Try.prog ops Q rest (a.put o.dst v) w) : wpList Try.prog ops Q (o :: rest) a w := by
  refine wpList_plain hgd fun K' hK' => ?_
  unfold Oper.wp
  simp only [execOp, ho, hx, hl, Sem.run_bind, Sem.run_pure, Result.andThen]
  exact hK' _ _ h

set_option maxHeartbeats 4000000 in
set_option maxRecDepth 100000 in
/-- add. -/
theorem implCsAdd (bi b N cp : Nat) (U : List (List Int)) (S : List Int → Prop) (D : DataW Value) (A : Option Addr) (p : List Int) (w : World) (h : CS w bi b N U S D) (hs : Slc w bi A N cp p) (hP : Hid (Pn N p)) (hU : Hid (p ∈ U)) :
    Calls Try.prog 99 #[.map (some b), .slice A N cp] w fun e w' => e = .returned (.tuple #[]) ∧ CS w' bi b N U (fun q => S q ∨ q = p) (D.put (kO p) (.held (.slice A N cp))) ∧ w.grownBy w' (some b) := by
  have HC := Lib.hid h
  have HS := Lib.hid hs
  have hN := hP.out.pos
  have hl : p.length = N := hP.out.2
  have h1 : 1 ≤ N := hN.1
  have h2 : N ≤ 20 := hN.2
  obtain ⟨g, rfl, _, hgl⟩ : ∃ g, A = some ⟨g, 0, none⟩ ∧ bi ≤ g ∧ g < w.heap.size := by
    rcases hs.at_ with ⟨_, e, _⟩ | x
    · rw [e] at hl; simp at hl; omega
    · exact x
  have Hcell : Hid (∀ W : World, Below w.heap.size w W → ∀ j v, (p.map (Value.int .i64))[j]? = some v → W.cell? ((⟨g, 0, none⟩ : Addr).add j) = some v) := Lib.hid fun W hW j v hv => by
    rw [List.getElem?_map] at hv
    rcases hq : p[j]? with _ | x
    · rw [hq] at hv; simp at hv
    · rw [hq] at hv
      obtain rfl : Value.int .i64 x = v := by simpa using hv
      have hj : j < p.length := (List.getElem?_eq_some_iff.1 hq).1
      have e1 : W.cell? ⟨g, 0 + j, none⟩ = w.cell? ⟨g, 0 + j, none⟩ := hW.cell hgl
      obtain ⟨b', off, e2, _, e3⟩ := hs.ri_ (by omega)
      injection e2 with e2; injection e2 with e4 e5
      subst e4; subst e5
      rw [Addr.add_mid, e1, e3 j hj, List.getD_eq_getElem?_getD, hq]; rfl
  have Hl : Hid (p.length = N) := Lib.hid hl
  have Hn : Hid ((p.map (Value.int .i64)).length = Nat.min N 20) := Lib.hid (by rw [List.length_map, hl]; show N = min N 20; omega)
  have Hf : Hid (0 + (p.map (Value.int .i64)).length ≤ 20) := Lib.hid (by rw [List.length_map, hl]; omega)
  have Hsz : Hid (Maps.size D < maxLen) := Lib.hid (by have := h.size; unfold maxLen; omega)
  have Hw : Hid (b < w.heap.size) := Lib.hid h.lt
  clear h hs hN hl hgl
  go_enter Try.func99, Try.ntmps99
  go_wp2_with (first
    | (refine wpList_copy_splice (o := ⟨some 7, _, _, _, _, _⟩) rfl _ _ _ _ rfl 2 Try.underlying33 (by rfl) _ _ 20 20 N cp rfl rfl w.heap.size 0 _ 56 (heap_alloc_new w _) (p.map (Value.int .i64)) Hn.out (fun _ => ⟨rfl, _, rfl, Hcell.out _ (Below.alloc (Below.refl _ w) (Nat.le_refl _) _)⟩) Hf.out (fun v hv => by obtain ⟨x, _, rfl⟩ := List.mem_map.1 hv; rfl) w.heap.size w (Below.alloc (Below.refl _ w) (Nat.le_refl _) _) (Nat.le_refl _) ?_; intro w1 k1 b1
       have hld := Lib.hid (ld_arr k1.out (by rw [Hl.out]; exact h2))
       have B1 := Lib.hid b1
       clear b1)
    | (refine wpList_ldK (o := ⟨some 9, _, _, _, _, _⟩) rfl _ rfl w.heap.size rfl _ hld.out ?_)
    | (at_mapUpdate; refine wpList_mapUpdate_own _ rfl _ _ _ 48 rfl 56 33 lawK Try.underlying48 Rv b (Maps.size D) D rfl (HC.out.up B1.out).own Hsz.out _ _ (kO p) rfl rfl (kO_eq hP.out) (.held (.slice (some ⟨g, 0, none⟩) N cp)) [] rfl ?_; intro w2 ho2 hg2
       have O2 := Lib.hid ho2
       have G2 := Lib.hid hg2
       clear ho2 hg2)
    | go_in)
  refine bodyPost_end (results_none rfl _ _ _) rfl ?_
  exact ⟨rfl, (HC.out.up B1.out).put hP.out hU.out (HS.out.up B1.out) G2.out O2.out, (grown_ofB B1.out).trans G2.out⟩
end Go.Proofs.Ytcjcmhoalomjfaa

/- The program's smallestLike over a coset and CosetMinimum. Conditions: at most 1048576 lists of at most 1048576 numbers. -/
namespace Go.Proofs.Ytcjcmhoalomjfaa
open Go.RowKit

set_option maxHeartbeats 4000000 in
set_option maxRecDepth 100000 in
/-- smallestLike of any permutation: the smallest of its coset. -/
theorem implSmallC (base N cp : Nat) (M : Nat → Prop) (c : Ch) (L : Nat → LK) (gs : List (List Int)) (A : Option Addr) (p : List Int) (w : World) (hc : Ck w base N 0 M c L) (ho : Orbs N 0 c L) (hw : Hid (Whole N gs c)) (h1 : 1 ≤ N) (h2 : N ≤ 20) (hg : Hid (∀ g ∈ gs, Pn N g)) (hm : RI w w.heap.size A p) (hP : Hid (Pn N p)) :
    Calls Try.prog 73 #[.pointer (some ⟨(L 0).B, 0, none⟩), .slice A N cp] w fun e w' => ∃ (A' : Option Addr) (c' : Nat) (m' : List Int), e = .returned (.slice A' N c') ∧ Slc w' w.heap.size A' N c' m' ∧ CMin N (Mb gs N) p m' ∧ Below w.heap.size w w' := by
  have HC := Lib.hid hc
  have HO := Lib.hid ho
  have HM := Lib.hid hm
  have Ep : Hid (ptr N L 0 = .pointer (some ⟨(L 0).B, 0, none⟩)) := Lib.hid (ptr_at (by omega))
  clear hc ho hm
  go_enter Try.func73, Try.ntmps73
  go_wp2_with fail
  go_loopg [1, 5, 6, 8] N (fun gg mv l _ _ wr => ∃ (j c1 : Nat) (A1 : Option Addr) (m1 : List Int), j ≤ N ∧ N - j ≤ gg ∧ l = ptr N L j ∧ mv = .slice A1 N c1 ∧ RI wr wr.heap.size A1 m1 ∧ ((j = 0 ∧ A1 = A ∧ c1 = cp ∧ m1 = p) ∨ Slc wr w.heap.size A1 N c1 m1) ∧ GrC N gs p m1 j ∧ Below w.heap.size w wr)
  case atStart => exact ⟨0, cp, A, p, Nat.zero_le _, by omega, Ep.out.symm, rfl, HM.out, .inl ⟨rfl, rfl, rfl, rfl⟩, .zero hg.out hP.out, Below.refl _ _⟩
  case round =>
    obtain ⟨j, c1, A1, m1, hjN, hgg, rfl, rfl, hm, hfr, hgr, bel⟩ := hrel
    have Hm := Lib.hid hm
    have Fr := Lib.hid hfr
    have Gr := Lib.hid hgr
    have Be := Lib.hid bel
    have MP := Lib.hid (hgr.pn hg.out hP.out)
    have Cj := Lib.hid (HC.out.up bel)
    clear hm hfr hgr bel
    by_cases hlt : j < N
    · rw [ptr_at hlt]
      obtain ⟨x0, x1, x2, x3, x4⟩ := Cj.out.cB (Nat.zero_le _) hlt
      have hol := Cj.out.olen (Nat.zero_le _) hlt
      have hOr := HO.out j (Nat.zero_le _) hlt
      have hR := hw.out.up.rep j (Nat.zero_le _) hlt
      obtain ⟨b, off, rfl, hb, hcell⟩ := Hm.out (by rw [MP.out.2]; omega)
      have z1 := hcell j (by rw [MP.out.2]; exact hlt)
      rw [nx_val MP.out.1 (by rw [MP.out.2]; exact hlt)] at z1
      obtain ⟨s0, es0⟩ : ∃ s0, nx m1 j = s0 := ⟨_, rfl⟩
      rw [es0] at z1
      have Es0 := Lib.hid es0
      obtain ⟨on, hon⟩ : ∃ on, (L j).orb.length = on := ⟨_, rfl⟩
      have hjO : j ∈ (L j).orb := (hOr.2 j).2 (by rw [hR.one]; intro e; have := idL_length N; rw [e] at this; simp at this; omega)
      have h0n : 0 < on := by rw [← hon]; exact List.length_pos_of_mem hjO
      have hon20 : on ≤ N := by rw [← hon]; exact hOr.len hR
      obtain ⟨ob, oc, hoe, _⟩ := Cj.out.cO (Nat.zero_le _) hlt (j := 0) (by omega)
      rw [hoe, hon] at x2
      simp only [sval] at x2
      have Hon := Lib.hid hon
      have HjO := Lib.hid hjO
      have Hor := Lib.hid hOr
      have HR := Lib.hid hR
      have Hoe := Lib.hid hoe
      have Hb := Lib.hid hb
      have Hcell : Hid (∀ y, y < N → wr.cell? ⟨b, off + y, none⟩ = some (.int .i64 ((nx m1 y : Nat) : Int))) := Lib.hid fun y hy => by
        rw [hcell y (by rw [MP.out.2]; exact hy), nx_val MP.out.1 (by rw [MP.out.2]; exact hy)]
      have p0 : (0 : Int) ≤ j := by omega
      have p1 : (j : Int) < N := by omega
      clear hol hOr hR hb hcell es0 hon hjO hoe x1 x3
      go_wp2_with fail
      go_loopg [6, 8, 28] on (fun gg lv _ iv wx => ∃ (t z : Nat), t ≤ on ∧ on - t ≤ gg ∧ iv = .int .i64 (t : Nat) ∧ lv = .int .i64 (z : Nat) ∧ (∀ s, s < t → z ≤ nx m1 ((L j).orb.getD s 0)) ∧ (∃ y, y ∈ (L j).orb ∧ z = nx m1 y) ∧ wr = wx)
      case atStart => exact ⟨0, s0, Nat.zero_le _, by omega, rfl, rfl, fun s hs => absurd hs (by omega), ⟨j, HjO.out, Es0.out.symm⟩, rfl⟩
      case round =>
        obtain ⟨t, z, ht, hg2, rfl, rfl, hall, hex, rfl⟩ := hrel
        have All := Lib.hid hall
        have Ex := Lib.hid hex
        clear hall hex
        by_cases htl : t < on
        · obtain ⟨ob', oc', hoe', x6⟩ := Cj.out.cO (Nat.zero_le _) hlt (j := t) (by rw [Hon.out]; exact htl)
          obtain ⟨rfl, rfl⟩ : ob = ob' ∧ oc = oc' := by
            rw [Hoe.out] at hoe'
            injection hoe' with h1 h2
            injection h1 with h1
            injection h1 with h1
            injection h2 with _ h2
            exact ⟨h1, h2⟩
          obtain ⟨y, ey⟩ : ∃ y, (L j).orb.getD t 0 = y := ⟨_, rfl⟩
          rw [ey] at x6
          have hyO : y ∈ (L j).orb := by rw [← ey, List.getD_eq_getElem?_getD, List.getElem?_eq_getElem (by rw [Hon.out]; exact htl)]; exact List.getElem_mem _
          have hy : y < N := Hor.out.lt HR.out hyO
          have x7 := Hcell.out y hy
          obtain ⟨u, eu⟩ : ∃ u, nx m1 y = u := ⟨_, rfl⟩
          rw [eu] at x7
          have Ey := Lib.hid ey
          have Eu := Lib.hid eu
          have HyO := Lib.hid hyO
          have q0 : (0 : Int) ≤ t := by omega
          have q1 : (t : Int) < on := by omega
          have q2 : (0 : Int) ≤ y := by omega
          have q3 : (y : Int) < N := by omega
          clear hoe' ey hyO eu
          go_wp2_with fail
          all_goals
            go_roundg (on - (t + 1))
            case rel =>
              refine ⟨t + 1, min z u, by omega, by omega, by go_num, congrArg (Value.int .i64) (by omega), fun s hs => ?_, ?_, rfl⟩
              · rcases Nat.lt_or_ge s t with h | h
                · have := All.out s h; omega
                · obtain rfl : s = t := by omega
                  rw [Ey.out, Eu.out]; omega
              · rcases Nat.le_total u z with h | h
                · exact ⟨y, HyO.out, by rw [Eu.out]; omega⟩
                · obtain ⟨y', hy', e'⟩ := Ex.out
                  exact ⟨y', hy', by omega⟩
            case measure => omega
        · obtain rfl : t = on := by omega
          go_wp2_with fail
          refine (implWith base N 0 j c1 M c L (some ⟨b, off, none⟩) m1 (z : Nat) wr Cj.out (Nat.zero_le _) hlt HR Hm.out MP).mono ?_
          rintro e w2 ⟨A2, n2, c2, rfl, (⟨rfl, rfl, rfl, hno⟩ | ⟨g2, y, rfl, rfl, hy, hyv, hyr, hs⟩), b2⟩
          · exfalso
            obtain ⟨y, hyO, e⟩ := Ex.out
            exact (Hor.out.2 y).1 hyO (hno y (Hor.out.lt HR.out hyO) (by rw [e]))
          · have C2 := Lib.hid (Cj.out.up b2)
            have B2 : Hid (Below w.heap.size w w2) := Lib.hid (btr Be.out b2)
            have S2 : Hid (Slc w2 w.heap.size (some ⟨g2, 0, none⟩) n2 c2 (compL (c.rep j y) m1)) := Lib.hid (hs.mono (by have := Be.out.size; omega))
            have G2 : Hid (GrC n2 gs p (compL (c.rep j y) m1) (j + 1)) := Lib.hid (Gr.out.step hw.out hg.out hP.out hlt hyr fun y' hy' hr' => by
              obtain ⟨s, hs', es⟩ := List.mem_iff_getElem.1 ((Hor.out.2 y').2 hr')
              have h3 := All.out s (by rw [← Hon.out]; exact hs')
              rw [List.getD_eq_getElem?_getD, List.getElem?_eq_getElem hs', es] at h3
              have h3 : z ≤ nx m1 y' := h3
              omega)
            have z4 := (C2.out.cB (Nat.zero_le _) hlt).2.2.2.2
            clear hs b2 hy hyv hyr x4
            go_wp2_with fail
            go_roundg (n2 - (j + 1))
            case rel => exact ⟨j + 1, c2, _, _, by omega, by omega, rfl, rfl, S2.out.ri_, .inr S2.out, G2.out, B2.out⟩
            case measure => omega
    · obtain rfl : j = N := by omega
      rw [ptr_end (Nat.le_refl _)]
      have Fin : Hid (Slc wr w.heap.size A1 j c1 m1) := Lib.hid (by
        rcases Fr.out with ⟨e1, _⟩ | h
        · omega
        · exact h)
      go_wp2_with fail
      go_ret
      exact ⟨_, _, _, rfl, Fin.out, Gr.out.top, Be.out⟩
set_option maxHeartbeats 4000000 in
set_option maxRecDepth 100000 in
/-- CosetMinimum. -/
theorem implCosetMinimum : CtImsS 27 IsCmi := by
  intro a A n c vs xss P np cp p w g s _
  have HX := Lib.hid g.rr
  have hlx : Hid (xss.length = n) := Lib.hid g.rr.lx
  have hn := g.hn
  have hl := Lib.hid g.hl
  have HP := Lib.hid s.ri
  have lp := Lib.hid s.lp
  have hnp := s.hn
  clear g s
  obtain ⟨ip, hip⟩ : ∃ ip, (decide ((np : Int) = a) && isP p) = ip := ⟨_, rfl⟩
  have Hip := Lib.hid hip
  clear hip
  go_enter Try.func27, Try.ntmps27
  rcases hs : gB a xss with _ | _
  · have Fin : Hid (IsCmi a xss p []) := Lib.hid (.inr ⟨fun h => (by have := h.1; rw [hs] at this; cases this), rfl⟩)
    have Hs := Lib.hid hs
    clear hs
    go_wp2_with (first
      | (go_at_call 59; refine (implGS a A n c vs xss w HX.out hn hl).mono ?_; rintro e w1 ⟨rfl, b1⟩; rw [Hs.out]; have B1 := Lib.hid b1; clear b1))
    go_ret
    exact ⟨_, _, _, _, rfl, Slc.nil_, Fin.out, B1.out⟩
  · have Hs := Lib.hid hs
    rcases ip with _ | _
    · have Fin : Hid (IsCmi a xss p []) := Lib.hid (.inr ⟨fun h => by
        have h1 := h.2.1
        have h2 := h.2.2
        have h3 := Hip.out
        rw [lp.out] at h1
        rw [h2] at h3
        simp [h1] at h3, rfl⟩)
      clear hs
      go_wp2_with (first
        | (go_at_call 59; refine (implGS a A n c vs xss w HX.out hn hl).mono ?_; rintro e w1 ⟨rfl, b1⟩; rw [Hs.out]; have B1 := Lib.hid b1; clear b1)
        | (go_at_call 69; refine (implIsPOf a P np cp p false w1 (HP.out.up B1.out) lp (by omega) Hip).mono ?_; rintro e w2 ⟨rfl, b2⟩; have B2 := Lib.hid b2; clear b2))
      go_ret
      exact ⟨_, _, _, _, rfl, Slc.nil_, Fin.out, btr B1.out B2.out⟩
    · obtain ⟨N, rfl, hN1, hN2, hg8, hpm, hok⟩ := gB_pm hs
      have h3 := Hip.out
      rw [Bool.and_eq_true, decide_eq_true_eq] at h3
      obtain rfl : np = N := by omega
      have PP : Hid (Pn np p) := Lib.hid ⟨isP_iff.1 h3.2, lp.out⟩
      have Hq := Lib.hid h3.2
      have Ok := Lib.hid hok
      have hn8 : n ≤ 8 := by rw [← hlx.out]; exact hg8
      clear hs hpm hok hg8 h3
      go_wp2_with (first
        | (go_at_call 59; refine (implGS np A n c vs xss w HX.out hn hl).mono ?_; rintro e w1 ⟨rfl, b1⟩; rw [Hs.out]; have B1 := Lib.hid b1; clear b1)
        | (go_at_call 69; refine (implIsPOfT P np cp p w1 (HP.out.up B1.out) lp (by omega) Hq).mono ?_; rintro e w2 ⟨rfl, b2⟩; have B2 : Hid (Below w.heap.size w w2) := Lib.hid (btr B1.out b2); clear b2)
        | (go_at_call 54; refine (implChainOf np n c A vs xss w2 (HX.out.up B2.out) hN1 hN2 hn8 Ok).mono ?_; rintro e w3 ⟨ch, L, M, rfl, hc, ho, hw, b3⟩; have W3 := Lib.hid hw; have C3 := Lib.hid hc; have O3 := Lib.hid ho; have B3 : Hid (Below w.heap.size w w3) := Lib.hid (btr B2.out b3); clear hc ho hw b3)
        | (go_at_call 73; fail))
      refine (implSmallC w2.heap.size np cp M ch L xss P p w3 C3.out O3.out W3 hN1 hN2 (Lib.hid Ok.out) (HP.out.up B3.out) PP).mono ?_
      rintro e w4 ⟨A4, c4, m4, rfl, s4, hm4, b4⟩
      have S4 := Lib.hid (s4.mono B3.out.size)
      have B4 : Hid (Below w.heap.size w w4) := Lib.hid (btr B3.out b4)
      have Fin : Hid (IsCmi np xss p m4) := Lib.hid (.inl ⟨⟨Hs.out, by rw [lp.out], Hq.out⟩, by rw [Int.toNat_natCast]; exact hm4⟩)
      clear s4 b4 hm4
      go_wp2_with fail
      go_ret
      exact ⟨_, _, _, _, rfl, S4.out, Fin.out, B4.out⟩
end Go.Proofs.Ytcjcmhoalomjfaa

/- nextCosets. Conditions: at most 20 points, 8 generators, 200 cosets. -/
namespace Go.Proofs.Ytcjcmhoalomjfaa
open Go.RowKit
open Go.WideElems (rg_of rd_key)

/-- What the rounds over the map have told of: m is the smallest of a coset to which a generator leads from one that is no longer to come. -/
def Nx (N : Nat) (hs gs : List (List Int)) (S : List Int → Prop) (left : Lit → Bool) (m : List Int) : Prop := ∃ p, S p ∧ left (kO p) = false ∧ ∃ g ∈ gs, CMin N (Mb hs N) (compL p g) m
theorem left_of {w : World} {b r n : Nat} {D : DataW Value} {left : Lit → Bool} {cnt : Nat} {kl : Lit} (h : w.ranges Try.prog 56 Rv b r n D left cnt) (hl : left kl = true) : Maps.has D kl = true := by
  obtain ⟨es, clock, since, seen, c0, _, F, _, rfl, _, _, _, _, hk, _⟩ := h
  obtain ⟨x, hx, rfl⟩ := hk kl hl
  obtain ⟨y, hy⟩ := F.reads x hx
  refine has_mem (mem_sorted.2 (List.mem_map.2 ⟨x, hx, rfl⟩)) ?_
  rw [rg_of hy]
  exact lawK.key (rd_key hy)

set_option maxHeartbeats 8000000 in
set_option maxRecDepth 100000 in
theorem implNextCosets (base bi b N n cp : Nat) (M : Nat → Prop) (c : Ch) (L : Nat → LK) (hs gs U : List (List Int)) (S : List Int → Prop) (D : DataW Value) (A : Option Addr) (vs : List SV) (w : World)
    (hc : Ck w base N 0 M c L) (ho : Orbs N 0 c L) (hw : Hid (Whole N hs c)) (h1 : 1 ≤ N) (h2 : N ≤ 20) (hg : Hid (∀ g ∈ hs, Pn N g)) (hm : CS w bi b N U S D) (hA : RR w w.heap.size A n vs gs) (hG : Hid (∀ g ∈ gs, IsP g ∧ g.length = N)) (hn : n ≤ 8)
    (hU : Hid (∀ p, S p → ∀ g ∈ gs, ∀ m, CMin N (Mb hs N) (compL p g) m → m ∈ U)) :
    Calls Try.prog 101 #[.pointer (some ⟨(L 0).B, 0, none⟩), .map (some b), .slice A n cp] w fun e w' =>
      ∃ (b' : Nat) (D' : DataW Value), e = .returned (.map (some b')) ∧ CS w' w.heap.size b' N U (fun m => ∃ p, S p ∧ ∃ g ∈ gs, CMin N (Mb hs N) (compL p g) m) D' ∧ w.heap.size ≤ b' ∧ Below w.heap.size w w' := by
  have HC := Lib.hid hc
  have HO := Lib.hid ho
  have HM := Lib.hid hm
  have HA := Lib.hid hA
  have Hb : Hid (b < w.heap.size) := Lib.hid hm.lt
  clear hc ho hm hA
  have hmm := @run_makeMap Try.prog
  go_enter Try.func101, Try.ntmps101
  have M1 : Hid (CS (w.alloc (.map #[] 0)) bi b N U S D) := Lib.hid (HM.out.up ((Below.refl _ w).alloc (Nat.le_refl _) _))
  have E0 : Hid (CS (w.alloc (.map #[] 0)) w.heap.size w.heap.size N U (fun _ => False) (.map [])) := Lib.hid
    ⟨World.ownsMap_made _ _ _ _, fun _ (h : False) => h.elim, HM.out.pn, HM.out.cap, fun p _ => ⟨fun h => (by cases h), fun (h : False) => h.elim⟩, fun _ h => (by cases h), fun _ (h : False) => h.elim⟩
  go_wp2_with (first | (at_range; refine wpList_range_own _ rfl _ 48 rfl 56 33 lawK Try.underlying48 Rv b (Maps.size D) D rfl M1.out.own ?_; intro w0 hrg0 hg0 hs0) | go_in)
  have R0 := Lib.hid hrg0
  have B0 : Hid (Below w.heap.size w w0) := Lib.hid (((Below.refl _ w).alloc (Nat.le_refl _) (.map #[] 0)).grown hg0 (by simp) (by simp))
  have E1 : Hid (CS w0 w.heap.size w.heap.size N U (fun _ => False) (.map [])) := Lib.hid (E0.out.gro0 hg0)
  have Hr : Hid (w.heap.size < (w.alloc (.map #[] 0)).heap.size) := Lib.hid (by simp)
  clear hrg0 hg0 hs0 E0 M1
  go_frame
  generalize hr : (w.alloc (.map #[] 0)).heap.size = r at R0 Hr ⊢
  clear hr
  go_loopg [9, 11] 200 (fun gg mv gv wr => ∃ (left : Lit → Bool) (cnt : Nat) (S' : List Int → Prop) (D' : DataW Value), cnt ≤ gg ∧ wr.ranges Try.prog 56 Rv b r (Maps.size D) D left cnt ∧ CS wr w.heap.size w.heap.size N U S' D' ∧ (∀ m, S' m ↔ Nx N hs gs S left m) ∧ Below w.heap.size w wr)
  case atStart => exact ⟨Maps.has D, Maps.size D, fun _ => False, .map [], HM.out.size, R0.out, E1.out, fun m => ⟨fun (h : False) => h.elim, fun ⟨p, hp, hl, _⟩ => (by rw [(HM.out.has p (HM.out.pn p (HM.out.inU p hp))).2 hp] at hl; cases hl)⟩, B0.out⟩
  case round =>
    obtain ⟨left, cnt, S', D', hgg, hrg, hcs, hS, bel⟩ := hrel
    have Rg := Lib.hid hrg
    have Cs := Lib.hid hcs
    have Hs := Lib.hid hS
    have Be := Lib.hid bel
    clear hrg hcs hS bel
    go_wp2_with (first | (at_next; refine wpList_next_ranges _ rfl _ rfl 56 lawK Rv id id (fun key _ _ => ⟨key, rfl⟩) (fun v _ _ => ⟨v, rfl⟩) b r (Maps.size D) D left cnt rfl Rg.out ?_ ?_) | go_in)
    · intro hc0 hl0
      have Fin : Hid (∀ m, S' m ↔ ∃ p, S p ∧ ∃ g ∈ gs, CMin N (Mb hs N) (compL p g) m) := Lib.hid fun m => by
        rw [Hs.out m]
        exact ⟨fun ⟨p, hp, _, h⟩ => ⟨p, hp, h⟩, fun ⟨p, hp, h⟩ => ⟨p, hp, hl0 _, h⟩⟩
      clear hc0 hl0
      go_wp2_with fail
      go_ret
      exact ⟨_, D', rfl, Cs.out.ext Fin.out, Nat.le_refl _, Be.out⟩
    · intro key v kl y ps w1 cnt1 hkey hlk hv hat hrg1 hlt hg1 hs1 hen
      have hd := left_of Rg.out hlk
      obtain ⟨p, hpP, rfl⟩ := HM.out.key kl hd
      have hp : S p := (HM.out.has p hpP).1 hd
      obtain ⟨Ap, cpp, hat2, _⟩ := (HM.out.up Be.out).row p hp
      obtain rfl : v = .slice Ap N cpp := by
        have e2 := (hat .nil).symm.trans (hat2 .nil)
        unfold Rv at hv
        injection hv with hv
        injection hv with hv1 hv2
        rw [← hv1] at e2
        injection e2
      have B1 : Hid (Below w.heap.size w w1) := Lib.hid (Be.out.grown hg1 Be.out.size (fun k e => by injection e with e; have := Hr.out; omega))
      have Cs1 : Hid (CS w1 w.heap.size w.heap.size N U S' D') := Lib.hid (Cs.out.groK hg1 (by have := Hr.out; omega) (rg_noCells Rg.out))
      have P1 : Hid (∀ W : World, Below w.heap.size w W → RI W W.heap.size Ap p) := Lib.hid fun W hW => by
        obtain ⟨A2, c2, hat3, hs2⟩ := (HM.out.up hW).row p hp
        have e2 := (hat2 .nil).symm.trans (hat3 .nil)
        injection e2 with e2
        injection e2 with e2 e3 e4
        subst e2
        exact hs2.ri_
      have Rg1 := Lib.hid hrg1
      have Hp := Lib.hid hp
      have PP := Lib.hid hpP
      have Hlk := Lib.hid hlk
      have Hlt := Lib.hid hlt
      clear hd hat hat2 hrg1 hp hpP hlk hg1 hs1 hkey hv hlt
      go_wp2_with fail
      go_loopg [11, 21] n (fun gg2 gv2 jv w2 => ∃ (j : Nat) (S2 : List Int → Prop) (D2 : DataW Value), j ≤ n ∧ n - j ≤ gg2 ∧ jv = .int .i64 (j : Nat) ∧ w2.ranges Try.prog 56 Rv b r (Maps.size D) D (fun z => left z && !z.sameKey (kO p)) cnt1 ∧ CS w2 w.heap.size w.heap.size N U S2 D2 ∧ (∀ m, S2 m ↔ S' m ∨ ∃ g ∈ gs.take j, CMin N (Mb hs N) (compL p g) m) ∧ Below w.heap.size w w2)
      case atStart => exact ⟨0, S', D', Nat.zero_le _, by omega, rfl, Rg1.out, Cs1.out, fun m => ⟨.inl, fun h => h.elim id fun ⟨g, hg0, _⟩ => (by simp at hg0)⟩, B1.out⟩
      case round =>
        obtain ⟨j, S2, D2, hj, hgg2, rfl, hrg, hcs, hS2, bel⟩ := hrel
        have Rg2 := Lib.hid hrg
        have Cs2 := Lib.hid hcs
        have Hs2 := Lib.hid hS2
        have B2 := Lib.hid bel
        clear hrg hcs hS2 bel
        by_cases hlt : j < n
        · obtain ⟨bb, off, A5, l, c5, g, rfl, hb, hv, eg, x1, ri, lg, hl5⟩ := (HA.out.up B2.out).at_ hlt
          have hgm : g ∈ gs := by rw [← eg]; exact getD_memL (by rw [HA.out.lx]; exact hlt)
          have hgP := hG.out g hgm
          obtain rfl : l = N := by omega
          have GP : Hid (Pn l g) := Lib.hid hgP
          have Ri := Lib.hid ri
          have Gm := Lib.hid hgm
          have Tk : Hid (gs.take (j + 1) = gs.take j ++ [g]) := Lib.hid (by
            rw [List.take_succ_eq_append_getElem (by rw [HA.out.lx]; exact hlt)]
            congr 2
            rw [← eg, List.getD_eq_getElem?_getD, List.getElem?_eq_getElem (by rw [HA.out.lx]; exact hlt)]; rfl)
          have q0 : (0 : Int) ≤ j := by omega
          have q1 : (j : Int) < n := by omega
          clear hv eg hb ri hgP hgm
          go_wp2_with fail
          refine (implThen Ap A5 cpp c5 l p g wr (P1.out _ B2.out) Ri.out (Lib.hid PP.out.2) (Lib.hid GP.out.2) (Lib.hid PP.out.1) h2).mono ?_
          rintro e w3 ⟨A3, c3, rfl, s3, b3⟩
          have S3 := Lib.hid s3
          have B3 : Hid (Below w.heap.size w w3) := Lib.hid (btr B2.out b3)
          have Bb3 := Lib.hid b3
          clear s3 b3
          go_wp2_with fail
          refine (implSmallC base l c3 M c L hs A3 (compL p g) w3 (HC.out.up B3.out) HO.out hw h1 h2 hg S3.out.ri_ (Lib.hid (PP.out.comp GP.out))).mono ?_
          rintro e w4 ⟨A4, c4, m4, rfl, s4, hmin, b4⟩
          have S4 := Lib.hid s4
          have Mn := Lib.hid hmin
          have B4 : Hid (Below w.heap.size w w4) := Lib.hid (btr B3.out b4)
          have Bb4 : Hid (Below wr.heap.size wr w4) := Lib.hid (btr Bb3.out b4)
          have MP : Hid (Pn l m4) := Lib.hid (Cos.pn (sgp_mb hg.out h1 h2) (PP.out.comp GP.out) hmin.1)
          have MU : Hid (m4 ∈ U) := Lib.hid (hU.out p Hp.out g Gm.out m4 hmin)
          have C4 : Hid (CS w4 w.heap.size w.heap.size l U S2 D2) := Lib.hid (Cs2.out.up Bb4.out)
          have S5 : Hid (Slc w4 w.heap.size A4 l c4 m4) := Lib.hid (S4.out.mono B3.out.size)
          clear s4 hmin b4
          go_wp2_with fail
          refine (implCsAdd w.heap.size w.heap.size l c4 U S2 D2 A4 m4 w4 C4.out S5.out MP MU).mono ?_
          rintro e w5 ⟨rfl, c5', g5⟩
          have C5 := Lib.hid c5'
          have B5 : Hid (Below w.heap.size w w5) := Lib.hid (B4.out.grown g5 B4.out.size (fun k e => by injection e with e; omega))
          have Rg5 : Hid (w5.ranges Try.prog 56 Rv b r (Maps.size D) D (fun z => left z && !z.sameKey (kO p)) cnt1) := Lib.hid ((Rg2.out.kept (grown_ofB Bb4.out (row := none)) (by simp) (by simp)).kept g5 (fun e => by injection e with e; have := Hb.out; omega) (fun e => by injection e with e; have := Hr.out; omega))
          have Hs5 : Hid (∀ m, (S2 m ∨ m = m4) ↔ S' m ∨ ∃ g ∈ gs.take (j + 1), CMin l (Mb hs l) (compL p g) m) := Lib.hid fun m => by
            rw [Hs2.out m, Tk.out]
            constructor
            · rintro ((h | ⟨g', hg', hm'⟩) | rfl)
              · exact .inl h
              · exact .inr ⟨g', List.mem_append.2 (.inl hg'), hm'⟩
              · exact .inr ⟨g, List.mem_append.2 (.inr (List.mem_singleton.2 rfl)), Mn.out⟩
            · rintro (h | ⟨g', hg', hm'⟩)
              · exact .inl (.inl h)
              · rcases List.mem_append.1 hg' with h | h
                · exact .inl (.inr ⟨g', h, hm'⟩)
                · rw [List.mem_singleton.1 h] at hm'
                  exact .inr (CMin.uniq (sgp_mb hg.out h1 h2) (PP.out.comp GP.out) hm' Mn.out)
          clear c5' g5
          go_wp2_with fail
          go_roundg (n - (j + 1))
          case rel => exact ⟨j + 1, _, _, by omega, by omega, by go_num, Rg5.out, C5.out, Hs5.out, B5.out⟩
          case measure => omega
        · obtain rfl : j = n := by omega
          have Fin : Hid (∀ m, S2 m ↔ Nx N hs gs S (fun z => left z && !z.sameKey (kO p)) m) := Lib.hid fun m => by
            rw [Hs2.out m, List.take_of_length_le (by rw [HA.out.lx]; exact Nat.le_refl _), Hs.out m]
            constructor
            · rintro (⟨q, hq, hl, h⟩ | h)
              · exact ⟨q, hq, (by simp [hl]), h⟩
              · exact ⟨p, Hp.out, (by simp [WideAt.sameKey_self (kO_key PP.out)]), h⟩
            · rintro ⟨q, hq, hl, h⟩
              rcases hlq : left (kO q) with _ | _
              · exact .inl ⟨q, hq, hlq, h⟩
              · have hl2 : (left (kO q) && !(kO q).sameKey (kO p)) = false := hl
                rw [hlq] at hl2
                have e1 : (kO q).sameKey (kO p) = true := by simpa using hl2
                obtain rfl : q = p := kO_inj (HM.out.pn q (HM.out.inU q hq)) PP.out (WideAt.sameKey_eq e1)
                exact .inr h
          go_wp2_with fail
          go_roundg cnt1
          case rel => exact ⟨_, cnt1, S2, D2, Nat.le_refl _, Rg2.out, Cs2.out, Fin.out, B2.out⟩
          case measure => have := Hlt.out; omega
end Go.Proofs.Ytcjcmhoalomjfaa

/- maps.Copy of two maps of cosets. Conditions: at most 20 points, 200 cosets. -/
namespace Go.Proofs.Ytcjcmhoalomjfaa
open Go.RowKit

theorem wpList_stK {ops : Array Oper} {rest : List Oper} {o : Oper} {a : Act} {w : World} {c c' : Array Value} {Q : Exit → Act → World → Prop} (hgd : o.guard = none) (x y : Operand) (ho : o.op = .store 56 x y)
    (hx : a.eval x = .pointer (some ⟨w.heap.size, 0, none⟩)) (hy : a.eval y = .agg c') (hs : c.size = 20) (hs' : c'.size = 20) (h1 : c'.all (·.oneCell') = true) (h : wpList Try.prog ops Q rest (a.put o.dst undef) (w.alloc (.cells c' 56))) :
    wpList Try.prog ops Q (o :: rest) a (w.alloc (.cells c 56)) := by
  refine wpList_plain hgd fun K' hK' => ?_
  have hl := run_storeAt_new (P := Try.prog) w 56 c c' (by rw [hs']; kernel_rfl) (by rw [hs, hs']) h1
  unfold Oper.wp
  simp only [execOp, ho, hx, hy, hl, Sem.run_bind, Sem.run_pure, Result.andThen]
  exact hK' _ _ h
/-- The entries of the key of p. -/
def arrC (p : List Int) : Array Value := ((List.range 20).map fun i => Value.int .i64 (p.getD i 0)).toArray
theorem arrC_size (p : List Int) : (arrC p).size = 20 := by simp [arrC]
theorem arrC_one (p : List Int) : (arrC p).all (·.oneCell') = true := by
  rw [Array.all_eq_true_iff_forall_mem]
  intro v hv
  obtain ⟨i, _, rfl⟩ := List.mem_map.1 (by simpa [arrC] using hv : v ∈ (List.range 20).map fun i => Value.int .i64 (p.getD i 0))
  rfl
theorem arrV_eq (p : List Int) : arrV p = .agg (arrC p) := rfl
theorem ld_new (w : World) (p : List Int) : (Instr.loadAt 56 (.pointer (some ⟨w.heap.size, 0, none⟩))).run Try.prog (w.alloc (.cells (arrC p) 56)) = .ok (arrV p) (w.alloc (.cells (arrC p) 56)) :=
  run_loadAt_new (P := Try.prog) w 56 (arrC p) _ _ Try.underlying56 (by rw [arrC_size]; kernel_rfl)
/-- What a round over a map of cosets brings: a coset and its row. -/
theorem CS.entry {w : World} {bi b N : Nat} {U : List (List Int)} {S : List Int → Prop} {D y : DataW Value} {key v : Value} {kl : Lit} {ps : List MemPlace} (h : CS w bi b N U S D) (hd : Maps.has D kl = true) (hkey : keyOf Try.prog 56 key = some kl)
    (hv : Rv v = some (y, ps)) (hat : ∀ zd, D.atKey kl zd = y) : ∃ (p : List Int) (A : Option Addr) (cp : Nat), Pn N p ∧ S p ∧ kl = kO p ∧ key = .agg (arrC p) ∧ v = .slice A N cp ∧ Slc w bi A N cp p ∧ y = .held (.slice A N cp) := by
  obtain ⟨p, hpP, rfl⟩ := h.key kl hd
  have hp : S p := (h.has p hpP).1 hd
  obtain ⟨A, cp, hat2, hs⟩ := h.row p hp
  have e2 := (hat .nil).symm.trans (hat2 .nil)
  unfold Rv at hv
  injection hv with hv
  injection hv with hv1 hv2
  have e3 := e2
  rw [← hv1] at e3
  injection e3 with e3
  exact ⟨p, A, cp, hpP, hp, rfl, lawK.inj hkey (kO_eq hpP), e3, hs, e2⟩

set_option maxHeartbeats 8000000 in
set_option maxRecDepth 100000 in
theorem mapsCopy (bi b b' N : Nat) (U : List (List Int)) (S S' : List Int → Prop) (D D' : DataW Value) (w : World) (hne : b ≠ b') (h : CS w bi b N U S D) (h' : CS w bi b' N U S' D') :
    Calls Try.prog 100 #[.map (some b), .map (some b')] w fun e w' =>
      ∃ D2, e = .returned (.tuple #[]) ∧ CS w' bi b N U (fun m => S m ∨ S' m) D2 ∧ w.grownBy w' (some b) := by
  have HC := Lib.hid h
  have HD := Lib.hid h'
  have Hb : Hid (b < w.heap.size ∧ b' < w.heap.size) := Lib.hid ⟨h.lt, h'.lt⟩
  have Kd : Hid (∀ W : World, w.grownBy W (some b) → CS W bi b' N U S' D') := Lib.hid fun W hW => h'.kept hW (fun e => hne (by injection e with e; exact e.symm)) (fun A cp p hs => .inr (slc_ne hs h.noCells))
  clear h h'
  go_enter Try.func100, Try.ntmps100
  go_wp2_with (first | (at_range; refine wpList_range_own _ rfl _ 48 rfl 56 33 lawK Try.underlying48 Rv b' (Maps.size D') D' rfl HD.out.own ?_; intro w0 hrg0 hg0 hs0) | go_in)
  have R0 := Lib.hid hrg0
  have G0 : Hid (w.grownBy w0 (some b)) := Lib.hid (hg0.but _)
  have C0 : Hid (CS w0 bi b N U S D) := Lib.hid (HC.out.gro0 hg0)
  clear hrg0 hg0 hs0
  go_frame
  go_loopg [4, 5] 200 (fun gg mv gv wr => ∃ (left : Lit → Bool) (cnt : Nat) (S2 : List Int → Prop) (D2 : DataW Value), cnt ≤ gg ∧ wr.ranges Try.prog 56 Rv b' w.heap.size (Maps.size D') D' left cnt ∧ CS wr bi b N U S2 D2 ∧ (∀ m, S2 m ↔ S m ∨ (S' m ∧ left (kO m) = false)) ∧ w.grownBy wr (some b))
  case atStart => exact ⟨Maps.has D', Maps.size D', S, D, HD.out.size, R0.out, C0.out, fun m => ⟨.inl, fun x => x.elim id fun ⟨hp, hl⟩ => (by rw [(HD.out.has m (HD.out.pn m (HD.out.inU m hp))).2 hp] at hl; cases hl)⟩, G0.out⟩
  case round =>
    obtain ⟨left, cnt, S2, D2, hgg, hrg, hcs, hS, hgr⟩ := hrel
    have Rg := Lib.hid hrg
    have Cs := Lib.hid hcs
    have Hs := Lib.hid hS
    have Gr := Lib.hid hgr
    clear hrg hcs hS hgr
    go_wp2_with (first | (at_next; refine wpList_next_ranges _ rfl _ rfl 56 lawK Rv id id (fun key _ _ => ⟨key, rfl⟩) (fun v _ _ => ⟨v, rfl⟩) b' w.heap.size (Maps.size D') D' left cnt rfl Rg.out ?_ ?_) | go_in)
    · intro hc0 hl0
      have Fin : Hid (∀ m, S2 m ↔ S m ∨ S' m) := Lib.hid fun m => by
        rw [Hs.out m]
        exact ⟨fun x => x.elim .inl fun y => .inr y.1, fun x => x.elim .inl fun y => .inr ⟨y, hl0 _⟩⟩
      clear hc0 hl0
      go_wp2_with fail
      refine bodyPost_end (results_none rfl _ _ _) rfl ?_
      exact ⟨D2, rfl, Cs.out.ext Fin.out, Gr.out⟩
    · intro key v kl y ps w1 cnt1 hkey hlk hv hat hrg1 hlt hg1 hs1 hen
      obtain ⟨p, Ap, cpp, hpP, hp, rfl, rfl, rfl, hs, rfl⟩ := CS.entry (Kd.out _ Gr.out) (left_of Rg.out hlk) hkey hv hat
      have PP := Lib.hid hpP
      have Hp := Lib.hid hp
      have Hlt := Lib.hid hlt
      have G1 : Hid (w.grownBy w1 (some b)) := Lib.hid (Gr.out.andThen hg1 fun j e => .inl (by injection e with e; omega))
      have Cs1 : Hid (CS w1 bi b N U S2 D2) := Lib.hid (Cs.out.groK hg1 (by have := Hb.out; omega) (rg_noCells Rg.out))
      have Ca : Hid (CS (w1.alloc (.cells (arrC p) 56)) bi b N U S2 D2) := Lib.hid (Cs1.out.up ((Below.refl _ _).alloc (Nat.le_refl _) _))
      have Ga : Hid (w.grownBy (w1.alloc (.cells (arrC p) 56)) (some b)) := Lib.hid (G1.out.trans (grown_ofB ((Below.refl _ _).alloc (Nat.le_refl _) _)))
      have Ra : Hid ((w1.alloc (.cells (arrC p) 56)).ranges Try.prog 56 Rv b' w.heap.size (Maps.size D') D' (fun z => left z && !z.sameKey (kO p)) cnt1) := Lib.hid (hrg1.alloc _)
      have Sa : Hid (Slc (w1.alloc (.cells (arrC p) 56)) bi Ap N cpp p) := Lib.hid (by
        obtain ⟨A2, c2, hat3, hs2⟩ := (Kd.out _ Ga.out).row p hp
        have e2 := (hat .nil).symm.trans (hat3 .nil)
        injection e2 with e2
        injection e2 with e2 e3 e4
        subst e2; subst e4
        exact hs2)
      have Pu : Hid (p ∈ U) := Lib.hid (HD.out.inU p hp)
      have Hsz : Hid (Maps.size D2 < maxLen) := Lib.hid (by have := Cs.out.size; unfold maxLen; omega)
      have z20 : Hid (∀ p, (arrC p).size = 20) := Lib.hid arrC_size
      clear hat hrg1 hp hpP hlk hg1 hs1 hkey hv hlt hs
      go_wp2_with (first
        | (refine wpList_stK (o := ⟨none, .store _ _ _, _, _, _, _⟩) rfl _ _ rfl rfl rfl rfl (arrC_size p) (arrC_one p) ?_)
        | (refine wpList_ldK (o := ⟨some 14, _, _, _, _, _⟩) rfl _ rfl w1.heap.size rfl _ (ld_new w1 p) ?_)
        | (at_mapUpdate; refine wpList_mapUpdate_own _ rfl _ _ _ 48 rfl 56 33 lawK Try.underlying48 Rv b (Maps.size D2) D2 rfl Ca.out.own Hsz.out _ _ (kO p) rfl rfl (kO_eq PP.out) (.held (.slice Ap N cpp)) [] rfl ?_; intro w2 ho2 hg2)
        | go_in)
      have C2 := Lib.hid (Ca.out.put PP.out Pu.out Sa.out hg2 ho2)
      have G2 : Hid (w.grownBy w2 (some b)) := Lib.hid (Ga.out.trans hg2)
      have R2 : Hid (w2.ranges Try.prog 56 Rv b' w.heap.size (Maps.size D') D' (fun z => left z && !z.sameKey (kO p)) cnt1) := Lib.hid (Ra.out.kept hg2 (fun e => hne (by injection e with e; exact e.symm)) (fun e => by injection e with e; have := Hb.out; omega))
      have Fin : Hid (∀ m, (S2 m ∨ m = p) ↔ S m ∨ (S' m ∧ (left (kO m) && !(kO m).sameKey (kO p)) = false)) := Lib.hid fun m => by
        rw [Hs.out m]
        constructor
        · rintro ((h | ⟨h, hl⟩) | rfl)
          · exact .inl h
          · exact .inr ⟨h, (by simp [hl])⟩
          · exact .inr ⟨Hp.out, (by simp [WideAt.sameKey_self (kO_key PP.out)])⟩
        · rintro (h | ⟨h, hl⟩)
          · exact .inl (.inl h)
          · rcases hlq : left (kO m) with _ | _
            · exact .inl (.inr ⟨h, rfl⟩)
            ·
              exact .inr (kO_inj (HD.out.pn m (HD.out.inU m h)) PP.out (WideAt.sameKey_eq (by simpa [hlq] using hl)))
      clear ho2 hg2
      go_wp2_with fail
      go_roundg cnt1
      case rel => exact ⟨_, cnt1, _, _, Nat.le_refl _, R2.out, C2.out, Fin.out, G2.out⟩
      case measure => have := Hlt.out; omega
end Go.Proofs.Ytcjcmhoalomjfaa
