/- Part 7 of the texts: Shelf, Row, OrF, OrS, Orb1, ItG, Iter, Cnt, Msy, Orbs, SpE, SpF. No condition of its own: each text tells its own. -/
import Derived.Test.YtedfcljikgmpgaaMg1
import Derived.Test.YtedfcljikgmpgaaMg3
import Derived.Test.YtedfcljikgmpgaaMg6
import Derived.Shelf.SortM.Plain
import Derived.Shelf.SlicesE.Equal
import Derived.Shelf.SlicesE.IndexFunc
import Derived.Shelf.SlSortCmp.Whole1
import Derived.Test.YtedfcljikgmpgaaProg
import Derived.Sort.Grow
import Derived.Deep.LoopGhost
import Derived.RangeFuncNested
import Derived.RangeFuncBound
import Derived.RangeFuncCalls
import Derived.RangeFuncLeaves
import Derived.OwnWalkIn
import Derived.TacticsInMore
import Derived.LoopNIn
import Derived.LoopIn
import Derived.Shelf.Abstract
import Derived.Maps.AppendAt
import Derived.StillTailTactics
set_option linter.unusedVariables false
set_option linter.unusedSimpArgs false

/- The library's contracts laid at this program: tables of numbers, and facts that the kernel compares. No condition. -/
namespace Go.Proofs.Ytedfcljikgmpgaa
open Go.Proofs Go.Shelf
def laySort_ren : Go.Shelf.Ren := ⟨fun | 5 => 150 | 8 => 130 | 7 => 158 | 19 => 148 | 20 => 149 | 10 => 161 | 11 => 162 | 12 => 163 | 13 => 164 | 14 => 165 | 15 => 166 | 16 => 167 | 17 => 168 | 18 => 169 | 30 => 171 | 31 => 154 | 32 => 155 | 33 => 172 | 34 => 173 | 35 => 131 | 40 => 174 | n => n, fun | 23 => 48 | 25 => 2 | 3 => 3 | 32 => 73 | 22 => 48 | 0 => 0 | 44 => 142 | 46 => 44 | 4 => 4 | 36 => 135 | 35 => 134 | 41 => 139 | 5 => 5 | 9 => 9 | 53 => 148 | 57 => 152 | 63 => 156 | 64 => 157 | n => n, fun | n => n⟩
theorem laySort : Go.Proofs.SlLaysM.n5 Try.prog laySort_ren := {
  mixed := by kernel_rfl
  f5 := ⟨Try.f150.name, by decide, Try.func150.trans (congrArg some (by kernel_rfl))⟩
  f7 := ⟨Try.f158.name, by decide, Try.func158.trans (congrArg some (by kernel_rfl))⟩
  f8 := Try.func130.trans (congrArg some (by kernel_rfl))
  f10 := ⟨Try.f161.name, by decide, Try.func161.trans (congrArg some (by kernel_rfl))⟩
  f11 := ⟨Try.f162.name, by decide, Try.func162.trans (congrArg some (by kernel_rfl))⟩
  f12 := ⟨Try.f163.name, by decide, Try.func163.trans (congrArg some (by kernel_rfl))⟩
  f13 := ⟨Try.f164.name, by decide, Try.func164.trans (congrArg some (by kernel_rfl))⟩
  f14 := ⟨Try.f165.name, by decide, Try.func165.trans (congrArg some (by kernel_rfl))⟩
  f15 := ⟨Try.f166.name, by decide, Try.func166.trans (congrArg some (by kernel_rfl))⟩
  f16 := ⟨Try.f167.name, by decide, Try.func167.trans (congrArg some (by kernel_rfl))⟩
  f17 := ⟨Try.f168.name, by decide, Try.func168.trans (congrArg some (by kernel_rfl))⟩
  f18 := ⟨Try.f169.name, by decide, Try.func169.trans (congrArg some (by kernel_rfl))⟩
  f19 := Try.func148.trans (congrArg some (by kernel_rfl))
  f20 := Try.func149.trans (congrArg some (by kernel_rfl))
  f30 := ⟨Try.f171.name, by decide, Try.func171.trans (congrArg some (by kernel_rfl))⟩
  f31 := Try.func154.trans (congrArg some (by kernel_rfl))
  f32 := Try.func155.trans (congrArg some (by kernel_rfl))
  f33 := ⟨Try.f172.name, by decide, Try.func172.trans (congrArg some (by kernel_rfl))⟩
  f34 := ⟨Try.f173.name, by decide, Try.func173.trans (congrArg some (by kernel_rfl))⟩
  f35 := ⟨Try.f131.name, by decide, Try.func131.trans (congrArg some (by kernel_rfl))⟩
  f40 := ⟨Try.f174.name, by decide, Try.func174.trans (congrArg some (by kernel_rfl))⟩
  t0 := Try.underlying0
  a0 := Try.isAgg0
  z0 := Try.sizeOf0
  v0 := Try.zeroValue0
  t3 := Try.underlying3
  a3 := Try.isAgg3
  z3 := Try.sizeOf3
  v3 := Try.zeroValue3
  t4 := Try.underlying4
  a4 := Try.isAgg4
  z4 := Try.sizeOf4
  v4 := Try.zeroValue4
  t5 := Try.underlying5
  a5 := Try.isAgg5
  z5 := Try.sizeOf5
  v5 := Try.zeroValue5
  t9 := Try.underlying9
  a9 := Try.isAgg9
  z9 := Try.sizeOf9
  v9 := Try.zeroValue9
  t22 := Try.underlying48
  a22 := Try.isAgg48
  z22 := Try.sizeOf48
  v22 := Try.zeroValue48
  t23 := Try.underlying48
  a23 := Try.isAgg48
  z23 := Try.sizeOf48
  v23 := Try.zeroValue48
  t25 := Try.underlying2
  a25 := Try.isAgg2
  z25 := Try.sizeOf2
  v25 := Try.zeroValue2
  t32 := Try.underlying73
  a32 := Try.isAgg73
  z32 := Try.sizeOf73
  v32 := Try.zeroValue73
  t35 := Try.underlying134
  a35 := Try.isAgg134
  z35 := Try.sizeOf134
  v35 := Try.zeroValue134
  t36 := Try.underlying135
  a36 := Try.isAgg135
  z36 := Try.sizeOf135
  v36 := Try.zeroValue135
  t41 := Try.underlying139
  a41 := Try.isAgg139
  z41 := Try.sizeOf139
  v41 := Try.zeroValue139
  t44 := Try.underlying142
  a44 := Try.isAgg142
  z44 := Try.sizeOf142
  v44 := Try.zeroValue142
  t46 := Try.underlying44
  a46 := Try.isAgg44
  z46 := Try.sizeOf44
  v46 := Try.zeroValue44
  t53 := Try.underlying148
  a53 := Try.isAgg148
  z53 := Try.sizeOf148
  v53 := Try.zeroValue148
  t57 := Try.underlying152
  a57 := Try.isAgg152
  z57 := Try.sizeOf152
  v57 := Try.zeroValue152
  t63 := Try.underlying156
  a63 := Try.isAgg156
  z63 := Try.sizeOf156
  v63 := Try.zeroValue156
  t64 := Try.underlying157
  a64 := Try.isAgg157
  z64 := Try.sizeOf157
  v64 := Try.zeroValue157 }
def layEq_ren : Go.Shelf.Ren := ⟨fun | 33 => 74 | n => n, fun | 22 => 48 | 23 => 2 | 4 => 4 | 3 => 3 | 0 => 0 | n => n, fun | n => n⟩
theorem layEq : Go.Proofs.SlLaysE.n33 Try.prog layEq_ren := {
  mixed := by kernel_rfl
  f33 := ⟨Try.f74.name, by decide, Try.func74.trans (congrArg some (by kernel_rfl))⟩
  t0 := Try.underlying0
  a0 := Try.isAgg0
  z0 := Try.sizeOf0
  v0 := Try.zeroValue0
  t3 := Try.underlying3
  a3 := Try.isAgg3
  z3 := Try.sizeOf3
  v3 := Try.zeroValue3
  t4 := Try.underlying4
  a4 := Try.isAgg4
  z4 := Try.sizeOf4
  v4 := Try.zeroValue4
  t22 := Try.underlying48
  a22 := Try.isAgg48
  z22 := Try.sizeOf48
  v22 := Try.zeroValue48
  a23 := Try.isAgg2
  z23 := Try.sizeOf2 }
def layIdx_ren : Go.Shelf.Ren := ⟨fun | 6 => 91 | n => n, fun | 22 => 22 | 23 => 48 | 25 => 70 | 3 => 3 | 0 => 0 | 4 => 4 | n => n, fun | n => n⟩
theorem layIdx : Go.Proofs.SlLaysH.n6 Try.prog layIdx_ren := {
  mixed := by kernel_rfl
  f6 := ⟨Try.f91.name, by decide, Try.func91.trans (congrArg some (by kernel_rfl))⟩
  t0 := Try.underlying0
  a0 := Try.isAgg0
  z0 := Try.sizeOf0
  v0 := Try.zeroValue0
  t3 := Try.underlying3
  a3 := Try.isAgg3
  z3 := Try.sizeOf3
  v3 := Try.zeroValue3
  t4 := Try.underlying4
  a4 := Try.isAgg4
  z4 := Try.sizeOf4
  v4 := Try.zeroValue4
  t22 := Try.underlying22
  a22 := Try.isAgg22
  z22 := Try.sizeOf22
  v22 := Try.zeroValue22
  a23 := Try.isAgg48
  z23 := Try.sizeOf48
  t25 := Try.underlying70
  a25 := Try.isAgg70
  z25 := Try.sizeOf70
  v25 := Try.zeroValue70 }
def laySortF_ren : Go.Shelf.Ren := ⟨fun | 6 => 112 | 15 => 130 | 14 => 129 | 28 => 148 | 29 => 149 | 20 => 140 | 21 => 141 | 22 => 142 | 23 => 143 | 24 => 144 | 25 => 145 | 26 => 146 | 27 => 147 | 46 => 153 | 47 => 154 | 48 => 155 | 49 => 156 | 50 => 157 | 57 => 160 | n => n, fun | 22 => 22 | 24 => 48 | 25 => 86 | 3 => 3 | 39 => 73 | 0 => 0 | 53 => 142 | 55 => 44 | 4 => 4 | 46 => 135 | 45 => 134 | 50 => 139 | 5 => 5 | 9 => 9 | 66 => 148 | 70 => 152 | 76 => 156 | 77 => 157 | n => n, fun | n => n⟩
theorem laySortF : Go.Proofs.SlLaysF.n6 Try.prog laySortF_ren := {
  mixed := by kernel_rfl
  f6 := ⟨Try.f112.name, by decide, Try.func112.trans (congrArg some (by kernel_rfl))⟩
  f14 := ⟨Try.f129.name, by decide, Try.func129.trans (congrArg some (by kernel_rfl))⟩
  f15 := Try.func130.trans (congrArg some (by kernel_rfl))
  f20 := ⟨Try.f140.name, by decide, Try.func140.trans (congrArg some (by kernel_rfl))⟩
  f21 := ⟨Try.f141.name, by decide, Try.func141.trans (congrArg some (by kernel_rfl))⟩
  f22 := ⟨Try.f142.name, by decide, Try.func142.trans (congrArg some (by kernel_rfl))⟩
  f23 := ⟨Try.f143.name, by decide, Try.func143.trans (congrArg some (by kernel_rfl))⟩
  f24 := ⟨Try.f144.name, by decide, Try.func144.trans (congrArg some (by kernel_rfl))⟩
  f25 := ⟨Try.f145.name, by decide, Try.func145.trans (congrArg some (by kernel_rfl))⟩
  f26 := ⟨Try.f146.name, by decide, Try.func146.trans (congrArg some (by kernel_rfl))⟩
  f27 := ⟨Try.f147.name, by decide, Try.func147.trans (congrArg some (by kernel_rfl))⟩
  f28 := Try.func148.trans (congrArg some (by kernel_rfl))
  f29 := Try.func149.trans (congrArg some (by kernel_rfl))
  f46 := ⟨Try.f153.name, by decide, Try.func153.trans (congrArg some (by kernel_rfl))⟩
  f47 := Try.func154.trans (congrArg some (by kernel_rfl))
  f48 := Try.func155.trans (congrArg some (by kernel_rfl))
  f49 := ⟨Try.f156.name, by decide, Try.func156.trans (congrArg some (by kernel_rfl))⟩
  f50 := ⟨Try.f157.name, by decide, Try.func157.trans (congrArg some (by kernel_rfl))⟩
  f57 := ⟨Try.f160.name, by decide, Try.func160.trans (congrArg some (by kernel_rfl))⟩
  t0 := Try.underlying0
  a0 := Try.isAgg0
  z0 := Try.sizeOf0
  v0 := Try.zeroValue0
  t3 := Try.underlying3
  a3 := Try.isAgg3
  z3 := Try.sizeOf3
  v3 := Try.zeroValue3
  t4 := Try.underlying4
  a4 := Try.isAgg4
  z4 := Try.sizeOf4
  v4 := Try.zeroValue4
  t5 := Try.underlying5
  a5 := Try.isAgg5
  z5 := Try.sizeOf5
  v5 := Try.zeroValue5
  t9 := Try.underlying9
  a9 := Try.isAgg9
  z9 := Try.sizeOf9
  v9 := Try.zeroValue9
  t22 := Try.underlying22
  a22 := Try.isAgg22
  z22 := Try.sizeOf22
  v22 := Try.zeroValue22
  a24 := Try.isAgg48
  z24 := Try.sizeOf48
  t25 := Try.underlying86
  a25 := Try.isAgg86
  z25 := Try.sizeOf86
  v25 := Try.zeroValue86
  t39 := Try.underlying73
  a39 := Try.isAgg73
  z39 := Try.sizeOf73
  v39 := Try.zeroValue73
  t45 := Try.underlying134
  a45 := Try.isAgg134
  z45 := Try.sizeOf134
  v45 := Try.zeroValue134
  t46 := Try.underlying135
  a46 := Try.isAgg135
  z46 := Try.sizeOf135
  v46 := Try.zeroValue135
  t50 := Try.underlying139
  a50 := Try.isAgg139
  z50 := Try.sizeOf139
  v50 := Try.zeroValue139
  t53 := Try.underlying142
  a53 := Try.isAgg142
  z53 := Try.sizeOf142
  v53 := Try.zeroValue142
  t55 := Try.underlying44
  a55 := Try.isAgg44
  z55 := Try.sizeOf44
  v55 := Try.zeroValue44
  t66 := Try.underlying148
  a66 := Try.isAgg148
  z66 := Try.sizeOf148
  v66 := Try.zeroValue148
  t70 := Try.underlying152
  a70 := Try.isAgg152
  z70 := Try.sizeOf152
  v70 := Try.zeroValue152
  t76 := Try.underlying156
  a76 := Try.isAgg156
  z76 := Try.sizeOf156
  v76 := Try.zeroValue156
  t77 := Try.underlying157
  a77 := Try.isAgg157
  z77 := Try.sizeOf157
  v77 := Try.zeroValue157 }
end Go.Proofs.Ytedfcljikgmpgaa

/- Rows of the call's own that the library has written over. No condition. -/
namespace Go.Proofs.Ytedfcljikgmpgaa
open Go.RowKit Go.Sort

theorem heap_put {α : Type} [Inhabited α] (enc : α → Value) (w : World) (k g : Nat) (d : Array α) (os : Array Obj) {cur : Array Value} {e : TypeId} {fr : Nat × Nat} (hb : w.heap[g]? = some (.cells cur e fr)) :
    (grow (putRow enc (Sort.ahead w k) g 0 d) os).heap[g]? = some (.cells (putCells enc 0 d cur) e fr) := by
  have hlt : g < w.heap.size := (Array.getElem?_eq_some_iff.1 hb).1
  rw [heap_grow_old _ _ (by simpa using hlt)]
  unfold putRow mapBlock
  simp [Array.getElem?_modify, hb, onCells]
theorem put_take {α : Type} [Inhabited α] (enc : α → Value) (ts : List α) (cur : Array Value) (n : Nat) (hn : n ≤ ts.length) (hc : ts.length ≤ cur.size) : (putCells enc 0 ts.toArray cur).toList.take n = (ts.take n).map enc := by
  apply List.ext_getElem
  · simp [putCells]; omega
  · intro i h1 h2
    simp [putCells] at h1 h2 ⊢
    rw [if_pos (by omega)]
    rw [List.getElem?_eq_getElem (by omega)]; rfl
theorem grown_put {α : Type} [Inhabited α] (enc : α → Value) (w : World) (k g : Nat) (d : Array α) (os : Array Obj) : w.grownBy (grow (putRow enc (Sort.ahead w k) g 0 d) os) (some g) := by
  refine ⟨rfl, rfl, rfl, by simp, fun i hi hne => ?_⟩
  rw [heap_grow_old _ _ (by simpa using hi)]
  unfold putRow mapBlock
  have : ¬ g = i := fun e => hne (by rw [e])
  simp [Array.getElem?_modify, this]
theorem own_put {α : Type} [Inhabited α] (enc : α → Value) {w : World} {base g cap n : Nat} {e : TypeId} {xs : List α} {ts : List α} (h : w.ownsRow base e 1 (.slice (some ⟨g, 0, none⟩) xs.length cap) xs.length (xs.map enc))
    (hl : ts.length = xs.length) (hn : n ≤ xs.length) (k : Nat) (os : Array Obj) :
    (grow (putRow enc (Sort.ahead w k) g 0 ts.toArray) os).ownsRow base e 1 (.slice (some ⟨g, 0, none⟩) n cap) n ((ts.take n).map enc) := by
  refine ⟨by simp; omega, .inr ?_⟩
  rcases h.2 with ⟨e1, _⟩ | ⟨g', cap', cur, e1, hb, hg, h1, h2, h3, h4⟩
  · cases e1
  · injection e1 with e1 e2 e3
    injection e1 with e1
    injection e1 with e1
    subst e1; subst e3
    refine ⟨g, cap, _, rfl, hb, heap_put enc w k g _ os hg, by omega, h2, by simp [putCells]; omega, ?_⟩
    rw [Nat.mul_one]
    exact put_take enc ts cur n (by omega) (by omega)
theorem holds_own {α : Type} [Inhabited α] (enc : α → Value) {w : World} {base g cap : Nat} {e : TypeId} {xs : List α} (h : w.ownsRow base e 1 (.slice (some ⟨g, 0, none⟩) xs.length cap) xs.length (xs.map enc)) :
    Holds enc w g 0 xs.toArray := by
  intro j hj
  simp at hj
  rw [Nat.zero_add]
  refine ⟨?_, h.frozenAt j⟩
  rw [h.cellAt j (by omega), List.getElem?_map, List.getElem?_eq_getElem hj, getElem!_pos _ j (by simpa using hj)]
  simp

/-- slices.Sort at a row of the call's own. -/
theorem sortT (base : Nat) (A : Option Addr) (n c : Nat) (xs : List Int) (w : World) (h : Slc w base A n c xs) (h1 : 1 ≤ n) (hn : n ≤ 2097152) :
    Calls Try.prog 150 #[.slice A n c] w fun e w' => e = .returned (.tuple #[]) ∧ Slc w' base A n c (xs.mergeSort fun x y => decide (x ≤ y)) ∧ w.grownBy w' (Value.slice A n c).ownBlock := by
  obtain ⟨hl, ho⟩ := h
  subst hl
  rcases Slc.at_ ⟨rfl, ho⟩ with ⟨_, _, e0, _⟩ | ⟨g, rfl, hb, hg⟩
  · omega
  have hho : w.ownsRow base 2 1 (.slice (some ⟨g, 0, none⟩) xs.length c) xs.length (xs.map (Value.int .i64)) := ho
  refine (AnyM.slices_Sort_int laySort g 0 c xs w (holds_own _ hho) hg (by omega)).mono ?_
  rintro e w' ⟨rfl, k, os, rfl⟩
  have hlen : (xs.mergeSort fun x y => decide (x ≤ y)).length = xs.length := List.length_mergeSort _
  refine ⟨rfl, ⟨hlen, ?_⟩, grown_put _ _ _ _ _ _⟩
  have := own_put (Value.int .i64) hho hlen (Nat.le_refl _) k os
  rw [List.take_of_length_le (by omega)] at this
  unfold Own
  rw [hlen]
  exact this
theorem allEq_eq : ∀ xs ys : List Int, Lib.allEq (fun x y => x == y) xs ys = decide (xs = ys)
  | [], [] => rfl
  | [], y :: ys => by simp [Lib.allEq]
  | x :: xs, [] => by simp [Lib.allEq]
  | x :: xs, y :: ys => by
    rw [Lib.allEq, allEq_eq xs ys]
    by_cases h : x = y
    · subst h; simp
    · simp [h]
/-- slices.Equal. -/
theorem equalT (b1 b2 : Nat) (A B : Option Addr) (n c m d : Nat) (xs ys : List Int) (w : World) (hx : Slc w b1 A n c xs) (hy : Slc w b2 B m d ys) (h1 : 1 ≤ n) (h2 : 1 ≤ m) (hn : n ≤ 2097152) (hm : m ≤ 2097152) :
    Calls Try.prog 74 #[.slice A n c, .slice B m d] w fun e w' => e = .returned (.bool (decide (xs = ys))) ∧ Below w.heap.size w w' := by
  obtain ⟨lx, ox⟩ := hx
  obtain ⟨ly, oy⟩ := hy
  subst lx; subst ly
  rcases Slc.at_ ⟨rfl, ox⟩ with ⟨_, _, e0, _⟩ | ⟨g, rfl, hb, hg⟩
  · omega
  rcases Slc.at_ ⟨rfl, oy⟩ with ⟨_, _, e0, _⟩ | ⟨g2, rfl, hb2, hg2⟩
  · omega
  have c1 := holds_own (Value.int .i64) (show w.ownsRow b1 2 1 (.slice (some ⟨g, 0, none⟩) xs.length c) xs.length (xs.map (Value.int .i64)) from ox)
  have c2 := holds_own (Value.int .i64) (show w.ownsRow b2 2 1 (.slice (some ⟨g2, 0, none⟩) ys.length d) ys.length (ys.map (Value.int .i64)) from oy)
  refine (AnyE.slices_Equal layEq (Value.int .i64) (fun x y => x == y) (NeqAt.int _ _ _) g 0 xs.length c g2 0 ys.length d xs ys w (Nat.le_refl _) (Nat.le_refl _) (by omega) (by omega) (fun j hj => (c1 j (by simpa using hj)).1.trans (by simp)) (fun j hj => (c2 j (by simpa using hj)).1.trans (by simp))).mono ?_
  rintro e w' ⟨rfl, q, rfl⟩
  refine ⟨ret_bool ?_, below_quiet _ _⟩
  rw [List.take_of_length_le (Nat.le_refl _), List.take_of_length_le (Nat.le_refl _)]
  exact allEq_eq xs ys
end Go.Proofs.Ytedfcljikgmpgaa

/- orbitFrom: the sorted orbit of a point, its points marked. Conditions: at most 1000 points, at most 8 maps. -/
namespace Go.Proofs.Ytedfcljikgmpgaa
open Go.RowKit

/-- The cells cs say f of the numbers below N. -/
def Bits (N : Nat) (f : Nat → Bool) (cs : Array Value) : Prop := cs.size = N ∧ ∀ y, y < N → cs[y]? = some (.bool (f y))
theorem Bits.set_ {N : Nat} {f h : Nat → Bool} {cs : Array Value} (hb : Bits N f cs) {y : Nat} (hh : ∀ z, z < N → h z = (f z || decide (z = y))) : Bits N h (cs.setIfInBounds y (.bool true)) := by
  refine ⟨by simpa using hb.1, fun z hz => ?_⟩
  rw [Array.getElem?_setIfInBounds, hh z hz]
  by_cases e : y = z
  · subst e; rw [if_pos rfl, if_pos (by rw [hb.1]; exact hz)]; simp
  · rw [if_neg e, hb.2 z hz]
    have : ¬ z = y := fun h => e h.symm
    simp [this]
theorem Bits.congr {N : Nat} {f h : Nat → Bool} {cs : Array Value} (hb : Bits N f cs) (hh : ∀ z, z < N → h z = f z) : Bits N h cs := ⟨hb.1, fun z hz => by rw [hb.2 z hz, hh z hz]⟩
theorem Bits.start (N : Nat) : Bits N (fun _ => false) (List.replicate N (Value.bool false)).toArray := ⟨by simp, fun y hy => by
  rw [List.getElem?_toArray, List.getElem?_replicate, if_pos hy]⟩

/-- Blocks from a's end on may turn besides. -/
theorem grown_new {a b c : World} {row row2 : Option Nat} (h : a.grownBy b row) (h2 : b.grownBy c row2) (hr : ∀ j, row2 = some j → a.heap.size ≤ j) : a.grownBy c row :=
  ⟨h2.os.trans h.os, h2.tape.trans h.tape, h2.output.trans h.output, Nat.le_trans h.size h2.size, fun i hi hne => (h2.block i (Nat.lt_of_lt_of_le hi h.size) (fun e => by have := hr _ e.symm; omega)).trans (h.block i hi hne)⟩
theorem grown_alloc {a b : World} {row : Option Nat} (h : a.grownBy b row) (o : Obj) : a.grownBy (b.alloc o) row := grown_new h (World.grownBy_alloc b o none) (fun j e => nomatch e)
theorem Slc.cellN {w : World} {base g n c i : Nat} {f : List Nat} (h : Slc w base (some ⟨g, 0, none⟩) n c (f.map Int.ofNat)) (hi : i < n) : w.cell? ⟨g, i, none⟩ = some (.int .i64 (f.getD i 0 : Nat)) := by
  have hl := h.1
  rw [List.length_map] at hl
  have ho : w.ownsRow base 2 1 (.slice (some ⟨g, 0, none⟩) n c) n ((f.map Int.ofNat).map (Value.int .i64)) := by
    have := h.2; unfold Own at this; rw [h.1] at this; exact this
  rw [ho.cellAt i (by omega), List.getElem?_map, List.getElem?_map, List.getD_eq_getElem?_getD, List.getElem?_eq_getElem (by omega)]
  rfl

/-- The first k maps are gone through. -/
def expk (gs : List (List Int)) (k u : Nat) (f : List Nat) : List Nat := (gs.take k).foldl (fun f g => addN f (nx g u)) f
section
variable {gs : List (List Int)} {N x k u : Nat} {f : List Nat}
theorem expk_zero : expk gs 0 u f = f := by simp [expk]
theorem expk_succ {y : List Int} (hk : k < gs.length) (ey : gs.getD k [] = y) : expk gs (k + 1) u f = addN (expk gs k u f) (nx y u) := by
  rw [List.getD_eq_getElem?_getD, List.getElem?_eq_getElem hk] at ey
  have e' : gs[k] = y := ey
  rw [expk, List.take_succ_eq_append_getElem hk, List.foldl_append, e']; rfl
theorem expk_all : expk gs gs.length u f = expd gs u f := by rw [expk, List.take_length]; rfl
theorem expk_fd (hp : PMs N gs) (h : Fd gs N x f) (hu : u ∈ f) : Fd gs N x (expk gs k u f) :=
  Fd.fold hp (h.lt u hu) (h.rch u hu) _ (fun g hg => List.mem_of_mem_take hg) f h
theorem expk_pre : ∃ t, expk gs k u f = f ++ t := expd_pre (gs.take k) u f
theorem addN_yes {y : Nat} (h : y ∈ f) : addN f y = f := if_pos h
theorem addN_no {y : Nat} (h : y ∉ f) : addN f y = f ++ [y] := if_neg h
theorem rch_out {s : Nat → Bool} (hp : PMs N gs) (hx : x < N) (h0 : s x = false) (hs : ∀ v, v < N → s v = false → ∀ g ∈ gs, s (nx g v) = false) {y : Nat} (h : Rch gs x y) : s y = false := by
  induction h with
  | refl => exact h0
  | step hu hg ih => exact hs _ (hu.lt hp hx) ih _ hg
end

set_option maxHeartbeats 4000000 in
set_option maxRecDepth 100000 in
/-- orbitFrom. -/
theorem implFrom (x : Nat) (A : Option Addr) (n c N r B : Nat) (vs : List SV) (gs : List (List Int)) (s : Nat → Bool) (cs : Array Value) (w : World) (hx : RR w B A n vs gs) (hB : B ≤ r) (hp : Hid (PMs N gs)) (hxN : x < N) (hN : N ≤ 1000) (hn : n ≤ 8)
    (hr : Blk w r 4 cs) (hb : Hid (Bits N s cs)) (h0 : Hid (s x = false)) (hs : Hid (∀ v, v < N → s v = false → ∀ g ∈ gs, s (nx g v) = false)) :
    Calls Try.prog 134 #[.int .i64 (x : Nat), .slice A n c, .slice (some ⟨r, 0, none⟩) N N] w fun e w' => ∃ A' m c', e = .returned (.slice A' m c') ∧ Slc w' w.heap.size A' m c' (oS gs N x) ∧
      (∃ cs', Blk w' r 4 cs' ∧ Bits N (fun y => s y || decide (y ∈ orb gs N x)) cs') ∧ w.grownBy w' (some r) := by
  have HX := Lib.hid hx
  have hlx := hx.lx
  have hrlt := hr.lt
  have c0 := (hr.cell x).trans (hb.out.2 x hxN)
  have f0 := hr.frozen x
  have R0 := Lib.hid (hr.set_ x (.bool true))
  have B0 : Hid (Bits N (fun y => s y || decide (y ∈ [x])) (cs.setIfInBounds x (.bool true))) := Lib.hid (hb.out.set_ fun z _ => by simp)
  have hsz2 : (w.setCell ⟨r, x, none⟩ (.bool true)).heap.size = w.heap.size := by simp [World.setCell]
  have s0 := (Slc.lit1 (w.setCell ⟨r, x, none⟩ (.bool true)) w.heap.size (x : Int) (by simp [World.setCell]))
  rw [hsz2] at s0
  have S0 := Lib.hid s0
  clear s0 hsz2
  have G0 : Hid (w.grownBy ((w.setCell ⟨r, x, none⟩ (.bool true)).alloc (.cells #[.int .i64 (x : Int)] 2)) (some r)) := Lib.hid (grown_alloc (grown_set (grown_refl _ _) _ _) _)
  have hsz : w.heap.size ≤ (w.setCell ⟨r, x, none⟩ (.bool true)).heap.size := by simp [World.setCell]
  clear hx hr
  go_enter Try.func134, Try.ntmps134
  go_wp2
  clear c0 f0
  go_loopg [7, 8] (N + 1) (fun gg v i wr => ∃ (k : Nat) (f : List Nat) (A' : Option Addr) (c' : Nat) (cs1 : Array Value), k ≤ f.length ∧ N + 1 - k ≤ gg ∧ i = .int .i64 (k : Nat) ∧ v = .slice A' f.length c' ∧ Slc wr w.heap.size A' f.length c' (f.map Int.ofNat) ∧
    Fd gs N x f ∧ bfs gs (N + 1 - k) k f = orb gs N x ∧ Blk wr r 4 cs1 ∧ Bits N (fun y => s y || decide (y ∈ f)) cs1 ∧ w.grownBy wr (some r))
  case atStart => exact ⟨0, [x], _, _, _, Nat.zero_le _, Nat.le_refl _, rfl, rfl, S0.out, Fd.one hxN, rfl, R0.out.alloc _, B0.out, G0.out⟩
  case round =>
    clear S0 G0 B0 R0
    obtain ⟨k, f, A', c', cs1, hk, hgk, rfl, rfl, ss, fd, hbf, blk, bits, gro⟩ := hrel
    have Ss := Lib.hid ss
    have Fq := Lib.hid fd
    have Hbf := Lib.hid hbf
    have Bk := Lib.hid blk
    have Bi := Lib.hid bits
    have Gr := Lib.hid gro
    have hfN := fd.len
    clear ss fd hbf blk bits gro
    by_cases hlt : k < f.length
    · obtain ⟨u, hu⟩ : ∃ u, f.getD k 0 = u := ⟨_, rfl⟩
      have huf : Hid (u ∈ f) := Lib.hid (by rw [← hu]; exact getD_memN hlt)
      have Hu := Lib.hid hu
      have huN : u < N := Fq.out.lt u huf.out
      have hsu : Hid (s u = false) := Lib.hid (rch_out hp.out hxN h0.out hs.out (Fq.out.rch u huf.out))
      clear hu
      go_wp2
      obtain ⟨wl, rfl⟩ : ∃ wl, wl = wr := ⟨_, rfl⟩
      go_loopg [7, 25] n (fun gg v i wr2 => ∃ (j : Nat) (f2 : List Nat) (A2 : Option Addr) (c2 : Nat) (cs2 : Array Value), j ≤ n ∧ n - j ≤ gg ∧ i = .int .i64 (j : Nat) ∧ v = .slice A2 f2.length c2 ∧ Slc wr2 w.heap.size A2 f2.length c2 (f2.map Int.ofNat) ∧
        f2 = expk gs j u f ∧ Blk wr2 r 4 cs2 ∧ Bits N (fun y => s y || decide (y ∈ f2)) cs2 ∧ w.grownBy wr2 (some r))
      case atStart => exact ⟨0, f, _, _, _, Nat.zero_le _, Nat.le_refl _, rfl, rfl, Ss.out, expk_zero.symm, Bk.out, Bi.out, Gr.out⟩
      case round =>
        obtain ⟨j, f2, A2, c2, cs2, hj, hgj, rfl, rfl, ss2, ef2, blk2, bits2, gro2⟩ := hrel
        have Ss2 := Lib.hid ss2
        have Ef := Lib.hid ef2
        have Bk2 := Lib.hid blk2
        have Bi2 := Lib.hid bits2
        have Gr2 := Lib.hid gro2
        have fd2 : Hid (Fd gs N x f2) := Lib.hid (by rw [ef2]; exact expk_fd hp.out Fq.out huf.out)
        have hf2N := fd2.out.len
        have hpre : k < f2.length ∧ f2.getD k 0 = u := by
          obtain ⟨t, et⟩ := expk_pre (gs := gs) (k := j) (u := u) (f := f)
          rw [ef2, et]
          exact ⟨by rw [List.length_append]; omega, by rw [getD_preN hlt]; exact Hu.out⟩
        have hk2 := hpre.1
        have Hu2 := Lib.hid hpre.2
        clear ss2 ef2 blk2 bits2 gro2 hpre
        by_cases hjl : j < n
        · obtain ⟨b, off, A5, l, c5, y, rfl, hbB, ev, ey, hc0, hr0, hy, hlc⟩ := (HX.out.grown Gr2.out (by omega) (fun g e => by cases e; exact hB)).at_ hjl
          have hyp : PM N y := hp.out y (by rw [← ey]; exact getD_memL (by rw [hlx]; exact hjl))
          obtain ⟨b2, off2, rfl, hb2, hc2⟩ := hr0 (by rw [hyp.len]; omega)
          have c2' := hc2 u (by rw [hyp.len]; exact huN)
          rw [hyp.nx_val huN] at c2'
          have hvN := hyp.nx_lt huN
          have Nx := Lib.hid (expk_succ (u := u) (f := f) (by rw [hlx]; exact hjl) ey)
          have hsv : Hid (s (nx y u) = false) := Lib.hid (hs.out u huN hsu.out y (by rw [← ey]; exact getD_memL (by rw [hlx]; exact hjl)))
          have hrv : Hid (Rch gs x (nx y u)) := Lib.hid ((Fq.out.rch u huf.out).step (by rw [← ey]; exact getD_memL (by rw [hlx]; exact hjl)))
          rcases Slc.at_ Ss2.out with ⟨_, e1, _⟩ | ⟨g, rfl, hg1, hg2⟩
          · exfalso; have : f2.length = 0 := by have := congrArg List.length e1; simpa using this
            omega
          have c3 := Ss2.out.cellN hk2
          rw [Hu2.out] at c3
          obtain ⟨v, ev2⟩ : ∃ v, nx y u = v := ⟨_, rfl⟩
          rw [ev2] at c2' hvN
          have Ev := Lib.hid ev2
          have c4 : wr.cell? ⟨r, v, none⟩ = some (.bool (s v || decide (v ∈ f2))) := (Bk2.out.cell v).trans (Bi2.out.2 v hvN)
          have f4 := Bk2.out.frozen v
          have hl' : l = N := by rw [← hy]; exact hyp.len
          subst hl'
          clear ev ey hr0 hy hyp hc2 ev2
          by_cases hm : v ∈ f2
          · have Nx2 : Hid (expk gs (j + 1) u f = f2) := Lib.hid (by rw [Nx.out, ← Ef.out, Ev.out, addN_yes hm])
            rw [show (s v || decide (v ∈ f2)) = true from by simp [hm]] at c4
            clear hm f4
            go_wp2
            go_roundg (n - (j + 1))
            case rel => exact ⟨j + 1, f2, _, _, _, by omega, by omega, by go_num, rfl, Ss2.out, Nx2.out.symm, Bk2.out, Bi2.out, Gr2.out⟩
            case measure => omega
          · have Nx2 : Hid (expk gs (j + 1) u f = f2 ++ [v]) := Lib.hid (by rw [Nx.out, ← Ef.out, Ev.out, addN_no hm])
            have hsv2 : s v = false := by rw [← Ev.out]; exact hsv.out
            rw [show (s v || decide (v ∈ f2)) = false from by simp [hm, hsv2]] at c4
            have Bi3 : Hid (Bits l (fun y => s y || decide (y ∈ f2 ++ [v])) (cs2.setIfInBounds v (.bool true))) := Lib.hid (Bi2.out.set_ fun z _ => by simp [Bool.or_assoc])
            have Bk3 := Lib.hid (Bk2.out.set_ v (.bool true))
            have Gr3 := Lib.hid (grown_set Gr2.out v (.bool true))
            have Ss3 : Hid (Slc (wr.setCell ⟨r, v, none⟩ (.bool true)) w.heap.size (some ⟨g, 0, none⟩) f2.length c2 (f2.map Int.ofNat)) := Lib.hid (Ss2.out.kept (grown_set (grown_refl _ _) _ _) (.inr (by simp [Value.ownBlock]; omega)))
            have hz3 : w.heap.size ≤ (wr.setCell ⟨r, v, none⟩ (.bool true)).heap.size := Gr3.out.size
            have hc9 : ((wr.setCell ⟨r, v, none⟩ (.bool true)).alloc (.cells #[.int .i64 ((v : Nat) : Int)] 2)).cell? ⟨wr.heap.size, 0, none⟩ = some (.int .i64 ((v : Nat) : Int)) := by
              have e : (wr.setCell ⟨r, v, none⟩ (.bool true)).heap.size = wr.heap.size := by simp [World.setCell]
              rw [← e, World.cell?_alloc_at _ _ _ _ rfl]; rfl
            clear hm hsv2
            go_wp2_with (first | (at_builtin; refine wpList_app1 rfl _ _ rfl w.heap.size (some ⟨g, 0, none⟩) f2.length c2 _ rfl (Ss3.out.alloc _) wr.heap.size ((v : Nat) : Int) rfl hc9 (by omega) (by simp; omega) ?_; intro A3 c3 w3 ss3 hg3))
            have Ss4 : Hid (Slc w3 w.heap.size A3 (f2 ++ [v]).length c3 ((f2 ++ [v]).map Int.ofNat)) := Lib.hid (by
              rw [List.length_append, List.map_append]; exact ss3)
            have hrne : some r ≠ (Value.slice (some ⟨g, 0, none⟩) f2.length c2).ownBlock := by simp [Value.ownBlock]; omega
            have Bk4 := Lib.hid ((Bk3.out.alloc (.cells #[.int .i64 ((v : Nat) : Int)] 2)).grown hg3 hrne)
            have Gr4 : Hid (w.grownBy w3 (some r)) := Lib.hid (grown_new (grown_alloc Gr3.out _) hg3 (fun j hj => by simp [Value.ownBlock] at hj; omega))
            clear ss3 hg3 hrne
            go_wp2
            go_roundg (n - (j + 1))
            case rel => exact ⟨j + 1, f2 ++ [v], _, _, _, by omega, by omega, by go_num, by simp, Ss4.out, Nx2.out.symm, Bk4.out, Bi3.out, Gr4.out⟩
            case measure => omega
        · have hjn : j = n := by omega
          subst hjn
          have Ee : Hid (f2 = expd gs u f) := Lib.hid (by rw [Ef.out, ← hlx, expk_all])
          have Hb2 : Hid (bfs gs (N + 1 - (k + 1)) (k + 1) f2 = orb gs N x) := Lib.hid (by rw [Ee.out, ← Hu.out, ← bfs_go hlt hfN]; exact Hbf.out)
          go_wp2
          go_roundg (N + 1 - (k + 1))
          case rel => exact ⟨k + 1, f2, _, _, _, by omega, by omega, by go_num, rfl, Ss2.out, fd2.out, Hb2.out, Bk2.out, Bi2.out, Gr2.out⟩
          case measure => omega
    · have hkl : k = f.length := by omega
      have Eo : Hid (f = orb gs N x) := Lib.hid (by rw [← Hbf.out, bfs_end (by omega)])
      have hpos := Fq.out.pos
      go_wp2_with fail
      refine (sortT w.heap.size A' f.length c' _ wr Ss.out (by omega) (by omega)).mono ?_
      rintro e w3 ⟨rfl, s3, g3⟩
      have S3 : Hid (Slc w3 w.heap.size A' f.length c' (oS gs N x)) := Lib.hid (by rw [← oS_sort hp.out hxN, ← Eo.out]; exact s3)
      have hrne : some r ≠ (Value.slice A' f.length c').ownBlock := fun e => by have := (Ss.out.lt_ r e.symm).1; omega
      have Bk3 := Lib.hid (Bk.out.grown g3 hrne)
      have Gr3 : Hid (w.grownBy w3 (some r)) := Lib.hid (grown_new Gr.out g3 (fun j hj => (Ss.out.lt_ j hj).1))
      have Bi3 : Hid (Bits N (fun y => s y || decide (y ∈ orb gs N x)) cs1) := Lib.hid (by rw [← Eo.out]; exact Bi.out)
      clear s3 g3 hrne
      go_wp2
      go_ret
      exact ⟨_, _, _, rfl, S3.out, ⟨_, Bk3.out, Bi3.out⟩, Gr3.out⟩
end Go.Proofs.Ytedfcljikgmpgaa

/- The model's orbit of a point: found in the order of discovery, then sorted by insertion. Conditions: at most 1000 points, at most 8 maps. -/
namespace Go.Proofs.Ytedfcljikgmpgaa
open Go.RowKit

theorem hasB_nat {f : List Nat} {v : Nat} : hasB (f.map Int.ofNat) (v : Int) = decide (v ∈ f) := by
  unfold hasB
  rw [Bool.eq_iff_iff]
  simp only [decide_eq_true_eq, List.length_map]
  constructor
  · rintro ⟨j, hj, e⟩
    rw [List.getD_eq_getElem?_getD, List.getElem?_map, List.getElem?_eq_getElem hj] at e
    have e2 : f[j] = v := Int.ofNat.inj (by simpa using e)
    rw [← e2]; exact List.getElem_mem hj
  · intro h
    obtain ⟨j, hj, e⟩ := List.mem_iff_getElem.1 h
    exact ⟨j, hj, by rw [List.getD_eq_getElem?_getD, List.getElem?_map, List.getElem?_eq_getElem hj, e]; rfl⟩

set_option maxHeartbeats 4000000 in
set_option maxRecDepth 100000 in
/-- orbitOf. -/
theorem specOrbOf (x : Nat) (A : Option Addr) (n c N : Nat) (vs : List SV) (gs : List (List Int)) (w : World) (hx : RR w w.heap.size A n vs gs) (hp : Hid (PMs N gs)) (hxN : x < N) (hN : N ≤ 1000) (hn : n ≤ 8) :
    Calls Try.prog 116 #[.slice A n c, .int .i64 (x : Nat)] w fun e w' => ∃ g' c', e = .returned (.slice (some ⟨g', 0, none⟩) (orb gs N x).length c') ∧ Slc w' w.heap.size (some ⟨g', 0, none⟩) (orb gs N x).length c' ((orb gs N x).map Int.ofNat) ∧ Below w.heap.size w w' := by
  have HX := Lib.hid hx
  have hlx := hx.lx
  have S0 := Lib.hid (Slc.lit1 w w.heap.size (x : Int) (Nat.le_refl _))
  have B0 : Hid (Below w.heap.size w (w.alloc (.cells #[.int .i64 (x : Int)] 2))) := Lib.hid ((Below.refl _ _).alloc (Nat.le_refl _) _)
  clear hx
  go_enter Try.func116, Try.ntmps116
  go_wp2
  go_loopg [5, 6] (N + 1) (fun gg v i wr => ∃ (k : Nat) (f : List Nat) (g' : Nat) (c' : Nat), k ≤ f.length ∧ N + 1 - k ≤ gg ∧ i = .int .i64 (k : Nat) ∧ v = .slice (some ⟨g', 0, none⟩) f.length c' ∧ Slc wr w.heap.size (some ⟨g', 0, none⟩) f.length c' (f.map Int.ofNat) ∧
    Fd gs N x f ∧ bfs gs (N + 1 - k) k f = orb gs N x ∧ Below w.heap.size w wr)
  case atStart => exact ⟨0, [x], _, _, Nat.zero_le _, Nat.le_refl _, rfl, rfl, S0.out, Fd.one hxN, rfl, B0.out⟩
  case round =>
    clear S0 B0
    obtain ⟨k, f, g', c', hk, hgk, rfl, rfl, ss, fd, hbf, gro⟩ := hrel
    have Ss := Lib.hid ss
    have Fq := Lib.hid fd
    have Hbf := Lib.hid hbf
    have Gr := Lib.hid gro
    have hfN := fd.len
    clear ss fd hbf gro
    by_cases hlt : k < f.length
    · obtain ⟨u, hu⟩ : ∃ u, f.getD k 0 = u := ⟨_, rfl⟩
      have huf : Hid (u ∈ f) := Lib.hid (by rw [← hu]; exact getD_memN hlt)
      have Hu := Lib.hid hu
      have huN : u < N := Fq.out.lt u huf.out
      clear hu
      go_wp2
      obtain ⟨wl, rfl⟩ : ∃ wl, wl = wr := ⟨_, rfl⟩
      go_loopg [5, 7] n (fun gg v i wr2 => ∃ (j : Nat) (f2 : List Nat) (g2 : Nat) (c2 : Nat), j ≤ n ∧ n - j ≤ gg ∧ i = .int .i64 (j : Nat) ∧ v = .slice (some ⟨g2, 0, none⟩) f2.length c2 ∧ Slc wr2 w.heap.size (some ⟨g2, 0, none⟩) f2.length c2 (f2.map Int.ofNat) ∧
        f2 = expk gs j u f ∧ Below w.heap.size w wr2)
      case atStart => exact ⟨0, f, _, _, Nat.zero_le _, Nat.le_refl _, rfl, rfl, Ss.out, expk_zero.symm, Gr.out⟩
      case round =>
        obtain ⟨j, f2, g2, c2, hj, hgj, rfl, rfl, ss2, ef2, gro2⟩ := hrel
        have Ss2 := Lib.hid ss2
        have Ef := Lib.hid ef2
        have Gr2 := Lib.hid gro2
        have fd2 : Hid (Fd gs N x f2) := Lib.hid (by rw [ef2]; exact expk_fd hp.out Fq.out huf.out)
        have hf2N := fd2.out.len
        have hpre : k < f2.length ∧ f2.getD k 0 = u := by
          obtain ⟨t, et⟩ := expk_pre (gs := gs) (k := j) (u := u) (f := f)
          rw [ef2, et]
          exact ⟨by rw [List.length_append]; omega, by rw [getD_preN hlt]; exact Hu.out⟩
        have hk2 := hpre.1
        have Hu2 := Lib.hid hpre.2
        clear ss2 ef2 gro2 hpre
        by_cases hjl : j < n
        · obtain ⟨b, off, A5, l, c5, y, rfl, hbB, ev, ey, hc0, hr0, hy, hlc⟩ := (HX.out.below Gr2.out (Nat.le_refl _)).at_ hjl
          have hyp : PM N y := hp.out y (by rw [← ey]; exact getD_memL (by rw [hlx]; exact hjl))
          obtain ⟨b2, off2, rfl, hb2, hc2⟩ := hr0 (by rw [hyp.len]; omega)
          have c2' := hc2 u (by rw [hyp.len]; exact huN)
          rw [hyp.nx_val huN] at c2'
          have hvN := hyp.nx_lt huN
          have Nx := Lib.hid (expk_succ (u := u) (f := f) (by rw [hlx]; exact hjl) ey)
          have c3 := Ss2.out.cellN hk2
          rw [Hu2.out] at c3
          obtain ⟨v, ev2⟩ : ∃ v, nx y u = v := ⟨_, rfl⟩
          rw [ev2] at c2' hvN
          have Ev := Lib.hid ev2
          have hl' : l = N := by rw [← hy]; exact hyp.len
          have q1 : (0 : Int) ≤ j := by omega
          have q2 : (j : Int) < n := by omega
          have q3 : (0 : Int) ≤ k := by omega
          have q4 : (k : Int) < f2.length := by omega
          have q5 : (0 : Int) ≤ u := by omega
          have q6 : (u : Int) < l := by omega
          subst hl'
          clear ev ey hr0 hy hyp hc2 ev2
          go_wp2
          go_quiet (fail)
          have c5' : ∀ q, (wr.drewN q).cell? = wr.cell? := fun q => rfl
          go_wp2_with fail
          refine (containsI_any (some ⟨g2, 0, none⟩) c2 f2.length _ (v : Int) _ _ (Ss2.out.ri_.drewN _) (Lib.hid (by simp)) (by omega) (decide (v ∈ f2)) (Lib.hid hasB_nat)).mono ?_
          rintro e w5 ⟨rfl, rfl⟩
          by_cases hm : v ∈ f2
          · have Nx2 : Hid (expk gs (j + 1) u f = f2) := Lib.hid (by rw [Nx.out, ← Ef.out, Ev.out, addN_yes hm])
            rw [decide_eq_true hm]
            clear hm
            go_wp2
            go_roundg (n - (j + 1))
            case rel => exact ⟨j + 1, f2, _, _, by omega, by omega, by go_num, rfl, Ss2.out.drewN _, Nx2.out.symm, below_drewN Gr2.out _⟩
            case measure => omega
          · have Nx2 : Hid (expk gs (j + 1) u f = f2 ++ [v]) := Lib.hid (by rw [Nx.out, ← Ef.out, Ev.out, addN_no hm])
            rw [decide_eq_false hm]
            clear hm
            have hz3 := Gr2.out.size
            have hc9 : ∀ q, ((wr.drewN q).alloc (.cells #[.int .i64 ((v : Nat) : Int)] 2)).cell? ⟨wr.heap.size, 0, none⟩ = some (.int .i64 ((v : Nat) : Int)) := fun q => by
              rw [show wr.heap.size = (wr.drewN q).heap.size from rfl, World.cell?_alloc_at _ _ _ _ rfl]; rfl
            have HC9 := Lib.hid hc9
            have hz9 : ∀ q, w.heap.size ≤ ((wr.drewN q).alloc (.cells #[.int .i64 ((v : Nat) : Int)] 2)).heap.size := fun q => by rw [World.size_alloc]; exact Nat.le_succ_of_le hz3
            have HZ9 := Lib.hid hz9
            clear hc9 hz9
            go_wp2_with (first | (at_builtin; refine wpList_app1 rfl _ _ rfl w.heap.size (some ⟨g2, 0, none⟩) f2.length c2 _ rfl ((Ss2.out.drewN _).alloc _) wr.heap.size ((v : Nat) : Int) rfl (HC9.out _) (by omega) (HZ9.out _) ?_; intro A3 c3 w3 ss3 hg3))
            have Ss4 : Hid (Slc w3 w.heap.size A3 (f2 ++ [v]).length c3 ((f2 ++ [v]).map Int.ofNat)) := Lib.hid (by
              rw [List.length_append, List.map_append]; exact ss3)
            have Gr4 : Hid (Below w.heap.size w w3) := Lib.hid (((below_drewN Gr2.out _).alloc hz3 _).grown hg3 (HZ9.out _) (fun i hi => (Ss2.out.lt_ i hi).1))
            obtain ⟨g4, rfl⟩ : ∃ q4, A3 = some ⟨q4, 0, none⟩ := by
              rcases Ss4.out.at_ with ⟨_, _, e0, _⟩ | ⟨q4, e0, _, _⟩
              · rw [List.length_append] at e0; simp at e0
              · exact ⟨q4, e0⟩
            clear ss3 hg3
            go_wp2
            go_roundg (n - (j + 1))
            case rel => exact ⟨j + 1, f2 ++ [v], _, _, by omega, by omega, by go_num, by simp, Ss4.out, Nx2.out.symm, Gr4.out⟩
            case measure => omega
        · have hjn : j = n := by omega
          subst hjn
          have Ee : Hid (f2 = expd gs u f) := Lib.hid (by rw [Ef.out, ← hlx, expk_all])
          have Hb2 : Hid (bfs gs (N + 1 - (k + 1)) (k + 1) f2 = orb gs N x) := Lib.hid (by rw [Ee.out, ← Hu.out, ← bfs_go hlt hfN]; exact Hbf.out)
          go_wp2
          go_roundg (N + 1 - (k + 1))
          case rel => exact ⟨k + 1, f2, _, _, by omega, by omega, by go_num, rfl, Ss2.out, fd2.out, Hb2.out, Gr2.out⟩
          case measure => omega
    · have hkl : k = f.length := by omega
      have Eo : Hid (f = orb gs N x) := Lib.hid (by rw [← Hbf.out, bfs_end (by omega)])
      go_wp2
      go_ret
      exact ⟨_, _, by rw [← Eo.out]; rfl, by rw [← Eo.out]; exact Ss.out, Gr.out⟩
end Go.Proofs.Ytedfcljikgmpgaa

/- Orbit, of the program and of the model. Conditions: at most 1048576 lists of at most 1048576 numbers. -/
namespace Go.Proofs.Ytedfcljikgmpgaa
open Go.RowKit

/-- isPoint of the program. -/
theorem implPt (n x : Int) (w : World) : Calls Try.prog 60 #[.int .i64 n, .int .i64 x] w fun e w' => e = .returned (.bool (decide (0 ≤ x ∧ x < n))) ∧ w = w' := by
  by_cases h1 : 0 ≤ x
  · by_cases h2 : x < n
    · have e1 : decide (0 ≤ x ∧ x < n) = true := decide_eq_true ⟨h1, h2⟩
      rw [e1]
      clear e1
      go_enter Try.func60, Try.ntmps60
      go_wp2
      go_ret
      exact ⟨rfl, rfl⟩
    · have e1 : decide (0 ≤ x ∧ x < n) = false := decide_eq_false fun h => h2 h.2
      have d2 : decide (x < n) = false := decide_eq_false h2
      rw [e1]
      clear e1
      go_enter Try.func60, Try.ntmps60
      go_wp2
      go_ret
      exact ⟨rfl, rfl⟩
  · have e1 : decide (0 ≤ x ∧ x < n) = false := decide_eq_false fun h => h1 h.1
    have d2 : decide (0 ≤ x) = false := decide_eq_false h1
    rw [e1]
    clear e1
    go_enter Try.func60, Try.ntmps60
    go_wp2
    go_ret
    exact ⟨rfl, rfl⟩
/-- isPoint of the model. -/
theorem specPt (n x : Int) (w : World) (h1 : 1 ≤ n) (h2 : n ≤ 1000) : Calls Try.prog 58 #[.int .i64 n, .int .i64 x] w fun e w' => e = .returned (.bool (decide (0 ≤ x ∧ x < n))) ∧ w = w' := by
  by_cases h : 0 ≤ x ∧ x < n
  · rw [decide_eq_true h]
    go_enter Try.func58, Try.ntmps58
    go_wp2_with fail
    refine (inR_true _ _ _ _ (by omega) (by omega)).mono ?_
    rintro e w' ⟨rfl, rfl⟩
    go_wp2
    go_ret
    exact ⟨rfl, rfl⟩
  · rw [decide_eq_false h]
    go_enter Try.func58, Try.ntmps58
    go_wp2_with fail
    refine (inR_false _ _ _ _ (by omega)).mono ?_
    rintro e w' ⟨rfl, rfl⟩
    go_wp2
    go_ret
    exact ⟨rfl, rfl⟩

/-- What Orbit answers. -/
def orbitL (n : Int) (gs : List (List Int)) (x : Int) : List Int := if gB n gs = true ∧ 0 ≤ x ∧ x < n then oS gs n.toNat x.toNat else []

/-- 'make([]bool, n)'. -/
theorem infoB : (Try.prog.info? 4).map (fun i => (i.zero, i.size, i.bytes)) = some (some (.bool false), 1, 1) := by kernel_rfl
theorem made_bits {w : World} {base g n : Nat} (h : w.ownsRow base 4 1 (.slice (some ⟨g, 0, none⟩) n n) n (madeCells (Value.bool false).cells (n * 1)).toList) : ∃ cs, Blk w g 4 cs ∧ Bits n (fun _ => false) cs := by
  rcases h.2 with ⟨e, _⟩ | ⟨g', cap, cur, e, _, hg, _, _, hsz, htk⟩
  · cases e
  · injection e with e1 e2 e3
    subst e3
    have eg : g = g' := by simpa using e1
    subst eg
    refine ⟨cur, hg, by rw [hsz]; omega, fun y hy => ?_⟩
    have hm : (madeCells (Value.bool false).cells (n * 1)).toList = List.replicate n (Value.bool false) := by
      show (madeCells #[Value.bool false] (n * 1)).toList = _
      rw [toList_madeCells_one]; simp
    rw [hm, Nat.mul_one, List.take_of_length_le (by simp [hsz])] at htk
    rw [← Array.getElem?_toList, htk, List.getElem?_replicate, if_pos hy]


end Go.Proofs.Ytedfcljikgmpgaa

/- What an iterator's walk needs of blocks, of slices of slices, of append inside a round. No condition. -/
namespace Go.Proofs.Ytedfcljikgmpgaa
open Go.RowKit
attribute [local go_sem] Oper.semAt_some

/-- From A to C the blocks below b and beyond b + 2 lie as they lay. -/
structure Xk (b : Nat) (A C : World) : Prop where
  os : C.os = A.os
  tape : C.tape = A.tape
  output : C.output = A.output
  size : A.heap.size ≤ C.heap.size
  block : ∀ k, k < A.heap.size → (k < b ∨ b + 2 < k) → C.heap[k]? = A.heap[k]?
theorem Xk.of_grown {b r : Nat} {A C : World} (h : A.grownBy C (some r)) (hr : b ≤ r ∧ r ≤ b + 2) : Xk b A C :=
  ⟨h.os, h.tape, h.output, h.size, fun k hk hb => h.block k hk (fun e => by cases e; omega)⟩
theorem Xk.trans {b : Nat} {A C D : World} (h : Xk b A C) (k : Xk b C D) : Xk b A D :=
  ⟨k.os.trans h.os, k.tape.trans h.tape, k.output.trans h.output, Nat.le_trans h.size k.size, fun i hi hb => (k.block i (Nat.lt_of_lt_of_le hi h.size) hb).trans (h.block i hi hb)⟩
theorem Xk.put {b r : Nat} (A : World) (o : Obj) (hr : b ≤ r ∧ r ≤ b + 2) : Xk b A (A.putObj r o) := Xk.of_grown (grownBy_putObj' A r o) hr
theorem Xk.below {b B : Nat} {A C : World} (h : Xk b A C) (hB : B ≤ b) (hA : B ≤ A.heap.size) : Below B A C := ⟨h.os, h.tape, h.output, h.size, fun k hk => h.block k (by omega) (.inl (by omega))⟩
theorem Slc.xk {b base n c : Nat} {A C : World} {S : Option Addr} {xs : List Int} (h : Slc A base S n c xs) (hk : Xk b A C) (ho : ∀ k, (Value.slice S n c).ownBlock = some k → k < b ∨ b + 2 < k) : Slc C base S n c xs := by
  refine ⟨h.1, h.2.1, ?_⟩
  rcases h.2.2 with hn | ⟨g, cap, cur, e, hb', hg, rest⟩
  · exact .inl hn
  · exact .inr ⟨g, cap, cur, e, hb', by rw [hk.block g (Array.getElem?_eq_some_iff.1 hg).1 (ho g (by rw [e]; rfl))]; exact hg, rest⟩

theorem SS.keptR {w w' : World} {bo bi n c : Nat} {A : Option Addr} {vs : List SV} {xss : List (List Int)} {row : Option Nat} (h : SS w bo bi A n c vs xss) (hg : w.grownBy w' row)
    (ho : (Value.slice A n c).ownBlock = none ∨ (Value.slice A n c).ownBlock ≠ row) (hr : ∀ i, i < n → (sval (vs.getD i sd0)).ownBlock = none ∨ (sval (vs.getD i sd0)).ownBlock ≠ row) : SS w' bo bi A n c vs xss :=
  ⟨World.ownsRow.kept h.own hg ho, h.lv, h.lx, fun i hi' => (h.row i hi').kept hg (hr i hi'), h.dis⟩
theorem SS.xk {b bo bi n c : Nat} {W C : World} {A : Option Addr} {vs : List SV} {xss : List (List Int)} (h : SS W bo bi A n c vs xss) (hk : Xk b W C) (h1 : b + 2 < bo) (h2 : b + 2 < bi) : SS C bo bi A n c vs xss := by
  refine ⟨⟨h.own.1, ?_⟩, h.lv, h.lx, fun i hi => (h.row i hi).xk hk (fun k e => .inr (by have := ((h.row i hi).lt_ k e).1; omega)), h.dis⟩
  rcases h.own.2 with hn | ⟨g, cap, cur, e, hb', hg, rest⟩
  · exact .inl hn
  · exact .inr ⟨g, cap, cur, e, hb', by rw [hk.block g (Array.getElem?_eq_some_iff.1 hg).1 (.inr (by omega))]; exact hg, rest⟩

/-- append of one slice onto a slice of slices of the call's own, inside a round. -/
theorem wpListIn_app2 {F : Fence} {nn : Nat} {w : World} {base bi n c : Nat} {A : Option Addr} {vs : List SV} {xss : List (List Int)} {ops : Array Oper} {rest : List Oper} {o : Oper} {a : Act} {Q : Exit → Act → World → Prop} (hgd : o.guard = none) (s x : Operand)
    (ho : o.op = .call { callee := .builtin .append, args := #[s, x], argTypes := #[22, 22] })
    (hs : a.eval s = .slice A n c) (hss : SS w base bi A n c vs xss) (g : Nat) (dA : Option Addr) (dn dc : Nat) (ys : List Int) (hx : a.eval x = .slice (some ⟨g, 0, none⟩) 1 1)
    (hcell : w.cell? ⟨g, 0, none⟩ = some (.slice dA dn dc)) (hys : Slc w bi dA dn dc ys)
    (hdis : ∀ i, i < n → (sval (vs.getD i sd0)).ownBlock = none ∨ (sval (vs.getD i sd0)).ownBlock ≠ (Value.slice dA dn dc).ownBlock) (hn : n ≤ 1000000000) (hbase : base ≤ w.heap.size)
    (h : ∀ g' c' w', SS w' base bi (some ⟨g', 0, none⟩) (n + 1) c' (vs ++ [(dA, dn, dc)]) (xss ++ [ys]) → w.grownBy w' (Value.slice A n c).ownBlock → wpListIn F nn Try.prog ops Q rest (a.put o.dst (.slice (some ⟨g', 0, none⟩) (n + 1) c')) w') : wpListIn F nn Try.prog ops Q (o :: rest) a w := by
  obtain ⟨i0, hi, hz0, hz1, hz2⟩ := info_parts infoS
  refine wpListIn_append_own w hgd s x 22 ho base 48 i0 (.slice none 0 0) 1 24 Try.underlying22 hi hz0 hz1 hz2 rfl (by decide) _ n _ hs hss.own ⟨g, 0, none⟩ 1 1 [.slice dA dn dc] hx rfl ?_ ?_ ?_ (by omega) hbase ?_
  · intro j v hj
    match j, hj with
    | 0, hj => simp at hj; subst hj; simpa [Addr.add] using hcell
    | j + 1, hj => simp at hj
  · intro v hv; simp at hv; subst hv; rfl
  · unfold maxLen; omega
  · intro v' w' hown' hg _
    have hform : ∃ g' c', v' = .slice (some ⟨g', 0, none⟩) (n + 1) c' := by
      rcases hown'.2 with ⟨rfl, h0⟩ | ⟨g', cap, cur, rfl, _⟩
      · omega
      · exact ⟨_, _, rfl⟩
    obtain ⟨A', c', rfl⟩ := hform
    refine h A' c' w' ⟨?_, by simp [hss.lv], by simp [hss.lx], fun i hi' => ?_, fun i j hij hj => ?_⟩ hg
    · rw [List.map_append]; exact hown'
    · by_cases e : i < n
      · rw [getD_app _ _ _ _ (by rw [hss.lv]; exact e), getD_app _ _ _ _ (by rw [hss.lx]; exact e)]
        exact (hss.row i e).kept hg (apart_types (hss.row i e) hss.own)
      · obtain rfl : i = n := by omega
        rw [getD_snoc _ _ _ _ hss.lv.symm, getD_snoc _ _ _ _ hss.lx.symm]
        exact hys.kept hg (apart_types hys hss.own)
    · rw [getD_app _ _ _ i (by rw [hss.lv]; omega)]
      by_cases e : j < n
      · rw [getD_app _ _ _ j (by rw [hss.lv]; exact e)]; exact hss.dis i j hij e
      · obtain rfl : j = n := by omega
        rw [getD_snoc _ _ _ _ hss.lv.symm]
        exact hdis i hij

theorem take_next {xss : List (List Int)} {i : Nat} (hi : i < xss.length) : xss.take (i + 1) = xss.take i ++ [xss.getD i []] := by
  rw [List.take_succ_eq_append_getElem hi, List.getD_eq_getElem?_getD, List.getElem?_eq_getElem hi]; rfl
/-- A box of another type is not the slice's row. -/
theorem Blk.not_outer {w : World} {b base n : Nat} {v : Value} {cs : Array Value} {ys : List Value} (h : Blk w b 22 cs) (ho : w.ownsRow base 48 1 v n ys) : some b ≠ v.ownBlock := by
  rcases ho.2 with ⟨rfl, _⟩ | ⟨g', cap', cur', rfl, hb', hg', _⟩
  · simp [Value.ownBlock]
  · intro e
    have e2 : b = g' := by simpa [Value.ownBlock] using e
    subst e2
    have := (show w.heap[b]? = _ from h).symm.trans hg'
    simp at this

theorem grown_any {a b : World} {row : Option Nat} (h : a.grownBy b none) : a.grownBy b row := ⟨h.os, h.tape, h.output, h.size, fun k hk _ => h.block k hk (fun e => nomatch e)⟩
end Go.Proofs.Ytedfcljikgmpgaa

/- A range over the program's iterator of orbits: a law for a body that always goes on, and the iterator's contract. Conditions: at most 1000 points, at most 8 maps. -/
namespace Go.Proofs.Ytedfcljikgmpgaa
open Go.RowKit
attribute [local go_sem] Oper.semAt_some

/-- WHAT THE ITERATOR PROMISES: called at the yield of whatever loop, in a world W whose heap ends at r, it makes block r its own and hands the rounds the lists xss, one after the other, each in a new slice; between the rounds it turns block r alone; a round keeps the blocks of kp and block r. -/
def Its (gf : Nat) (lb : Array Value) (kp : Nat → Prop) (xss : List (List Int)) (w0 : World) : Prop :=
  ∀ (l : Nat) (J : Nat → World → Prop) (W : World), (∀ k, kp k → W.heap[k]? = w0.heap[k]?) → w0.heap.size ≤ W.heap.size →
    (∀ i A C, J i A → A.grownBy C (some W.heap.size) → J i C) →
    (∀ i S c n W1 W2, J i W1 → i < xss.length → W.heap.size < W1.heap.size → W1.grownBy W2 (some W.heap.size) → Slc W2 W1.heap.size S n c (xss.getD i []) →
      YieldAt Fence.wide 4 Try.prog l #[.slice S n c] W2 fun e W' => e = .returned (.bool true) ∧ J (i + 1) W' ∧ (∀ k, (kp k ∨ k = W.heap.size) → W'.heap[k]? = W2.heap[k]?) ∧ W2.heap.size ≤ W'.heap.size) →
    J 0 W →
    CallsIn Fence.wide 5 Try.prog gf (#[.func (.yield l) #[] #[]] ++ lb) W fun e W' => (∃ v, e = .returned v) ∧ J xss.length W'

set_option maxHeartbeats 1000000 in
/-- A RANGE OVER IT, whose body always goes on. -/
theorem rangeT {g : Operand} {p : Tmp} {assign body : Code} {Q : Exit → Act → World → Prop} {a : Act} {w w0 : World} {gf : Nat} {lb : Array Value} {kp : Nat → Prop} {xss : List (List Int)}
    (hg : a.eval g = .func (.func gf) #[] lb) (eg : ∀ args w, (callFunc gf args).run Try.prog w = .ok (.enter gf args) w)
    (hs : Its gf lb kp xss w0) (hk0 : ∀ k, kp k → k < w.heap.size ∧ w.heap[k]? = w0.heap[k]?) (hsz : w0.heap.size ≤ w.heap.size)
    (I : Nat → World → Prop) (hI : ∀ i A C, I i A → Xk w.heap.size A C → I i C) (h0 : I 0 w) (ax : Value → Act)
    (hassign : ∀ (l : Nat) (v : Value) (W : World) (K : Act → World → Prop), K (ax v) W → assign.wpIn (Fence.wide.inRound l) 4 Try.prog (Exit.then K (fun _ _ _ => False)) { tmps := a.tmps.setIfInBounds p v, defers := [] } W)
    (hbody : ∀ (l i : Nat) (S : Option Addr) (n c : Nat) (W1 W2 : World), I i W1 → i < xss.length → w.heap.size + 2 < W1.heap.size → Xk w.heap.size W1 W2 → Slc W2 W1.heap.size S n c (xss.getD i []) →
      body.wpIn (Fence.wide.inRound l) 4 Try.prog (Exit.then (fun _ W' => I (i + 1) W' ∧ (∀ k, (kp k ∨ (w.heap.size ≤ k ∧ k ≤ w.heap.size + 2)) → W'.heap[k]? = W2.heap[k]?) ∧ W2.heap.size ≤ W'.heap.size) (fun _ _ _ => False)) (ax (.slice S n c)) W2)
    (hdone : ∀ W, I xss.length W → W.heap[w.heap.size]? = some (.deferred (some [])) → Q .normal { a with defers := { target := .collected w.heap.size, args := #[] } :: a.defers } W) :
    (Code.rangeFunc g #[p] assign body).wpIn Fence.wide 6 Try.prog Q a w := by
  refine wpIn_rangeFunc ?_
  intro fn hfn
  obtain ⟨rc, hrc⟩ : ∃ rc : LoopState → Option Code → Loop, rc = fun st pe => { state := st, pending := pe, fn, tmps := a.tmps, params := #[p], assign, body, defers := w.heap.size } := ⟨_, rfl⟩
  obtain ⟨V, hV⟩ : ∃ V, (w.alloc (.deferred (some []))).alloc (.loop (rc .ready none)) = V := ⟨_, rfl⟩
  have hVs : V.heap.size = w.heap.size + 2 := by rw [← hV]; simp
  have hVl : V.heap[w.heap.size + 1]? = some (.loop (rc .ready none)) := by
    rw [← hV]; have := World.alloc_heap_new (w.alloc (.deferred (some []))) (.loop (rc .ready none)); rwa [World.size_alloc] at this
  have hVd : V.heap[w.heap.size]? = some (.deferred (some [])) := by
    rw [← hV]; exact (Below.heap_alloc _ _ _ (by simp)).trans (World.alloc_heap_new w _)
  have hVk : ∀ k, k < w.heap.size → V.heap[k]? = w.heap[k]? := fun k hk => by
    rw [← hV]; exact (Below.heap_alloc _ _ _ (by simp; omega)).trans (Below.heap_alloc _ _ _ hk)
  have hVx : Xk w.heap.size w V := by
    rw [← hV]; exact ⟨rfl, rfl, rfl, by simp; omega, fun k hk _ => (Below.heap_alloc _ _ _ (by simp; omega)).trans (Below.heap_alloc _ _ _ hk)⟩
  refine ⟨w.heap.size + 1, [{ target := .collected w.heap.size, args := #[] }], V, { target := .fn (.func gf) lb, args := #[.func (.yield (w.heap.size + 1)) #[] #[]] }, V, gf,
    #[.func (.yield (w.heap.size + 1)) #[] #[]] ++ lb, V, ?_, ?_, ?_, ?_, fun _ => by omega, ?_⟩
  · rw [← hV, hrc]; exact run_enterLoop_outer _ _ _ _ _
  · simp only [resolve, hg]
    simp [go_sem]
  · intro f' hf'; trivial
  · simp [invoke, go_sem, eg]
  · refine (hs (w.heap.size + 1) (fun i W => I i W ∧ W.heap[w.heap.size + 1]? = some (.loop (rc .ready none)) ∧ W.heap[w.heap.size]? = some (.deferred (some []))) V
      (fun k hk => (hVk k (hk0 k hk).1).trans (hk0 k hk).2) (by omega) ?_ ?_ ⟨hI 0 w V h0 hVx, hVl, hVd⟩).mono ?_
    · rintro i A C ⟨hi, hl, hd⟩ hgr
      rw [hVs] at hgr
      refine ⟨hI i A C hi (Xk.of_grown hgr (by omega)), ?_, ?_⟩
      · exact (hgr.block _ (Array.getElem?_eq_some_iff.1 hl).1 (fun e => by injection e with e; omega)).trans hl
      · exact (hgr.block _ (Array.getElem?_eq_some_iff.1 hd).1 (fun e => by injection e with e; omega)).trans hd
    · rintro i S c n W1 W2 ⟨hi, hl, hd⟩ hlt hsz1 hgr hsl
      rw [hVs] at hsz1 hgr
      have hl2 : W2.heap[w.heap.size + 1]? = some (.loop (rc .ready none)) := (hgr.block _ (Array.getElem?_eq_some_iff.1 hl).1 (fun e => by injection e with e; omega)).trans hl
      have hd2 : W2.heap[w.heap.size]? = some (.deferred (some [])) := (hgr.block _ (Array.getElem?_eq_some_iff.1 hd).1 (fun e => by injection e with e; omega)).trans hd
      have hlt2 : w.heap.size + 1 < W2.heap.size := (Array.getElem?_eq_some_iff.1 hl2).1
      have hy := run_yield (P := Try.prog) (args := #[.slice S n c]) hl2 (by rw [hrc]; rfl)
      rw [hrc] at hy
      have hy2 : (Instr.yield (w.heap.size + 1) #[.slice S n c]).run Try.prog W2 = .ok (.round (w.heap.size + 1) fn (a.tmps.setIfInBounds p (.slice S n c)) assign body) W2 := by simpa using hy
      refine ⟨fn, _, assign, body, hy2, roundIn_of_wpIn hfn (hassign _ (.slice S n c) W2 _ ?_)⟩
      refine ⟨_, run_beginRound hl2 (by rw [hrc]), ?_⟩
      have hX : Xk w.heap.size W1 (W2.putObj (w.heap.size + 1) (.loop { rc .ready none with state := .busy })) := (Xk.of_grown hgr (by omega)).trans (Xk.put _ _ (by omega))
      have hS3 : Slc (W2.putObj (w.heap.size + 1) (.loop { rc .ready none with state := .busy })) W1.heap.size S n c (xss.getD i []) := hsl.xk (Xk.put W2 _ (b := w.heap.size) (r := w.heap.size + 1) (by omega)) (fun k e => .inr (by have := (hsl.lt_ k e).1; omega))
      have hl3 : (W2.putObj (w.heap.size + 1) (.loop { rc .ready none with state := .busy })).heap[w.heap.size + 1]? = some (.loop { rc .ready none with state := .busy }) := World.putObj_heap_same hlt2
      have hd3 : (W2.putObj (w.heap.size + 1) (.loop { rc .ready none with state := .busy })).heap[w.heap.size]? = some (.deferred (some [])) := (World.putObj_heap_other (by omega)).trans hd2
      refine wpIn_mono (hbody _ i S n c W1 _ hi hlt (by omega) hX hS3) ?_
      rintro e a3 W3 hp
      cases e with
      | normal =>
        obtain ⟨hi3, hk3, hs3⟩ := hp
        have hl4 := (hk3 (w.heap.size + 1) (.inr (by omega))).trans hl3
        have hd4 := (hk3 w.heap.size (.inr (by omega))).trans hd3
        have hr := run_endRound (P := Try.prog) none hl4
        refine ⟨_, _, hr, ?_⟩
        rw [World.putObj_size] at hs3
        have h5 : (W3.putObj (w.heap.size + 1) (.loop (rc .ready none))).heap[w.heap.size + 1]? = some (.loop (rc .ready none)) := World.putObj_heap_same (Array.getElem?_eq_some_iff.1 hl4).1
        have e1 : (Loop.mk (if (none : Option Code).isNone then LoopState.ready else .done) none (rc .ready none).fn (rc .ready none).tmps (rc .ready none).params (rc .ready none).assign (rc .ready none).body (rc .ready none).defers) = rc .ready none := by rw [hrc]; rfl
        have e2 : ({ rc .ready none with state := LoopState.busy } : Loop).fn = (rc .ready none).fn := rfl
        refine ⟨rfl, ⟨hI _ _ _ hi3 (Xk.put _ _ (by omega)), ?_, (World.putObj_heap_other (by omega)).trans hd4⟩, ?_, by rw [World.putObj_size]; exact hs3⟩
        · rw [hrc]; rw [World.putObj_heap_same (Array.getElem?_eq_some_iff.1 hl4).1]; rfl
        · intro k hk
          have hne : k ≠ w.heap.size + 1 := by
            rcases hk with hk | hk
            · have := (hk0 k hk).1; omega
            · omega
          refine (World.putObj_heap_other hne).trans ((hk3 k ?_).trans (World.putObj_heap_other hne))
          rcases hk with hk | hk
          · exact .inl hk
          · exact .inr (by omega)
      | ret => exact hp.elim
      | exit id => exact hp.elim
      | goto t => exact hp.elim
      | panic ch => exact hp.elim
      | outgrown => exact hp.elim
    · rintro e W2 ⟨⟨v, rfl⟩, hi, hl, hd⟩
      refine ⟨none, _, by have := run_endLoop (P := Try.prog) hl (by rw [hrc]; simp); rw [hrc] at this; exact this, hdone _ (hI _ _ _ hi (Xk.put _ _ (by omega))) ((World.putObj_heap_other (by omega)).trans hd)⟩

/-- orbitsUnder: a closure over two boxes. -/
theorem implUnder (N : Nat) (A : Option Addr) (n c : Nat) (w : World) :
    Calls Try.prog 117 #[.int .i64 (N : Nat), .slice A n c] w fun e w' => e = .returned (.func (.func 133) #[] #[.pointer (some ⟨w.heap.size, 0, none⟩), .pointer (some ⟨w.heap.size + 1, 0, none⟩)]) ∧
      w' = (w.alloc (.cells #[.int .i64 (N : Nat)] 2)).alloc (.cells #[.slice A n c] 22) := by
  have hmf : ∀ (fn : Fn) (first cap : Array Value) (w : World), (Instr.makeFunc fn first cap).run Try.prog w = .ok (.func fn first cap) w := fun _ _ _ _ => rfl
  go_enter Try.func117, Try.ntmps117
  go_wp2
  go_ret
  exact ⟨rfl, rfl⟩


set_option maxHeartbeats 4000000 in
set_option maxRecDepth 100000 in
/-- THE ITERATOR's CONTRACT. -/
theorem itsUnder (N n c B c1 c2 : Nat) (A : Option Addr) (vs : List SV) (gs : List (List Int)) (w0 : World) (hx : RR w0 B A n vs gs) (hp : Hid (PMs N gs)) (hN1 : 1 ≤ N) (hN : N ≤ 1000) (hn : n ≤ 8)
    (hB : B ≤ w0.heap.size) (h1 : Blk w0 c1 2 #[.int .i64 (N : Nat)]) (h2 : Blk w0 c2 22 #[.slice A n c]) :
    Its 133 #[.pointer (some ⟨c1, 0, none⟩), .pointer (some ⟨c2, 0, none⟩)] (fun k => k < B ∨ k = c1 ∨ k = c2) (orbs gs N N) w0 := by
  intro l J W hW hsz hJ hY h0
  have HX := Lib.hid hx
  have HY := Lib.hid hY
  have HJ := Lib.hid hJ
  have k1 : W.cell? ⟨c1, 0, none⟩ = some (.int .i64 (N : Nat)) := ((show Blk W c1 2 _ from (hW c1 (.inr (.inl rfl))).trans h1).cell 0)
  have H1 : Hid (Blk W c1 2 #[.int .i64 (N : Nat)]) := Lib.hid ((hW c1 (.inr (.inl rfl))).trans h1)
  have H2 : Hid (Blk W c2 22 #[.slice A n c]) := Lib.hid ((hW c2 (.inr (.inr rfl))).trans h2)
  have hKW := Lib.hid hW
  have c1lt := H1.out.lt
  have c2lt := H2.out.lt
  obtain ⟨i0, hi, hz0, hz1, hz2⟩ := info_parts infoB
  clear hx hY hJ hW h1 h2
  refine callsIn_wide.2 ?_
  show Calls Try.prog 133 #[.func (.yield l) #[] #[], .pointer (some ⟨c1, 0, none⟩), .pointer (some ⟨c2, 0, none⟩)] W _
  go_enter Try.func133, Try.ntmps133
  go_wp2_with (first | (at_make; refine wpList_make_full _ rfl _ _ 129 rfl W.heap.size 4 i0 (.bool false) 1 Try.underlying129 hi hz0 hz1 .i64 .i64 _ _ N rfl rfl rfl rfl (by rw [hz2]; omega) (by unfold maxLen; omega) (Nat.le_refl _) ?_; intro V hown2 hgrow2; have k2 : V.cell? ⟨c1, 0, none⟩ = some (.int .i64 (N : Nat)) := ((H1.out.grown hgrow2 (by simp)).cell 0)))
  obtain ⟨cs0, blk0, bits0⟩ := made_bits hown2
  have J0 : Hid (J (orbs gs N 0).length V) := Lib.hid (HJ.out 0 W V h0 (grown_any hgrow2))
  have Bl0 := Lib.hid blk0
  have Bi0 : Hid (Bits N (sn gs N 0) cs0) := Lib.hid (bits0.congr fun z _ => sn_zero z)
  have Kp0 : Hid (∀ q, (q < B ∨ q = c1 ∨ q = c2) → V.heap[q]? = w0.heap[q]?) := Lib.hid fun q hq => by
    have e1 := hKW.out q hq
    refine (hgrow2.block q ?_ (by simp)).trans e1
    rcases hq with h | h | h
    · omega
    · subst h; exact c1lt
    · subst h; exact c2lt
  have hVlt : W.heap.size < V.heap.size := blk0.lt
  clear blk0 bits0 hown2 hgrow2 h0 k1 k2
  refine (wpIn_wide (n := 5)).1 ?_
  gi_loopw [9] (fun i wr => ∃ (k : Nat) (cs : Array Value), k ≤ N ∧ i = .int .i64 (k : Nat) ∧ J (orbs gs N k).length wr ∧ Blk wr W.heap.size 4 cs ∧ Bits N (sn gs N k) cs ∧ (∀ q, (q < B ∨ q = c1 ∨ q = c2) → wr.heap[q]? = w0.heap[q]?) ∧ W.heap.size < wr.heap.size) (fun i _ => N - (intOf i).toNat)
  case atStart => exact ⟨0, cs0, Nat.zero_le _, rfl, J0.out, Bl0.out, Bi0.out, Kp0.out, hVlt⟩
  case round =>
    clear J0 Bl0 Bi0 Kp0 hVlt
    obtain ⟨k, cs, hk, rfl, hj, blk, bits, hkp, hlt0⟩ := hrel
    have Hj := Lib.hid hj
    have Bk := Lib.hid blk
    have Bi := Lib.hid bits
    have Kp := Lib.hid hkp
    clear hj blk bits hkp
    by_cases hlt : k < N
    · have c3 : wr.cell? ⟨W.heap.size, k, none⟩ = some (.bool (sn gs N k k)) := (Bk.out.cell k).trans (Bi.out.2 k hlt)
      have c4 : wr.cell? ⟨c2, 0, none⟩ = some (.slice A n c) := ((show Blk wr c2 22 #[.slice A n c] from (Kp.out c2 (.inr (.inr rfl))).trans ((hKW.out c2 (.inr (.inr rfl))).symm.trans H2.out)).cell 0)
      rcases hs : sn gs N k k with _ | _
      · have Xr : Hid (RR wr B A n vs gs) := Lib.hid (HX.out.keep fun p hp => World.cell?_of_block (Kp.out p.block (.inl hp)))
        have hat := orbs_at hlt hs
        have Oat := Lib.hid hat.1
        have Olt := Lib.hid hat.2
        have Oyes : Hid ((orbs gs N (k + 1)).length = (orbs gs N k).length + 1) := Lib.hid (by rw [orbs_yes hs]; simp)
        have Hs := Lib.hid hs
        rw [hs] at c3
        clear hs hat
        gi_wp2
        refine ⟨trivial, ?_⟩
        refine (callsIn_wide.2 (implFrom k A n c N W.heap.size B vs gs (sn gs N k) cs wr Xr.out (by omega) hp hlt hN hn Bk.out Bi Hs (Lib.hid fun v hv h g hg => sn_out hp.out hk hv h hg))).mono ?_
        rintro e w2 ⟨S, m, c', rfl, s2, ⟨cs2, blk2, bits2⟩, g2⟩
        have Bk2 := Lib.hid blk2
        have Bi2 : Hid (Bits N (sn gs N (k + 1)) cs2) := Lib.hid (bits2.congr fun z _ => sn_succ k z)
        have Kp2 : Hid (∀ q, (q < B ∨ q = c1 ∨ q = c2) → w2.heap[q]? = w0.heap[q]?) := Lib.hid fun q hq => by
          have e1 := Kp.out q hq
          have hq2 : q < W.heap.size := by
            rcases hq with h | h | h
            · omega
            · subst h; exact c1lt
            · subst h; exact c2lt
          exact (g2.block q (by omega) (fun e => by injection e with e; omega)).trans e1
        have hz2 := g2.size
        obtain ⟨fn, tmps, assign, body, hy, hR⟩ := HY.out (orbs gs N k).length S c' m wr w2 Hj.out Olt.out hlt0 g2 (by rw [Oat.out]; exact s2)
        have HR := Lib.hid hR
        clear s2 blk2 bits2 g2 hR
        gi_wp2
        refine HR.out.mono ?_
        rintro e w3 ⟨rfl, hj3, hk3, hs3⟩
        have Hj3 : Hid (J (orbs gs N (k + 1)).length w3) := Lib.hid (by rw [Oyes.out]; exact hj3)
        have Bk3 : Hid (Blk w3 W.heap.size 4 cs2) := Lib.hid ((hk3 _ (.inr rfl)).trans Bk2.out)
        have Kp3 : Hid (∀ q, (q < B ∨ q = c1 ∨ q = c2) → w3.heap[q]? = w0.heap[q]?) := Lib.hid fun q hq => (hk3 q (.inl hq)).trans (Kp2.out q hq)
        clear hj3 hk3
        gi_wp2
        go_roundw
        case rel => exact ⟨k + 1, cs2, by omega, by go_num, Hj3.out, Bk3.out, Bi2.out, Kp3.out, by omega⟩
        case measure => simp [intOf]; omega
      · have Ono : Hid (orbs gs N (k + 1) = orbs gs N k) := Lib.hid (orbs_no hs)
        have Bi2 : Hid (Bits N (sn gs N (k + 1)) cs) := Lib.hid (Bi.out.congr fun z _ => sn_seen hp.out hlt hs z)
        rw [hs] at c3
        clear hs
        gi_wp2
        refine ⟨trivial, ?_⟩
        gi_wp2
        refine ⟨fun _ h => (by cases h), ?_⟩
        gi_wp2
        go_roundw
        case rel => exact ⟨k + 1, cs, by omega, by go_num, by rw [Ono.out]; exact Hj.out, Bk.out, Bi2.out, Kp.out, hlt0⟩
        case measure => simp [intOf]; omega
    · have hkN : k = N := by omega
      subst hkN
      gi_wp2
      go_end0
      exact ⟨⟨_, rfl⟩, Hj.out⟩
end Go.Proofs.Ytedfcljikgmpgaa

/- countOrbits; IsTransitive. Conditions: at most 1000 points, at most 8 maps. -/
namespace Go.Proofs.Ytedfcljikgmpgaa
open Go.RowKit Go.Shelf
attribute [local go_sem] Oper.semAt_some

set_option maxHeartbeats 2000000 in
set_option maxRecDepth 100000 in
/-- countOrbits. -/
theorem implCount (N n c : Nat) (A : Option Addr) (vs : List SV) (gs : List (List Int)) (w : World) (hx : RR w w.heap.size A n vs gs) (hp : Hid (PMs N gs)) (hN1 : 1 ≤ N) (hN : N ≤ 1000) (hn : n ≤ 8) :
    Calls Try.prog 98 #[.int .i64 (N : Nat), .slice A n c] w fun e w' => e = .returned (.int .i64 ((orbs gs N N).length : Nat)) ∧ Below w.heap.size w w' := by
  have HX := Lib.hid hx
  clear hx
  refine (callsIn_wide (n := 6)).1 ?_
  refine callsIn_of_wp_marks Try.func98 rfl trivial ?_ rfl
  simp only [Try.ntmps98, List.size_toArray, List.length_cons, List.length_nil, Nat.reduceAdd, Nat.reduceSub, Array.replicate_succ, Array.replicate_zero, List.push_toArray, List.append_toArray, List.nil_append, List.cons_append]
  gi_wp2
  refine ⟨trivial, ?_⟩
  refine (callsIn_wide.2 (implUnder N A n c _)).mono ?_
  rintro e w2 ⟨rfl, rfl⟩
  gi_wp2
  obtain ⟨V, hV⟩ : ∃ V, ((w.alloc (.cells #[.int .i64 0] 2)).alloc (.cells #[.int .i64 (N : Nat)] 2)).alloc (.cells #[.slice A n c] 22) = V := ⟨_, rfl⟩
  rw [hV]
  have hz : V.heap.size = w.heap.size + 3 := by rw [← hV]; simp
  have b0 : Blk V w.heap.size 2 #[.int .i64 ((0 : Nat) : Int)] := by rw [← hV]; exact ((Blk.new w _ _).alloc _).alloc _
  have b1 : Blk V (w.heap.size + 1) 2 #[.int .i64 (N : Nat)] := by
    rw [← hV]; have := (Blk.new (w.alloc (.cells #[.int .i64 0] 2)) 2 #[.int .i64 (N : Nat)]).alloc (.cells #[.slice A n c] 22)
    rw [World.size_alloc] at this; exact this
  have b2 : Blk V (w.heap.size + 1 + 1) 22 #[.slice A n c] := by
    rw [← hV]; have := Blk.new ((w.alloc (.cells #[.int .i64 0] 2)).alloc (.cells #[.int .i64 (N : Nat)] 2)) 22 #[.slice A n c]
    rw [World.size_alloc, World.size_alloc] at this; exact this
  have bel : Below w.heap.size w V := by
    rw [← hV]; exact (((Below.refl _ w).alloc (Nat.le_refl _) _).alloc (by simp) _).alloc (by simp; omega) _
  have hxV : RR V w.heap.size A n vs gs := HX.out.below bel (Nat.le_refl _)
  have hole : (orbs gs N N).length ≤ N := by rw [orbs_len]; exact starts_le N
  clear hV
  refine rangeT (gf := 133) (lb := #[.pointer (some ⟨w.heap.size + 1, 0, none⟩), .pointer (some ⟨w.heap.size + 1 + 1, 0, none⟩)]) rfl (enters_of Try.func133 (by kernel_rfl) rfl)
    (itsUnder N n c w.heap.size (w.heap.size + 1) (w.heap.size + 1 + 1) A vs gs V hxV hp hN1 hN hn (by omega) b1 b2)
    (fun k hk => ⟨by rcases hk with h | h | h <;> omega, rfl⟩) (Nat.le_refl _)
    (fun i W => Blk W w.heap.size 2 #[.int .i64 (i : Nat)] ∧ Below w.heap.size w W)
    (fun i A C h hk => ⟨(hk.block _ h.1.lt (.inl (by omega))).trans h.1, h.2.trans (hk.below (by omega) h.2.size)⟩) ⟨b0, bel⟩
    (fun v => { tmps := #[.int .i64 (N : Nat), .slice A n c, undef, undef, .int .i64 0, .pointer (some ⟨w.heap.size, 0, none⟩), .int .i64 (N : Nat), .slice A n c, .func (.func 133) #[] #[.pointer (some ⟨w.heap.size + 1, 0, none⟩), .pointer (some ⟨w.heap.size + 1 + 1, 0, none⟩)], v, undef, undef, undef], defers := [] }) ?assign ?body ?done
  case assign =>
    intro l v W K hK
    gi_wp2
    exact hK
  case body =>
    rintro l i S m d W1 W2 ⟨hb, hbl⟩ hlt hsz hk hsl
    have hb2 : Blk W2 w.heap.size 2 #[.int .i64 (i : Nat)] := (hk.block _ hb.lt (.inl (by omega))).trans hb
    have cc : W2.cell? ⟨w.heap.size, 0, none⟩ = some (.int .i64 (i : Nat)) := hb2.cell 0
    have ff := hb2.frozen 0
    have hbl2 := Lib.hid (hbl.trans (hk.below (by omega) hbl.size))
    have Hb := Lib.hid (hb2.set_ 0 (.int .i64 ((i : Int) + 1)))
    have hi2 : i < 1000 := by omega
    have hzz := hbl2.out.size
    clear hb hbl hb2 hk hsl
    gi_wp2
    refine ⟨⟨?_, hbl2.out.setCell (p := ⟨w.heap.size, 0, none⟩) (Nat.le_refl _) _⟩, fun k hk => Below.heap_setCell _ _ _ k (fun e => by simp only at e; rcases hk with (h | h | h) | h <;> omega), by simp [World.setCell]⟩
    rw [show ((i + 1 : Nat) : Int) = (i : Int) + 1 from by omega]
    exact Hb.out
  case done =>
    rintro W ⟨hb, hbl⟩ hd
    have cc : W.cell? ⟨w.heap.size, 0, none⟩ = some (.int .i64 ((orbs gs N N).length : Nat)) := hb.cell 0
    have Hbl := Lib.hid hbl
    clear hbl
    gi_wp2
    refine ⟨by simp, .inl ⟨_, _, rfl, run_takeDeferred hd, ?_⟩⟩
    exact ⟨_, results_tmp rfl _ _ _, rfl, Hbl.out.grown (grownBy_putObj' W _ _) Hbl.out.size (fun k e => by cases e; omega)⟩

/-- What IsTransitive answers. -/
def transB (n : Int) (gs : List (List Int)) : Bool := gB n gs && decide ((orbs gs n.toNat n.toNat).length = 1)

set_option maxHeartbeats 800000 in
set_option maxRecDepth 100000 in
/-- The program's IsTransitive. -/
theorem implIsTransitive (a : Int) (A : Option Addr) (n c : Nat) (vs : List SV) (xss : List (List Int)) (w : World) (hx : RR w w.heap.size A n vs xss) (hn : n ≤ 1048576) (hl : Hid (∀ i, i < n → (vs.getD i sd0).2.1 ≤ 1048576)) :
    Calls Try.prog 70 #[.int .i64 a, .slice A n c] w fun e w' => e = .returned (.bool (transB a xss)) ∧ Below w.heap.size w w' := by
  rcases hs : gB a xss with _ | _
  · have Fin : Hid (transB a xss = false) := Lib.hid (by unfold transB; rw [hs]; rfl)
    go_enter Try.func70, Try.ntmps70
    go_wp2_with fail
    have K0 := implGS a A n c vs xss w hx hn hl
    refine K0.mono ?_
    rintro e w1 ⟨rfl, b1⟩
    have B1 := Lib.hid b1
    clear b1 K0
    rw [hs]
    go_wp2_with fail
    go_ret
    exact ⟨ret_bool Fin.out.symm, B1.out⟩
  · obtain ⟨N, hN, hN1, hN2, hg8, hpm, hok⟩ := gB_pm hs
    subst hN
    have Fin : Hid (transB N xss = decide ((orbs xss N N).length = 1)) := Lib.hid (by unfold transB; rw [hs]; rfl)
    have Pm := Lib.hid hpm
    have HX := Lib.hid hx
    have hlx := hx.lx
    clear hok hpm
    go_enter Try.func70, Try.ntmps70
    go_wp2_with fail
    have K0 := implGS N A n c vs xss w hx hn hl
    refine K0.mono ?_
    rintro e w1 ⟨rfl, b1⟩
    have B1 := Lib.hid b1
    clear b1 hx K0
    rw [hs]
    clear hs
    go_wp2_with fail
    refine (implCount N n c A vs xss w1 (HX.out.up B1.out) Pm hN1 (by omega) (by omega)).mono ?_
    rintro e w2 ⟨rfl, b2⟩
    have B2 : Hid (Below w.heap.size w w2) := Lib.hid (btr B1.out b2)
    clear b2
    obtain ⟨M, hM⟩ : ∃ M, (orbs xss N N).length = M := ⟨_, rfl⟩
    rw [hM] at Fin ⊢
    by_cases h1 : M = 1
    · subst h1
      go_wp2
      go_ret
      exact ⟨by rw [Fin.out]; rfl, B2.out⟩
    · have d1 : ((M : Int) == 1) = false := by simp; omega
      have Fin2 : Hid (transB N xss = false) := Lib.hid (by rw [Fin.out]; simpa using h1)
      clear hM
      go_wp2
      go_ret
      exact ⟨ret_bool Fin2.out.symm, B2.out⟩
end Go.Proofs.Ytedfcljikgmpgaa

/- What MinimalBlockSystems and IsPrimitive answer. No Go in it. No condition. -/
namespace Go.Proofs.Ytedfcljikgmpgaa

/-- The systems of 1, .., k - 1 with more than one block, none twice. -/
def sysL (f : Nat → List (List Int)) : Nat → List (List (List Int))
  | 0 => []
  | k + 1 => if 1 ≤ k ∧ 1 < (f k).length ∧ f k ∉ sysL f k then sysL f k ++ [f k] else sysL f k
section
variable {f g : Nat → List (List Int)} {k N : Nat} {gs : List (List Int)} {a : Int} {out out' : List (List (List Int))}
theorem sysL_yes (h1 : 1 ≤ k) (h2 : 1 < (f k).length) (h3 : f k ∉ sysL f k) : sysL f (k + 1) = sysL f k ++ [f k] := by
  show (if _ then _ else _) = _
  rw [if_pos ⟨h1, h2, h3⟩]
theorem sysL_one (h : (f k).length ≤ 1) : sysL f (k + 1) = sysL f k := by
  show (if _ then _ else _) = _
  rw [if_neg (fun h' => by have := h'.2.1; omega)]
theorem sysL_old (h : f k ∈ sysL f k) : sysL f (k + 1) = sysL f k := by
  show (if _ then _ else _) = _
  rw [if_neg (fun h' => h'.2.2 h)]
theorem sysL_start : sysL f 1 = [] := by
  show (if _ then _ else _) = _
  rw [if_neg (fun h' => absurd h'.1 (by decide))]; rfl
theorem sysL_len : ∀ k, (sysL f k).length ≤ k := by
  intro k
  induction k with
  | zero => exact Nat.le_refl _
  | succ k ih =>
    show (if _ then _ else _ : List (List (List Int))).length ≤ _
    split
    · rw [List.length_append]; simp; omega
    · omega
theorem sysL_mem {p : List (List Int)} : ∀ k, p ∈ sysL f k → ∃ y, 1 ≤ y ∧ y < k ∧ p = f y ∧ 1 < (f y).length := by
  intro k
  induction k with
  | zero => intro h; cases h
  | succ k ih =>
    intro h
    have h : p ∈ (if _ then _ else _ : List (List (List Int))) := h
    split at h
    · rename_i hc
      rcases List.mem_append.1 h with h | h
      · obtain ⟨y, a, b, c⟩ := ih h; exact ⟨y, a, by omega, c⟩
      · exact ⟨k, hc.1, by omega, List.mem_singleton.1 h, hc.2.1⟩
    · obtain ⟨y, a, b, c⟩ := ih h; exact ⟨y, a, by omega, c⟩
theorem sysL_nil : ∀ k, sysL f k = [] ↔ ∀ y, 1 ≤ y → y < k → (f y).length ≤ 1 := by
  intro k
  induction k with
  | zero => exact ⟨fun _ y _ h => absurd h (Nat.not_lt_zero _), fun _ => rfl⟩
  | succ k ih =>
    constructor
    · intro h y h1 h2
      have hk : sysL f k = [] := by
        have h : (if _ then _ else _ : List (List (List Int))) = [] := h
        split at h
        · simp at h
        · exact h
      by_cases e : y = k
      · subst e
        refine Classical.byContradiction fun hn => ?_
        have := sysL_yes (f := f) h1 (by omega) (by rw [hk]; simp)
        rw [this] at h
        simp at h
      · exact ih.1 hk y h1 (by omega)
    · intro h
      have hk := ih.2 fun y h1 h2 => h y h1 (by omega)
      rcases Nat.eq_zero_or_pos k with e | e
      · subst e; exact sysL_start
      · rw [sysL_one (h k e (by omega))]; exact hk

open Classical in
/-- The labels of the minimal block system of 0 and y. -/
noncomputable def lstF (gs : List (List Int)) (N y : Nat) : Nat → Nat := if h : ∃ r, LstM gs N 0 y r then Classical.choose h else id
theorem lstF_spec {y : Nat} (h : ∃ r, LstM gs N 0 y r) : LstM gs N 0 y (lstF gs N y) := by
  unfold lstF
  rw [dif_pos h]
  exact Classical.choose_spec h
noncomputable def mnS (gs : List (List Int)) (N y : Nat) : List (List Int) := canon N (lstF gs N y)
theorem mnS_eq {y : Nat} {r : Nat → Nat} (h : LstM gs N 0 y r) : canon N r = mnS gs N y := h.canon (lstF_spec ⟨r, h⟩)
def IsMsy (a : Int) (gs : List (List Int)) (out : List (List (List Int))) : Prop := (gB a gs = true ∧ (∀ y, 1 ≤ y → y < a.toNat → ∃ r, LstM gs a.toNat 0 y r) ∧ out = sysL (mnS gs a.toNat) a.toNat) ∨ (gB a gs = false ∧ out = [])
def IsPri (a : Int) (gs : List (List Int)) (b : Bool) : Prop := b = true ↔ transB a gs = true ∧ ∀ y, 1 ≤ y → y < a.toNat → (mnS gs a.toNat y).length ≤ 1
theorem IsMsy.uniq (h : IsMsy a gs out) (h' : IsMsy a gs out') : out = out' := by
  rcases h with ⟨e, _, rfl⟩ | ⟨e, rfl⟩ <;> rcases h' with ⟨e', _, rfl⟩ | ⟨e', rfl⟩
  · rfl
  · rw [e] at e'; cases e'
  · rw [e] at e'; cases e'
  · rfl
theorem IsPri.uniq {b b' : Bool} (h : IsPri a gs b) (h' : IsPri a gs b') : b = b' := by unfold IsPri at h h'; rw [Bool.eq_iff_iff, h, h']
theorem IsMsy.len (h : IsMsy a gs out) : out.length ≤ 20 ∧ ∀ y ∈ out, y.length ≤ 20 ∧ ∀ z ∈ y, z.length ≤ 20 := by
  rcases h with ⟨e, _, rfl⟩ | ⟨_, rfl⟩
  · have hN : a.toNat ≤ 20 := by have := (gB_iff.1 e).2.1; omega
    refine ⟨Nat.le_trans (sysL_len _) hN, fun y hy => ?_⟩
    obtain ⟨k, _, _, rfl, _⟩ := sysL_mem _ hy
    exact prt_bound (canon_prt _ _) hN
  · exact ⟨by simp, fun y hy => by cases hy⟩
theorem transB_gB (h : transB a gs = true) : gB a gs = true := by
  unfold transB at h
  rw [Bool.and_eq_true] at h
  exact h.1
/-- A least partition is a block system. -/
theorem LstM.bs {x y : Nat} {r : Nat → Nat} (h : LstM gs N x y r) (hs : gB N gs = true) : BS N gs (Proofs.Ytedfcljikgmpgaa.canon N r) := by
  refine ⟨hs, by rw [Int.toNat_natCast]; exact canon_prt _ _, fun g hg => ?_⟩
  rw [Int.toNat_natCast]
  obtain ⟨N', e, _, _, _, _, ok⟩ := gB_pm hs
  obtain rfl : N = N' := by omega
  intro u v hu hv e
  have hgP : Pn N g := ok g hg
  refine (canon_bi (hgP.lt hu) (hgP.lt hv)).2 ?_
  exact h.1.2 g hg u v hu hv ((canon_bi hu hv).1 e)
end
end Go.Proofs.Ytedfcljikgmpgaa

/- Orbits and IsTransitive, of the program and of the model. Conditions: at most 1048576 lists of at most 1048576 numbers. -/
namespace Go.Proofs.Ytedfcljikgmpgaa
open Go.RowKit Go.Shelf
attribute [local go_sem] Oper.semAt_some

theorem hasB_dec (xs : List Int) (x : Int) : hasB xs x = decide (x ∈ xs) := by
  unfold hasB
  rw [Bool.eq_iff_iff]
  simp only [decide_eq_true_eq]
  constructor
  · rintro ⟨j, hj, e⟩
    rw [List.getD_eq_getElem?_getD, List.getElem?_eq_getElem hj] at e
    have e2 : xs[j] = x := by simpa using e
    rw [← e2]; exact List.getElem_mem hj
  · intro h
    obtain ⟨j, hj, e⟩ := List.mem_iff_getElem.1 h
    exact ⟨j, hj, by rw [List.getD_eq_getElem?_getD, List.getElem?_eq_getElem hj, e]; rfl⟩
theorem sn_starts {gs : List (List Int)} {N : Nat} (hp : PMs N gs) : ∀ k, k ≤ N → ∀ y, sn gs N k y = true ↔ ∃ z ∈ starts gs N k, y ∈ orb gs N z
  | 0, _, y => by simp [sn_zero, starts]
  | k + 1, hk, y => by
    have ih := sn_starts hp k (by omega) y
    rcases hs : sn gs N k k with _ | _
    · rw [sn_succ, starts_yes hs, Bool.or_eq_true, ih]
      constructor
      · rintro (⟨z, hz, h⟩ | h)
        · exact ⟨z, List.mem_append_left _ hz, h⟩
        · exact ⟨k, by simp, by simpa using h⟩
      · rintro ⟨z, hz, h⟩
        rcases List.mem_append.1 hz with hz | hz
        · exact .inl ⟨z, hz, h⟩
        · obtain rfl : z = k := by simpa using hz
          exact .inr (by simpa using h)
    · rw [sn_seen hp (by omega) hs, starts_no hs, ih]
/-- The numbers of the first orbits, one list. -/
theorem flat_has {gs : List (List Int)} {N k : Nat} (hp : PMs N gs) (hk : k ≤ N) {y : Nat} (hy : y < N) : hasB (orbs gs N k).flatten (y : Int) = sn gs N k y := by
  rw [hasB_dec, Bool.eq_iff_iff, decide_eq_true_eq, sn_starts hp k hk, List.mem_flatten]
  constructor
  · rintro ⟨l, hl, h⟩
    obtain ⟨z, hz, rfl⟩ := List.mem_map.1 hl
    obtain ⟨u, hu, e⟩ := List.mem_map.1 h
    have e2 : u = y := Int.ofNat.inj e
    subst e2
    exact ⟨z, hz, (mem_oN.1 hu).2⟩
  · rintro ⟨z, hz, h⟩
    exact ⟨oS gs N z, List.mem_map.2 ⟨z, hz, rfl⟩, List.mem_map.2 ⟨y, mem_oN.2 ⟨hy, h⟩, rfl⟩⟩
theorem oS_len (gs : List (List Int)) (N x : Nat) : (oS gs N x).length ≤ N := by
  unfold oS oN
  rw [List.length_map]
  have := List.length_filter_le (fun y => decide (y ∈ orb gs N x)) (List.range N)
  simpa using this
theorem flat_len (gs : List (List Int)) (N k : Nat) : (orbs gs N k).flatten.length ≤ k * N := by
  rw [List.length_flatten]
  have : ∀ l : List (List Int), (∀ y ∈ l, y.length ≤ N) → (l.map List.length).sum ≤ l.length * N := by
    intro l
    induction l with
    | nil => simp
    | cons a t ih =>
      intro h
      have h1 := ih fun y hy => h y (by simp [hy])
      have h2 := h a (by simp)
      rw [List.map_cons, List.sum_cons, List.length_cons, Nat.succ_mul]; omega
  refine Nat.le_trans (this _ fun y hy => ?_) (Nat.mul_le_mul_right N ?_)
  · obtain ⟨z, _, rfl⟩ := List.mem_map.1 hy
    exact oS_len gs N z
  · rw [orbs_len]; exact starts_le k

/-- append of a list of numbers; where the slice lies behind it. -/
theorem wpList_appN_at {w : World} {ops : Array Oper} {rest : List Oper} {o : Oper} {a : Act} {Q : Exit → Act → World → Prop} (hgd : o.guard = none) (s x : Operand)
    (ho : o.op = .call { callee := .builtin .append, args := #[s, x], argTypes := #[48, 48] })
    (base : Nat) (A : Option Addr) (n c : Nat) (xs : List Int) (hs : a.eval s = .slice A n c) (hown : Slc w base A n c xs) (g off m c2 : Nat) (ys : List Int) (hx : a.eval x = .slice (some ⟨g, off, none⟩) m c2)
    (hy : RI w w.heap.size (some ⟨g, off, none⟩) ys) (ly : ys.length = m) (hn : n + m ≤ 1000000000000) (hbase : base ≤ w.heap.size)
    (h : ∀ A' c' w', Slc w' base A' (n + m) c' (xs ++ ys) → w.grownBy w' (Value.slice A n c).ownBlock → ((Value.slice A' (n + m) c').ownBlock = (Value.slice A n c).ownBlock ∨ (Value.slice A' (n + m) c').ownBlock = some w.heap.size) → wpList Try.prog ops Q rest (a.put o.dst (.slice A' (n + m) c')) w') : wpList Try.prog ops Q (o :: rest) a w := by
  obtain ⟨i0, hi, hz0, hz1, hz2⟩ := info_parts infoI
  obtain ⟨hl, ho'⟩ := hown
  subst hl
  refine wpList_append_own_at w hgd s x 48 ho base 2 i0 (.int .i64 0) 1 8 Try.underlying48 hi hz0 hz1 hz2 rfl (by decide) _ xs.length _ hs ho' ⟨g, off, none⟩ m c2 (ys.map (Value.int .i64)) hx (by simp [ly]) ?_ ?_ ?_ (by omega) hbase ?_
  · intro j v hj
    have hjl : j < ys.length := by
      have := (List.getElem?_eq_some_iff.1 hj).1
      simpa using this
    have e : (⟨g, off, none⟩ : Addr).add j = ⟨g, off + j, none⟩ := by unfold Addr.add; split <;> simp_all
    rw [e, (hy.cellAt hjl).2]
    rw [List.getElem?_map, List.getElem?_eq_getElem hjl] at hj
    rw [← Option.some.inj hj, List.getD_eq_getElem?_getD, List.getElem?_eq_getElem hjl]; rfl
  · intro v hv; rw [List.mem_map] at hv; obtain ⟨u, _, rfl⟩ := hv; rfl
  · unfold maxLen; omega
  · intro v' w' hown' hg _ hat
    have hO : Own w' base v' (xs ++ ys) := by
      unfold Own
      rw [List.length_append, List.map_append, ly]
      exact hown'
    obtain ⟨A', c', rfl, hS⟩ := Slc.of_own (n := xs.length + m) hO (by simp [ly])
    exact h A' c' w' hS hg hat

theorem ne_sym {a b : Option Nat} (h : a = none ∨ a ≠ b) : b = none ∨ b ≠ a := by
  rcases h with rfl | h
  · rcases b with _ | q
    · exact .inl rfl
    · exact .inr (by simp)
  · exact .inr fun e => h e.symm

set_option maxHeartbeats 4000000 in
set_option maxRecDepth 100000 in
/-- allOrbits. -/
theorem specAllOrbs (N n c : Nat) (A : Option Addr) (vs : List SV) (gs : List (List Int)) (w : World) (hx : RR w w.heap.size A n vs gs) (hp : Hid (PMs N gs)) (hN : N ≤ 20) (hn : n ≤ 8) :
    Calls Try.prog 97 #[.int .i64 (N : Nat), .slice A n c] w fun e w' => ∃ A' m c' us, e = .returned (.slice A' m c') ∧ SS w' w.heap.size w.heap.size A' m c' us (orbs gs N N) ∧ Below w.heap.size w w' := by
  have HX := Lib.hid hx
  have S0 : Hid (SS ((w.alloc (.cells #[] 48)).alloc (.cells #[] 2)) w.heap.size w.heap.size (some ⟨w.heap.size, 0, none⟩) 0 0 [] []) := Lib.hid ((SS.lit0 w _ _ (Nat.le_refl _)).alloc _)
  have T0 : Hid (Slc ((w.alloc (.cells #[] 48)).alloc (.cells #[] 2)) w.heap.size (some ⟨w.heap.size + 1, 0, none⟩) 0 0 []) := Lib.hid (by
    have := Slc.lit0 (w.alloc (.cells #[] 48)) w.heap.size (by simp)
    rw [World.size_alloc] at this; exact this)
  have B0 : Hid (Below w.heap.size w ((w.alloc (.cells #[] 48)).alloc (.cells #[] 2))) := Lib.hid (((Below.refl _ _).alloc (Nat.le_refl _) _).alloc (by simp) _)
  clear hx
  go_enter Try.func97, Try.ntmps97
  go_wp2
  go_loopw [5, 6, 7] (fun o s i wr => ∃ k A1 m1 c1 us A2 n2 c2, k ≤ N ∧ i = .int .i64 (k : Nat) ∧ o = .slice A1 m1 c1 ∧ s = .slice A2 n2 c2 ∧ SS wr w.heap.size w.heap.size A1 m1 c1 us (orbs gs N k) ∧ Slc wr w.heap.size A2 n2 c2 (orbs gs N k).flatten ∧
    (∀ i, i < m1 → (sval (us.getD i sd0)).ownBlock = none ∨ (sval (us.getD i sd0)).ownBlock ≠ (Value.slice A2 n2 c2).ownBlock) ∧ Below w.heap.size w wr) (fun _ _ i _ => N - (intOf i).toNat)
  case atStart => exact ⟨0, _, _, _, [], _, _, _, Nat.zero_le _, rfl, rfl, rfl, S0.out, T0.out, fun i h => absurd h (by omega), B0.out⟩
  case round =>
    clear S0 T0 B0
    obtain ⟨k, A1, m1, c1, us, A2, n2, c2, hk, rfl, rfl, rfl, ss, sl, dj, bel⟩ := hrel
    have Ss := Lib.hid ss
    have Sl := Lib.hid sl
    have Dj := Lib.hid dj
    have Be := Lib.hid bel
    have hn2 : n2 ≤ 400 := by rw [← sl.1]; have := flat_len gs N k; have := Nat.mul_le_mul hk (Nat.le_refl N); have := Nat.mul_le_mul hN hN; omega
    have hm1 : m1 ≤ 20 := by rw [← ss.lx, orbs_len]; have := starts_le (gs := gs) (N := N) k; omega
    clear ss sl dj bel
    by_cases hlt : k < N
    · have Hb := Lib.hid (flat_has hp.out hk hlt)
      obtain ⟨b, hbv⟩ : ∃ b, sn gs N k k = b := ⟨_, rfl⟩
      rw [hbv] at Hb
      go_wp2_with fail
      refine (containsI_any A2 c2 n2 _ (k : Int) wr _ Sl.out.ri_ Sl.out.hid (by omega) b Hb).mono ?_
      rintro e w1 ⟨rfl, rfl⟩
      rcases b with _ | _
      · have Oy := Lib.hid (orbs_yes hbv)
        clear hbv Hb
        go_wp2_with fail
        refine (specOrbOf k A n c N vs gs wr (HX.out.up Be.out) hp hlt (by omega) hn).mono ?_
        rintro e w2 ⟨g2, d2, rfl, s2, b2⟩
        have S2 := Lib.hid s2
        have B2 := Lib.hid b2
        obtain ⟨M, hM⟩ : ∃ M, (orb gs N k).length = M := ⟨_, rfl⟩
        have hM20 : M ≤ 20 := by rw [← hM]; have := (orb_fd hp.out hlt).len; omega
        rw [hM] at S2 ⊢
        clear s2 b2 hM
        go_wp2_with fail
        refine (specSorted (some ⟨g2, 0, none⟩) M d2 ((orb gs N k).map Int.ofNat) w2 S2.out.ri_ S2.out.hid (Lib.hid ?_) (by omega)).mono ?_
        · exact ((orb_fd hp.out hlt).nd).map Int.ofNat (fun a b hab e => hab (Int.ofNat.inj e))
        rintro e w3 ⟨g3, c3, zs, rfl, s3, p3, st3, b3⟩
        have S3 : Hid (Slc w3 wr.heap.size (some ⟨g3, 0, none⟩) M c3 (oS gs N k)) := Lib.hid (by rw [← oS_of hp.out hlt p3 st3]; exact s3.mono B2.out.size)
        have B3 : Hid (Below wr.heap.size wr w3) := Lib.hid (btr B2.out b3)
        have Be3 : Hid (Below w.heap.size w w3) := Lib.hid (btr Be.out B3.out)
        have D3 := Lib.hid (lies_dis Ss.out S3.out.lies (Nat.le_refl _))
        have Ss3 := Lib.hid (Ss.out.up B3.out)
        have Sl3 := Lib.hid (Sl.out.up B3.out)
        have D4 : Hid ((Value.slice (some ⟨g3, 0, none⟩) M c3).ownBlock = none ∨ (Value.slice (some ⟨g3, 0, none⟩) M c3).ownBlock ≠ (Value.slice A2 n2 c2).ownBlock) := Lib.hid (S3.out.lies.apart Sl.out.lies (.inr (Nat.le_refl _)))
        have hz3 := Be3.out.size
        clear s3 p3 st3 b3
        go_wp2_with (first
          | (at_builtin; refine wpList_app2 rfl _ _ rfl rfl (Ss3.out.alloc _) w3.heap.size (some ⟨g3, 0, none⟩) M c3 _ rfl (by rw [World.cell?_alloc_at _ _ _ _ rfl]; rfl) ((S3.out.mono Be.out.size).alloc _) D3.out (by omega) (by simp; omega) ?_; intro A5 c5 w5 ss5 hg5
             have Ss5 := Lib.hid ss5
             have Sl5 : Hid (Slc w5 w.heap.size A2 n2 c2 (orbs gs N k).flatten) := Lib.hid ((Sl3.out.alloc (.cells #[.slice (some ⟨g3, 0, none⟩) M c3] 48)).kept hg5 (apart_types Sl3.out Ss3.out.own))
             have R5 : Hid (RI w5 w5.heap.size (some ⟨g3, 0, none⟩) (oS gs N k)) := Lib.hid (((S3.out.alloc (.cells #[.slice (some ⟨g3, 0, none⟩) M c3] 48)).kept hg5 (apart_types S3.out Ss3.out.own)).ri_)
             have Be5 : Hid (Below w.heap.size w w5) := Lib.hid ((Be3.out.alloc hz3 _).grown hg5 (by simp; omega) (fun j hj => (Ss3.out.lt_ j hj).1))
             clear ss5 hg5)
          | (at_builtin; refine wpList_appN_at rfl _ _ rfl w.heap.size A2 n2 c2 _ rfl Sl5.out g3 0 M c3 (oS gs N k) rfl R5.out S3.out.1 (by omega) Be5.out.size ?_; intro A6 c6 w6 s6 g6 h6))
        have Sl6 : Hid (Slc w6 w.heap.size A6 (n2 + M) c6 (orbs gs N (k + 1)).flatten) := Lib.hid (by rw [Oy.out, List.flatten_append]; simpa using s6)
        have hrow : ∀ i, i < m1 + 1 → (sval ((us ++ [((some ⟨g3, 0, none⟩, M, c3) : SV)]).getD i sd0)).ownBlock = none ∨ (sval ((us ++ [((some ⟨g3, 0, none⟩, M, c3) : SV)]).getD i sd0)).ownBlock ≠ (Value.slice A2 n2 c2).ownBlock := fun i hi => by
          by_cases e : i < m1
          · rw [getD_app _ _ _ _ (by rw [Ss.out.lv]; exact e)]; exact Dj.out i e
          · rw [getD_snoc _ _ _ _ (by rw [Ss.out.lv]; omega)]; exact D4.out
        have Ss6 : Hid (SS w6 w.heap.size w.heap.size A5 (m1 + 1) c5 (us ++ [((some ⟨g3, 0, none⟩, M, c3) : SV)]) (orbs gs N (k + 1))) := Lib.hid (by
          rw [Oy.out]
          exact Ss5.out.keptR g6 (ne_sym (apart_types Sl5.out Ss5.out.own)) hrow)
        have Dj6 : Hid (∀ i, i < m1 + 1 → (sval ((us ++ [((some ⟨g3, 0, none⟩, M, c3) : SV)]).getD i sd0)).ownBlock = none ∨ (sval ((us ++ [((some ⟨g3, 0, none⟩, M, c3) : SV)]).getD i sd0)).ownBlock ≠ (Value.slice A6 (n2 + M) c6).ownBlock) := Lib.hid fun i hi => by
          rcases h6 with e | e
          · rw [e]; exact hrow i hi
          · rw [e]
            rcases e2 : (sval ((us ++ [((some ⟨g3, 0, none⟩, M, c3) : SV)]).getD i sd0)).ownBlock with _ | q
            · exact .inl rfl
            · have := ((Ss5.out.row i hi).lt_ q e2).2
              exact .inr fun e3 => by have := Option.some.inj e3; omega
        have Be6 : Hid (Below w.heap.size w w6) := Lib.hid (Be5.out.grown g6 Be5.out.size (fun j hj => (Sl5.out.lt_ j hj).1))
        clear s6 g6 h6 hrow
        go_wp2
        go_roundw
        case rel => exact ⟨k + 1, _, _, _, _, _, _, _, by omega, by go_num, rfl, rfl, Ss6.out, Sl6.out, Dj6.out, Be6.out⟩
        case measure => simp [intOf]; omega
      · have On := Lib.hid (orbs_no hbv)
        clear hbv Hb
        go_wp2
        go_roundw
        case rel => exact ⟨k + 1, _, _, _, us, _, _, _, by omega, by go_num, rfl, rfl, by rw [On.out]; exact Ss.out, by rw [On.out]; exact Sl.out, Dj.out, Be.out⟩
        case measure => simp [intOf]; omega
    · have hkn : k = N := by omega
      subst hkn
      go_wp2
      go_ret
      exact ⟨_, _, _, _, rfl, Ss.out, Be.out⟩

/-- What Orbits answers. -/
def orbitsL (n : Int) (gs : List (List Int)) : List (List Int) := if gB n gs = true then orbs gs n.toNat n.toNat else []
theorem orbitsL_ok (n : Int) (gs : List (List Int)) : (orbitsL n gs).length ≤ 20 ∧ ∀ y ∈ orbitsL n gs, y.length ≤ 20 := by
  unfold orbitsL
  split
  · rename_i h
    obtain ⟨N, rfl, _, hN, _⟩ := gB_pm h
    refine ⟨by rw [orbs_len]; have := starts_le (gs := gs) (N := N) N; simp; omega, fun y hy => ?_⟩
    obtain ⟨z, _, rfl⟩ := List.mem_map.1 hy
    have := oS_len gs N z
    simp; omega
  · exact ⟨Nat.zero_le _, fun y hy => by cases hy⟩


set_option maxHeartbeats 1600000 in
set_option maxRecDepth 100000 in
/-- The model's IsTransitive. -/
theorem specIsTransitive (a : Int) (A : Option Addr) (n c : Nat) (vs : List SV) (xss : List (List Int)) (w : World) (hx : RR w w.heap.size A n vs xss) (hn : n ≤ 1048576) (hl : Hid (∀ i, i < n → (vs.getD i sd0).2.1 ≤ 1048576)) (ha : -9223372036854775808 ≤ a ∧ a ≤ 9223372036854775807) :
    Calls Try.prog 69 #[.int .i64 a, .slice A n c] w fun e w' => e = .returned (.bool (transB a xss)) ∧ Below w.heap.size w w' := by
  rcases hs : gB a xss with _ | _
  · have Fin : Hid (transB a xss = false) := Lib.hid (by unfold transB; rw [hs]; rfl)
    go_enter Try.func69, Try.ntmps69
    go_wp2_with fail
    have K0 := specGS a A n c vs xss w hx hn hl ha
    refine K0.mono ?_
    rintro e w1 ⟨rfl, b1⟩
    have B1 := Lib.hid b1
    clear b1 K0
    rw [hs]
    go_wp2_with fail
    go_ret
    exact ⟨ret_bool Fin.out.symm, B1.out⟩
  · obtain ⟨N, hN, hN1, hN2, hg8, hpm, hok⟩ := gB_pm hs
    subst hN
    have Fin : Hid (transB N xss = decide ((orbs xss N N).length = 1)) := Lib.hid (by unfold transB; rw [hs]; rfl)
    have Pm := Lib.hid hpm
    have HX := Lib.hid hx
    have hlx := hx.lx
    clear hok hpm
    go_enter Try.func69, Try.ntmps69
    go_wp2_with fail
    have K0 := specGS N A n c vs xss w hx hn hl ha
    refine K0.mono ?_
    rintro e w1 ⟨rfl, b1⟩
    have B1 := Lib.hid b1
    clear b1 hx K0
    rw [hs]
    clear hs
    go_wp2_with fail
    refine (specAllOrbs N n c A vs xss w1 (HX.out.up B1.out) Pm hN2 (by omega)).mono ?_
    rintro e w2 ⟨A2, m2, c2, us, rfl, s2, b2⟩
    have Hm : Hid ((orbs xss N N).length = m2) := Lib.hid s2.lx
    have B2 : Hid (Below w.heap.size w w2) := Lib.hid (btr B1.out b2)
    clear s2 b2
    by_cases h1 : m2 = 1
    · subst h1
      go_wp2
      go_ret
      exact ⟨by rw [Fin.out, Hm.out]; rfl, B2.out⟩
    · have d1 : ((m2 : Int) == 1) = false := by simp; omega
      have Fin2 : Hid (transB N xss = false) := Lib.hid (by rw [Fin.out, Hm.out]; simpa using h1)
      go_wp2
      go_ret
      exact ⟨ret_bool Fin2.out.symm, B2.out⟩
end Go.Proofs.Ytedfcljikgmpgaa

/- minimalBlocks, MinimalBlockSystem and IsPrimitive of the model. Conditions: at most 1048576 lists of at most 1048576 numbers. -/
namespace Go.Proofs.Ytedfcljikgmpgaa
open Go.RowKit

/-- What the search for the least keeps of its labels. -/
structure MI (gs : List (List Int)) (N x y : Nat) (ls : List Int) : Prop where
  lb : Lbl N ls
  eq : nx ls x = nx ls y
  least : ∀ q, CM gs N x y q → Rf N (nx ls) q
/-- The pairs that a pass has seen are closed. -/
def PD (gs : List (List Int)) (N : Nat) (ls : List Int) (k i j : Nat) : Prop := ∀ k' i' j', (k' < k ∨ (k' = k ∧ (i' < i ∨ (i' = i ∧ j' < j)))) → k' < gs.length → i' < N → j' < i' → nx ls i' = nx ls j' → nx ls (nx (gs.getD k' []) i') = nx ls (nx (gs.getD k' []) j')
section
variable {gs : List (List Int)} {N x y k i j : Nat} {ls : List Int}
theorem PD.zero : PD gs N ls 0 0 0 := fun k' i' j' h => by omega
theorem PD.nexti (h : PD gs N ls k i j) (hj : i ≤ j) : PD gs N ls k (i + 1) 0 := fun k' i' j' h1 h2 h3 h4 => h k' i' j' (by omega) h2 h3 h4
theorem PD.nextk (h : PD gs N ls k i j) (hi : N ≤ i) : PD gs N ls (k + 1) 0 0 := fun k' i' j' h1 h2 h3 h4 => h k' i' j' (by omega) h2 h3 h4
theorem PD.next (h : PD gs N ls k i j) (hp : nx ls i = nx ls j → nx ls (nx (gs.getD k []) i) = nx ls (nx (gs.getD k []) j)) : PD gs N ls k i (j + 1) := fun k' i' j' h1 h2 h3 h4 e => by
  by_cases e2 : k' = k ∧ i' = i ∧ j' = j
  · obtain ⟨rfl, rfl, rfl⟩ := e2
    exact hp e
  · exact h k' i' j' (by omega) h2 h3 h4 e
theorem PD.closed (h : PD gs N ls gs.length 0 0) : ∀ g ∈ gs, Rf N (nx ls) fun u => nx ls (nx g u) := fun g hg u v hu hv e => by
  obtain ⟨k', hk', rfl⟩ := List.mem_iff_getElem.1 hg
  show nx ls (nx gs[k'] u) = nx ls (nx gs[k'] v)
  rcases Nat.lt_trichotomy u v with hlt | rfl | hlt
  · have := h k' v u (.inl hk') hk' hv hlt e.symm
    rw [getD_L hk'] at this
    exact this.symm
  · rfl
  · have := h k' u v (.inl hk') hk' hu hlt e
    rw [getD_L hk'] at this
    exact this
theorem MI.start (hx : x < N) (hy : y < N) : MI gs N x y (mrgL (idL N) (x : Int) (y : Int)) := by
  have h1 := (lbl_id N).mrg (a := x) (b := y) hx
  have hm : Mg N (nx (idL N)) (nx (mrgL (idL N) (x : Int) (y : Int))) x y := mg_of hx hy fun u hu => by rw [h1.2 u hu, nx_id hu, nx_id hx, nx_id hy]
  exact ⟨h1.1, hm.eq, fun q hq => hm.least q (fun u v hu hv e => by rw [nx_id hu, nx_id hv] at e; rw [e]) hq.1⟩
theorem MI.step (h : MI gs N x y ls) (hg : ∀ g ∈ gs, Pn N g) {g : List Int} (hgm : g ∈ gs) (hx : x < N) (hy : y < N) (hi : i < N) (hj : j < N) (e : nx ls i = nx ls j) (hne : nx ls (nx g i) ≠ nx ls (nx g j)) :
    MI gs N x y (mrgL ls (nx ls (nx g i) : Nat) (nx ls (nx g j) : Nat)) ∧ cls N (nx (mrgL ls (nx ls (nx g i) : Nat) (nx ls (nx g j) : Nat))) < cls N (nx ls) := by
  have gi := (hg g hgm).lt hi
  have gj := (hg g hgm).lt hj
  have h1 := h.lb.mrg (a := nx ls (nx g i)) (b := nx ls (nx g j)) (h.lb.lt gi)
  have hm : Mg N (nx ls) (nx (mrgL ls (nx ls (nx g i) : Nat) (nx ls (nx g j) : Nat))) (nx g i) (nx g j) := mg_of gi gj h1.2
  refine ⟨⟨h1.1, hm.up x y hx hy h.eq, fun q hq => hm.least q (h.least q hq) (hq.2 g hgm i j hi hj (h.least q hq i j hi hj e))⟩, hm.cls gi gj hne⟩
theorem MI.lst (h : MI gs N x y ls) (hc : ∀ g ∈ gs, Rf N (nx ls) fun u => nx ls (nx g u)) : LstM gs N x y (nx ls) := ⟨⟨h.eq, hc⟩, h.least⟩
end

set_option maxHeartbeats 8000000 in
set_option maxRecDepth 100000 in
/-- minimalBlocks. -/
theorem specMinB (N n c X Y : Nat) (A : Option Addr) (vs : List SV) (gs : List (List Int)) (w : World) (hx : RR w w.heap.size A n vs gs) (Ok : Hid (∀ g ∈ gs, Pn N g)) (hn8 : n ≤ 8) (h1 : 1 ≤ N) (h2 : N ≤ 20) (hX : X < N) (hY : Y < N) :
    Calls Try.prog 59 #[.int .i64 (N : Nat), .slice A n c, .int .i64 (X : Nat), .int .i64 (Y : Nat)] w fun e w' => ∃ A' m' c' us r, e = .returned (.slice A' m' c') ∧ LstM gs N X Y r ∧ SS w' w.heap.size w.heap.size A' m' c' us (canon N r) ∧ Below w.heap.size w w' := by
  have HX := Lib.hid hx
  have hln : Hid (gs.length = n) := Lib.hid hx.lx
  clear hx
  go_enter Try.func59, Try.ntmps59
  go_wp2_with fail
  refine (specIdent N w (by omega)).mono ?_
  rintro e w1 ⟨A1, c1, rfl, s1, b1⟩
  have S1 := Lib.hid s1
  have B1 := Lib.hid b1
  clear s1 b1
  go_wp2_with fail
  refine (specMrg N c1 A1 (idL N) X Y w1 S1.out.ri_ (Lib.hid S1.out.1) h1 h2).mono ?_
  rintro e w2 ⟨A2, c2, rfl, s2, b2⟩
  have B2 : Hid (Below w.heap.size w w2) := Lib.hid (btr B1.out b2)
  have S2 : Hid (Slc w2 w.heap.size A2 N c2 (mrgL (idL N) X Y)) := Lib.hid (s2.mono B1.out.size)
  have M0 : Hid (MI gs N X Y (mrgL (idL N) X Y)) := Lib.hid (MI.start hX hY)
  clear s2 b2
  go_wp2_with fail
  go_loopg [9, 10] (2 * N + 1) (fun gg lv cv wr => ∃ (ch : Bool) (cl : Nat) (L : Option Addr) (ls : List Int), cv = .bool ch ∧ lv = .slice L N cl ∧ Slc wr w.heap.size L N cl ls ∧ MI gs N X Y ls ∧ (ch = false → ∀ g ∈ gs, Rf N (nx ls) fun u => nx ls (nx g u)) ∧ 2 * cls N (nx ls) + (if ch then 1 else 0) ≤ gg ∧ Below w.heap.size w wr)
  case atStart => exact ⟨true, c2, A2, _, rfl, rfl, S2.out, M0.out, fun h => (by cases h), by have := cls_le N (nx (mrgL (idL N) X Y)); simp; omega, B2.out⟩
  case round =>
    clear S2 M0 B2 S1 B1
    obtain ⟨ch, cl, L, ls, rfl, rfl, hs, hmi, hcl, hgg, bel⟩ := hrel
    have Sl := Lib.hid hs
    have Mi := Lib.hid hmi
    have Be := Lib.hid bel
    have hz := bel.size
    clear hs hmi bel
    rcases ch with _ | _
    · have Lm : Hid (LstM gs N X Y (nx ls)) := Lib.hid (Mi.out.lst (hcl rfl))
      clear hcl
      go_wp2_with (go_at_call 68; fail)
      refine (specL2B N cl L ls wr Sl.out.ri_ (Lib.hid Mi.out.lb) h1 h2).mono ?_
      rintro e w3 ⟨A3, n3, c3, us, rfl, s3, b3⟩
      have S3 : Hid (SS w3 w.heap.size w.heap.size A3 n3 c3 us (canon N (nx ls))) := Lib.hid (s3.mono hz hz)
      have B3 : Hid (Below w.heap.size w w3) := Lib.hid (btr Be.out b3)
      clear s3 b3
      go_wp2_with fail
      go_ret
      exact ⟨_, _, _, us, _, rfl, Lm.out, S3.out, B3.out⟩
    · obtain ⟨C0, eC0⟩ : ∃ C0, cls N (nx ls) = C0 := ⟨_, rfl⟩
      have hgg2 := hgg
      rw [eC0, if_pos rfl] at hgg2
      have Le0 : Hid (cls N (nx ls) ≤ C0) := Lib.hid (by omega)
      clear hcl hgg eC0
      go_wp2_with fail
      go_loopw [9, 10, 11] (fun lv cv kv wr2 => ∃ (k : Nat) (ch : Bool) (cl : Nat) (L : Option Addr) (ls : List Int), k ≤ n ∧ kv = .int .i64 (k : Nat) ∧ cv = .bool ch ∧ lv = .slice L N cl ∧ Slc wr2 w.heap.size L N cl ls ∧ MI gs N X Y ls ∧ ((ch = false ∧ PD gs N ls k 0 0 ∧ cls N (nx ls) ≤ C0) ∨ (ch = true ∧ cls N (nx ls) < C0)) ∧ Below w.heap.size w wr2) (fun _ _ kv _ => n - (intOf kv).toNat)
      case atStart => exact ⟨0, false, cl, L, ls, Nat.zero_le _, rfl, rfl, rfl, Sl.out, Mi.out, .inl ⟨rfl, .zero, Le0.out⟩, Be.out⟩
      case round =>
        clear Sl Mi Be Le0
        obtain ⟨k, ch, cl, L, ls, hk, rfl, rfl, rfl, hs, hmi, hst, bel⟩ := hrel
        have Sl := Lib.hid hs
        have Mi := Lib.hid hmi
        have St := Lib.hid hst
        have Be := Lib.hid bel
        clear hs hmi hst bel
        by_cases hlt : k < n
        · obtain ⟨g, eg⟩ : ∃ g, gs.getD k [] = g := ⟨_, rfl⟩
          have hgm : g ∈ gs := by rw [← eg]; exact getD_memL (by rw [hln.out]; exact hlt)
          have Gm := Lib.hid hgm
          have Gp : Hid (Pn N g) := Lib.hid (Ok.out g hgm)
          have Eg := Lib.hid eg
          have KX : Hid (∀ W : World, Below w.heap.size w W → ∃ b5 o5 A5 c5, A = some ⟨b5, o5, none⟩ ∧ W.cell? ⟨b5, o5 + k, none⟩ = some (.slice A5 N c5) ∧ RI W w.heap.size A5 g) := Lib.hid fun W hW => by
            obtain ⟨b', o', A', l', c', y', e', hb', ev', ey', x', r', ly', _⟩ := (HX.out.below hW (Nat.le_refl _)).at_ hlt
            rw [eg] at ey'
            subst ey'
            obtain rfl : l' = N := by have := (Ok.out g hgm).2; omega
            exact ⟨b', o', A', c', e', x', r'⟩
          have q0 : (0 : Int) ≤ k := by omega
          have q1 : (k : Int) < n := by omega
          have St0 : Hid ((ch = false ∧ PD gs N ls k 0 0 ∧ cls N (nx ls) ≤ C0) ∨ (ch = true ∧ cls N (nx ls) < C0)) := St
          clear hgm eg St
          go_wp2_with fail
          go_loopw [9, 10, 12] (fun lv cv iv wr2 => ∃ (i : Nat) (ch : Bool) (cl : Nat) (L : Option Addr) (ls : List Int), i ≤ N ∧ iv = .int .i64 (i : Nat) ∧ cv = .bool ch ∧ lv = .slice L N cl ∧ Slc wr2 w.heap.size L N cl ls ∧ MI gs N X Y ls ∧ ((ch = false ∧ PD gs N ls k i 0 ∧ cls N (nx ls) ≤ C0) ∨ (ch = true ∧ cls N (nx ls) < C0)) ∧ Below w.heap.size w wr2) (fun _ _ iv _ => N - (intOf iv).toNat)
          case atStart => exact ⟨0, ch, cl, L, ls, Nat.zero_le _, rfl, rfl, rfl, Sl.out, Mi.out, St0.out, Be.out⟩
          case round =>
            clear Sl Mi St0 Be
            obtain ⟨i, ch, cl, L, ls, hi, rfl, rfl, rfl, hs, hmi, hst, bel⟩ := hrel
            have Sl := Lib.hid hs
            have Mi := Lib.hid hmi
            have St := Lib.hid hst
            have Be := Lib.hid bel
            clear hs hmi hst bel
            by_cases hlti : i < N
            · go_wp2_with fail
              go_loopw [9, 10, 13] (fun lv cv jv wr2 => ∃ (j : Nat) (ch : Bool) (cl : Nat) (L : Option Addr) (ls : List Int), j ≤ i ∧ jv = .int .i64 (j : Nat) ∧ cv = .bool ch ∧ lv = .slice L N cl ∧ Slc wr2 w.heap.size L N cl ls ∧ MI gs N X Y ls ∧ ((ch = false ∧ PD gs N ls k i j ∧ cls N (nx ls) ≤ C0) ∨ (ch = true ∧ cls N (nx ls) < C0)) ∧ Below w.heap.size w wr2) (fun _ _ jv _ => i - (intOf jv).toNat)
              case atStart => exact ⟨0, ch, cl, L, ls, Nat.zero_le _, rfl, rfl, rfl, Sl.out, Mi.out, St.out, Be.out⟩
              case round =>
                clear Sl Mi St Be
                obtain ⟨j, ch, cl, L, ls, hj, rfl, rfl, rfl, hs, hmi, hst, bel⟩ := hrel
                have Sl := Lib.hid hs
                have Mi := Lib.hid hmi
                have St := Lib.hid hst
                have Be := Lib.hid bel
                have hz := bel.size
                clear hs hmi hst bel
                by_cases hltj : j < i
                · have hjN : j < N := by omega
                  obtain ⟨b5, o5, A5, c5, rfl, x5, r5⟩ := KX.out _ Be.out
                  obtain ⟨bg, og, rfl, hbg, hcg⟩ := r5 (by rw [Gp.out.2]; omega)
                  have gi := hcg i (by rw [Gp.out.2]; exact hlti)
                  have gj := hcg j (by rw [Gp.out.2]; exact hjN)
                  rw [nx_val Gp.out.1 (by rw [Gp.out.2]; exact hlti)] at gi
                  rw [nx_val Gp.out.1 (by rw [Gp.out.2]; exact hjN)] at gj
                  obtain ⟨I, eI⟩ : ∃ I, nx g i = I := ⟨_, rfl⟩
                  obtain ⟨J, eJ⟩ : ∃ J, nx g j = J := ⟨_, rfl⟩
                  have hI : I < N := by rw [← eI]; exact Gp.out.lt hlti
                  have hJ : J < N := by rw [← eJ]; exact Gp.out.lt hjN
                  rw [eI] at gi
                  rw [eJ] at gj
                  obtain ⟨bl, ol, rfl, hbl, hcl⟩ := Sl.out.ri_ (by rw [Mi.out.lb.len]; omega)
                  have lI := hcl I (by rw [Mi.out.lb.len]; exact hI)
                  have lJ := hcl J (by rw [Mi.out.lb.len]; exact hJ)
                  have li := hcl i (by rw [Mi.out.lb.len]; exact hlti)
                  have lj := hcl j (by rw [Mi.out.lb.len]; exact hjN)
                  rw [Mi.out.lb.val hI] at lI
                  rw [Mi.out.lb.val hJ] at lJ
                  rw [Mi.out.lb.val hlti] at li
                  rw [Mi.out.lb.val hjN] at lj
                  obtain ⟨a, ea⟩ : ∃ a, nx ls I = a := ⟨_, rfl⟩
                  obtain ⟨b, eb⟩ : ∃ b, nx ls J = b := ⟨_, rfl⟩
                  obtain ⟨p, ep⟩ : ∃ p, nx ls i = p := ⟨_, rfl⟩
                  obtain ⟨q, eq⟩ : ∃ q, nx ls j = q := ⟨_, rfl⟩
                  rw [ea] at lI
                  rw [eb] at lJ
                  rw [ep] at li
                  rw [eq] at lj
                  have EI := Lib.hid eI
                  have EJ := Lib.hid eJ
                  have Ea := Lib.hid ea
                  have Eb := Lib.hid eb
                  have Ep := Lib.hid ep
                  have Eq := Lib.hid eq
                  have r0 : (0 : Int) ≤ i := by omega
                  have r1 : (i : Int) < N := by omega
                  have r2 : (0 : Int) ≤ j := by omega
                  have r3 : (j : Int) < N := by omega
                  have r4 : (I : Int) < N := by omega
                  have r5' : (J : Int) < N := by omega
                  have BD : Hid (∀ t, Below w.heap.size w (wr.drewN t)) := Lib.hid fun t => below_drewN Be.out t
                  have SD : Hid (∀ t, Slc (wr.drewN t) w.heap.size (some ⟨bl, ol, none⟩) N cl ls) := Lib.hid fun t => Sl.out.drewN t
                  clear hcg hcl eI eJ ea eb ep eq hbg hbl r5
                  by_cases hpq : p = q
                  · have d0 : ((p : Int) == (q : Int)) = true := by rw [hpq]; simp
                    by_cases hab : a = b
                    · have d1 : ((a : Int) != (b : Int)) = false := by rw [hab]; simp
                      have d2 : ((a : Int) == (b : Int)) = true := by rw [hab]; simp
                      have St2 : Hid ((ch = false ∧ PD gs N ls k i (j + 1) ∧ cls N (nx ls) ≤ C0) ∨ (ch = true ∧ cls N (nx ls) < C0)) := Lib.hid (St.out.imp (fun ⟨u, v, z⟩ => ⟨u, v.next fun _ => by rw [Eg.out, EI.out, EJ.out, Ea.out, Eb.out, hab], z⟩) id)
                      clear hpq hab
                      go_wp2_with fail
                      go_quiet (fail)
                      go_wp2_with fail
                      go_roundw
                      case rel => exact ⟨j + 1, ch, cl, _, ls, by omega, by go_num, rfl, rfl, SD.out _, Mi.out, St2.out, BD.out _⟩
                      case measure => simp [intOf]; omega
                    · have d1 : ((a : Int) != (b : Int)) = true := by rw [bne_iff_ne]; omega
                      have d2 : ((a : Int) == (b : Int)) = false := by rw [beq_eq_false_iff_ne]; omega
                      have Ms := Mi.out.step Ok.out Gm.out hX hY hlti hjN (by rw [Ep.out, Eq.out, hpq]) (by rw [EI.out, EJ.out, Ea.out, Eb.out]; exact hab)
                      rw [EI.out, EJ.out, Ea.out, Eb.out] at Ms
                      have Mi2 := Lib.hid Ms.1
                      have Lt2 : Hid (cls N (nx (mrgL ls (a : Nat) (b : Nat))) < C0) := Lib.hid (by
                        have h7 := Ms.2
                        rcases St.out with ⟨_, _, h8⟩ | ⟨_, h8⟩ <;> omega)
                      clear hpq hab Ms
                      go_wp2_with fail
                      go_quiet (fail)
                      go_wp2_with (go_at_call 67; fail)
                      obtain ⟨w5, hw5⟩ : ∃ w5, wr.drewN nq = w5 := ⟨_, rfl⟩
                      have S5 := SD.out nq
                      have B5 := BD.out nq
                      rw [hw5] at S5 B5 ⊢
                      have Sl5 := Lib.hid S5
                      have Be5 := Lib.hid B5
                      have hz5 := B5.size
                      clear hw5 S5 B5
                      refine (specMrg N cl _ ls a b w5 Sl5.out.ri_ (Lib.hid Sl5.out.1) h1 h2).mono ?_
                      rintro e w6 ⟨A6, c6, rfl, s6, b6⟩
                      have S6 : Hid (Slc w6 w.heap.size A6 N c6 (mrgL ls (a : Nat) (b : Nat))) := Lib.hid (s6.mono hz5)
                      have B6 : Hid (Below w.heap.size w w6) := Lib.hid (btr Be5.out b6)
                      clear s6 b6
                      go_wp2_with fail
                      go_roundw
                      case rel => exact ⟨j + 1, true, c6, A6, _, by omega, by go_num, rfl, rfl, S6.out, Mi2.out, .inr ⟨rfl, Lt2.out⟩, B6.out⟩
                      case measure => simp [intOf]; omega
                  · have d0 : ((p : Int) == (q : Int)) = false := by rw [beq_eq_false_iff_ne]; omega
                    have St2 : Hid ((ch = false ∧ PD gs N ls k i (j + 1) ∧ cls N (nx ls) ≤ C0) ∨ (ch = true ∧ cls N (nx ls) < C0)) := Lib.hid (St.out.imp (fun ⟨u, v, z⟩ => ⟨u, v.next fun e => absurd (by rw [Ep.out, Eq.out] at e; exact e) hpq, z⟩) id)
                    clear hpq
                    go_wp2_with fail
                    go_quiet (fail)
                    go_wp2_with fail
                    go_roundw
                    case rel => exact ⟨j + 1, ch, cl, _, ls, by omega, by go_num, rfl, rfl, SD.out _, Mi.out, St2.out, BD.out _⟩
                    case measure => simp [intOf]; omega
                · obtain rfl : j = i := by omega
                  have St2 : Hid ((ch = false ∧ PD gs N ls k (j + 1) 0 ∧ cls N (nx ls) ≤ C0) ∨ (ch = true ∧ cls N (nx ls) < C0)) := Lib.hid (St.out.imp (fun ⟨u, v, z⟩ => ⟨u, v.nexti (Nat.le_refl _), z⟩) id)
                  go_wp2_with fail
                  go_roundw
                  case rel => exact ⟨j + 1, ch, cl, L, ls, by omega, by go_num, rfl, rfl, Sl.out, Mi.out, St2.out, Be.out⟩
                  case measure => simp [intOf]; omega
            · obtain rfl : i = N := by omega
              have St2 : Hid ((ch = false ∧ PD gs i ls (k + 1) 0 0 ∧ cls i (nx ls) ≤ C0) ∨ (ch = true ∧ cls i (nx ls) < C0)) := Lib.hid (St.out.imp (fun ⟨u, v, z⟩ => ⟨u, v.nextk (Nat.le_refl _), z⟩) id)
              go_wp2_with fail
              go_roundw
              case rel => exact ⟨k + 1, ch, cl, L, ls, by omega, by go_num, rfl, rfl, Sl.out, Mi.out, St2.out, Be.out⟩
              case measure => simp [intOf]; omega
        · obtain rfl : k = n := by omega
          have Fin : Hid ((ch = false → ∀ g ∈ gs, Rf N (nx ls) fun u => nx ls (nx g u)) ∧ 2 * cls N (nx ls) + (if ch then 1 else 0) ≤ 2 * C0) := Lib.hid (by
            rcases St.out with ⟨rfl, hpd, hle⟩ | ⟨rfl, hlt⟩
            · refine ⟨fun _ => PD.closed (by rw [hln.out]; exact hpd), ?_⟩
              simp; omega
            · refine ⟨fun h => (by cases h), ?_⟩
              simp; omega)
          go_wp2_with fail
          go_roundg (2 * C0)
          case rel => exact ⟨ch, cl, L, ls, rfl, rfl, Sl.out, Mi.out, Fin.out.1, Fin.out.2, Be.out⟩
          case measure => omega
end Go.Proofs.Ytedfcljikgmpgaa

/- MinimalBlockSystem, IsPrimitive, copyLists and JoinBlockSystems of the model. Conditions: at most 1048576 lists of at most 1048576 numbers. -/
namespace Go.Proofs.Ytedfcljikgmpgaa
open Go.RowKit

set_option maxHeartbeats 4000000 in
set_option maxRecDepth 100000 in
/-- MinimalBlockSystem. -/
theorem ctMin : CtImiiM 22 IsMin := by
  intro a A n c vs xss x y w g ha _ _
  have HX := Lib.hid g.rr
  have hlx : Hid (xss.length = n) := Lib.hid g.rr.lx
  have hn := g.hn
  have hl := Lib.hid g.hl
  clear g
  rcases hs : gB a xss with _ | _
  · have Fin : Hid (IsMin a xss x y []) := Lib.hid (.inr ⟨fun h => (by have := h.1; rw [hs] at this; cases this), rfl⟩)
    have Hs := Lib.hid hs
    clear hs
    go_enter Try.func22, Try.ntmps22
    go_wp2_with (first
      | (go_at_call 39; refine (specGS a A n c vs xss w HX.out hn hl ha).mono ?_; rintro e w1 ⟨rfl, b1⟩; rw [Hs.out]; have B1 := Lib.hid b1; clear b1))
    go_ret
    exact ⟨_, _, _, _, _, rfl, SS.lit0 w1 _ _ B1.out.size, Fin.out, B1.out.alloc B1.out.size _⟩
  · obtain ⟨N, rfl, hN1, hN2, hg8, hpm, hok⟩ := gB_pm hs
    have Hs := Lib.hid hs
    have Ok : Hid (∀ g ∈ xss, Pn N g) := Lib.hid hok
    have hn8 : n ≤ 8 := by rw [← hlx.out]; exact hg8
    clear hs hpm hok
    by_cases hx : 0 ≤ x ∧ x < (N : Int)
    · have dX : Hid (decide (0 ≤ x ∧ x < (N : Int)) = true) := Lib.hid (decide_eq_true hx)
      obtain ⟨X, rfl⟩ : ∃ X : Nat, x = (X : Int) := ⟨x.toNat, by omega⟩
      have hX : X < N := by omega
      by_cases hy : 0 ≤ y ∧ y < (N : Int)
      · have dY : Hid (decide (0 ≤ y ∧ y < (N : Int)) = true) := Lib.hid (decide_eq_true hy)
        obtain ⟨Y, rfl⟩ : ∃ Y : Nat, y = (Y : Int) := ⟨y.toNat, by omega⟩
        have hY : Y < N := by omega
        have Vp : Hid (VldP N xss X Y) := Lib.hid ⟨Hs.out, hx, hy⟩
        clear hx hy
        go_enter Try.func22, Try.ntmps22
        go_wp2_with (first
          | (go_at_call 39; refine (specGS N A n c vs xss w HX.out hn hl ha).mono ?_; rintro e w1 ⟨rfl, b1⟩; rw [Hs.out]; have B1 := Lib.hid b1; clear b1)
          | (go_at_call_of 58 (Value.int .i64 (X : Int)); refine (specPt4 N X w1 (by omega) (by omega) true dX).mono ?_; rintro e w2 ⟨rfl, rfl⟩)
          | (go_at_call_of 58 (Value.int .i64 (Y : Int)); refine (specPt4 N Y w1 (by omega) (by omega) true dY).mono ?_; rintro e w2 ⟨rfl, rfl⟩)
          | (go_at_call 59; fail))
        refine (specMinB N n c X Y A vs xss w1 (HX.out.up B1.out) Ok hn8 hN1 hN2 hX hY).mono ?_
        rintro e w3 ⟨A3, n3, c3, us, r, rfl, hr, s3, b3⟩
        have Fin : Hid (IsMin N xss X Y (canon N r)) := Lib.hid (.inl ⟨Vp.out, r, by rw [Int.toNat_natCast, Int.toNat_natCast, Int.toNat_natCast]; exact hr, by rw [Int.toNat_natCast]⟩)
        have S3 := Lib.hid (s3.mono B1.out.size B1.out.size)
        have B3 : Hid (Below w.heap.size w w3) := Lib.hid (btr B1.out b3)
        clear s3 b3 hr
        go_wp2_with fail
        go_ret
        exact ⟨_, _, _, us, _, rfl, S3.out, Fin.out, B3.out⟩
      · have dY : Hid (decide (0 ≤ y ∧ y < (N : Int)) = false) := Lib.hid (decide_eq_false hy)
        have Fin : Hid (IsMin N xss X y []) := Lib.hid (.inr ⟨fun h => hy h.2.2, rfl⟩)
        by_cases exy : (X : Int) = y
        · rw [exy] at dX; have := dX.out; rw [dY.out] at this; cases this
        · clear hx hy
          go_enter Try.func22, Try.ntmps22
          go_wp2_with (first
            | (go_at_call 39; refine (specGS N A n c vs xss w HX.out hn hl ha).mono ?_; rintro e w1 ⟨rfl, b1⟩; rw [Hs.out]; have B1 := Lib.hid b1; clear b1)
            | (go_at_call_of 58 (Value.int .i64 (X : Int)); refine (specPt4 N X w1 (by omega) (by omega) true dX).mono ?_; rintro e w2 ⟨rfl, rfl⟩)
            | (go_at_call_of 58 (Value.int .i64 y); refine (specPt4 N y w1 (by omega) (by omega) false dY).mono ?_; rintro e w2 ⟨rfl, rfl⟩))
          go_ret
          exact ⟨_, _, _, _, _, rfl, SS.lit0 w1 _ _ B1.out.size, Fin.out, B1.out.alloc B1.out.size _⟩
    · have dX : Hid (decide (0 ≤ x ∧ x < (N : Int)) = false) := Lib.hid (decide_eq_false hx)
      have Fin : Hid (IsMin N xss x y []) := Lib.hid (.inr ⟨fun h => hx h.2.1, rfl⟩)
      clear hx
      go_enter Try.func22, Try.ntmps22
      go_wp2_with (first
        | (go_at_call 39; refine (specGS N A n c vs xss w HX.out hn hl ha).mono ?_; rintro e w1 ⟨rfl, b1⟩; rw [Hs.out]; have B1 := Lib.hid b1; clear b1)
        | (go_at_call 58; refine (specPt4 N x w1 (by omega) (by omega) false dX).mono ?_; rintro e w2 ⟨rfl, rfl⟩))
      go_ret
      exact ⟨_, _, _, _, _, rfl, SS.lit0 w1 _ _ B1.out.size, Fin.out, B1.out.alloc B1.out.size _⟩

set_option maxHeartbeats 4000000 in
set_option maxRecDepth 100000 in
/-- IsPrimitive. -/
theorem ctPri : CtImB 26 IsPri := by
  intro a A n c vs xss w g ha
  have HX := Lib.hid g.rr
  have hlx : Hid (xss.length = n) := Lib.hid g.rr.lx
  have hn := g.hn
  have hl := Lib.hid g.hl
  clear g
  go_enter Try.func26, Try.ntmps26
  go_wp2_with fail
  refine (specIsTransitive a A n c vs xss w HX.out hn hl ha).mono ?_
  rintro e w1 ⟨rfl, b1⟩
  have B1 := Lib.hid b1
  clear b1
  rcases ht : transB a xss with _ | _
  · have Fin : Hid (IsPri a xss false) := Lib.hid ⟨fun h => (by cases h), fun h => (by have := h.1; rw [ht] at this; cases this)⟩
    clear ht
    go_wp2_with fail
    go_ret
    exact ⟨_, rfl, Fin.out, B1.out⟩
  · have Ht := Lib.hid ht
    obtain ⟨N, rfl, hN1, hN2, hg8, hpm, hok⟩ := gB_pm (transB_gB ht)
    have Ok : Hid (∀ g ∈ xss, Pn N g) := Lib.hid hok
    have hn8 : n ≤ 8 := by rw [← hlx.out]; exact hg8
    clear ht hpm hok
    go_wp2_with fail
    go_loopw [5] (fun yv wr => ∃ y : Nat, 1 ≤ y ∧ y ≤ N ∧ yv = .int .i64 (y : Nat) ∧ (∀ z, 1 ≤ z → z < y → (mnS xss N z).length ≤ 1) ∧ Below w.heap.size w wr) (fun yv _ => N - (intOf yv).toNat)
    case atStart => exact ⟨1, Nat.le_refl _, hN1, rfl, fun z a b => by omega, B1.out⟩
    case round =>
      clear B1
      obtain ⟨y, hy1, hyN, rfl, hall, bel⟩ := hrel
      have All := Lib.hid hall
      have Be := Lib.hid bel
      clear hall bel
      by_cases hlt : y < N
      · go_wp2_with fail
        have K0 := specMinB N n c 0 y A vs xss wr (HX.out.up Be.out) Ok hn8 hN1 hN2 (by omega) hlt
        refine Calls.mono (show Calls Try.prog 59 #[.int .i64 (N : Nat), .slice A n c, .int .i64 0, .int .i64 (y : Nat)] wr _ from K0) ?_
        clear K0
        rintro e w3 ⟨A3, n3, c3, us, r, rfl, hr, s3, b3⟩
        have B3 : Hid (Below w.heap.size w w3) := Lib.hid (btr Be.out b3)
        have L3 : Hid ((mnS xss N y).length = n3) := Lib.hid (by rw [← mnS_eq hr]; exact s3.lx)
        clear s3 b3 hr
        by_cases h1 : n3 ≤ 1
        · have d0 : decide ((1 : Int) < n3) = false := by simp; omega
          have All2 : Hid (∀ z, 1 ≤ z → z < y + 1 → (mnS xss N z).length ≤ 1) := Lib.hid fun z a b => by
            by_cases e : z = y
            · subst e; rw [L3.out]; exact h1
            · exact All.out z a (by omega)
          clear h1
          go_wp2_with fail
          go_roundw
          case rel => exact ⟨y + 1, by omega, by omega, by go_num, All2.out, B3.out⟩
          case measure => simp [intOf]; omega
        · have d0 : decide ((1 : Int) < n3) = true := by simp; omega
          have Fin : Hid (IsPri N xss false) := Lib.hid ⟨fun h => (by cases h), fun h => (by
            have := h.2 y hy1 (by rw [Int.toNat_natCast]; exact hlt)
            rw [Int.toNat_natCast, L3.out] at this; omega)⟩
          clear h1
          go_wp2_with fail
          go_ret
          exact ⟨_, rfl, Fin.out, B3.out⟩
      · obtain rfl : y = N := by omega
        have Fin : Hid (IsPri y xss true) := Lib.hid ⟨fun _ => ⟨Ht.out, by rw [Int.toNat_natCast]; exact All.out⟩, fun _ => rfl⟩
        go_wp2_with fail
        go_ret
        exact ⟨_, rfl, Fin.out, Be.out⟩

set_option maxHeartbeats 2000000 in
set_option maxRecDepth 100000 in
/-- copyLists. -/
theorem specCopyLists (A : Option Addr) (n c : Nat) (vs : List SV) (xss : List (List Int)) (w : World) (hx : RR w w.heap.size A n vs xss) (hn : n ≤ 1000) (hl : Hid (∀ i, i < n → (vs.getD i sd0).2.1 ≤ 1000000)) :
    Calls Try.prog 66 #[.slice A n c] w fun e w' => ∃ A' c' us, e = .returned (.slice A' n c') ∧ SS w' w.heap.size w.heap.size A' n c' us xss ∧ Below w.heap.size w w' := by
  have HX := Lib.hid hx
  have hlx : Hid (xss.length = n) := Lib.hid hx.lx
  clear hx
  have S0 : Hid (SS (w.alloc (.cells #[] 48)) w.heap.size w.heap.size (some ⟨w.heap.size, 0, none⟩) 0 0 [] []) := Lib.hid (SS.lit0 w _ _ (Nat.le_refl _))
  have B0 : Hid (Below w.heap.size w (w.alloc (.cells #[] 48))) := Lib.hid ((Below.refl _ _).alloc (Nat.le_refl _) _)
  go_enter Try.func66, Try.ntmps66
  go_wp2_with fail
  go_loopw [3, 4] (fun v iv wr => ∃ (i c' : Nat) (A' : Option Addr) (us : List SV), i ≤ n ∧ iv = .int .i64 (i : Nat) ∧ v = .slice A' i c' ∧ SS wr w.heap.size w.heap.size A' i c' us (xss.take i) ∧ Below w.heap.size w wr) (fun _ iv _ => n - (intOf iv).toNat)
  case atStart => exact ⟨0, 0, _, [], Nat.zero_le _, rfl, rfl, S0.out, B0.out⟩
  case round =>
    clear S0 B0
    obtain ⟨i, c', A', us, hi, rfl, rfl, hss, bel⟩ := hrel
    have Ss := Lib.hid hss
    have Be := Lib.hid bel
    have hz := bel.size
    clear hss bel
    by_cases hlt : i < n
    · obtain ⟨b5, o5, A5, l, c5, y, rfl, hb5, ev, ey, x1, ri, ly, hlc⟩ := (HX.out.up Be.out).at_ hlt
      have hl1 := hl.out i hlt
      rw [ev] at hl1
      have hl2 : l ≤ 1000000 := hl1
      have Tk : Hid (xss.take (i + 1) = xss.take i ++ [y]) := Lib.hid (by rw [List.take_succ_eq_append_getElem (by rw [hlx.out]; exact hlt), ← ey, getD_L (by rw [hlx.out]; exact hlt)])
      have q0 : (0 : Int) ≤ i := by omega
      have q1 : (i : Int) < n := by omega
      have Ri := Lib.hid ri
      have Ly : Hid (y.length = l) := Lib.hid ly
      clear ev ey ri ly hl1 hb5
      go_wp2_with fail
      refine (copyAny A5 l c5 y wr Ri.out Ly (by omega)).mono ?_
      rintro e w3 ⟨A3, c3, rfl, s3, b3⟩
      have S3 := Lib.hid s3
      have Ss3 := Lib.hid (Ss.out.up b3)
      have D3 := Lib.hid (lies_dis (w := wr) Ss.out s3.lies (Nat.le_refl _))
      have B3 : Hid (Below w.heap.size w w3) := Lib.hid (btr Be.out b3)
      have hz3 := B3.out.size
      clear s3 b3
      go_wp2_with (at_builtin; go_must (refine wpList_app2_at rfl _ _ rfl rfl (Ss3.out.alloc _) w3.heap.size A3 l c3 y rfl (by rw [World.cell?_alloc_at _ _ _ _ rfl]; rfl) ((S3.out.mono hz).alloc _) D3.out (by omega) (by simp; omega) ?_); intro A9 c9 w9 s9 g9 h9)
      have S9 : Hid (SS w9 w.heap.size w.heap.size A9 (i + 1) c9 (us ++ [(A3, l, c3)]) (xss.take (i + 1))) := Lib.hid (by rw [Tk.out]; exact s9)
      have B9 : Hid (Below w.heap.size w w9) := Lib.hid ((B3.out.alloc hz3 _).grown g9 (by simp; omega) (fun q hq => (Ss3.out.lt_ q hq).1))
      clear s9 g9 h9
      go_wp2_with fail
      go_roundw
      case rel => exact ⟨i + 1, c9, A9, _, by omega, by go_num, rfl, S9.out, B9.out⟩
      case measure => simp [intOf]; omega
    · obtain rfl : i = n := by omega
      have Sf : Hid (SS wr w.heap.size w.heap.size A' i c' us xss) := Lib.hid (by
        have := Ss.out
        rwa [List.take_of_length_le (by rw [hlx.out]; exact Nat.le_refl _)] at this)
      go_wp2_with fail
      go_ret
      exact ⟨_, _, us, rfl, Sf.out, Be.out⟩
/-- append of a slice of slices onto another. -/
theorem wpList_appSS {w : World} {bo b1 b2 b3 n c m cm : Nat} {A B : Option Addr} {vs us : List SV} {xss yss : List (List Int)} {ops : Array Oper} {rest : List Oper} {o : Oper} {a : Act} {Q : Exit → Act → World → Prop} (hgd : o.guard = none) (s x : Operand)
    (ho : o.op = .call { callee := .builtin .append, args := #[s, x], argTypes := #[22, 22] })
    (hs : a.eval s = .slice A n c) (hss : SS w bo b1 A n c vs xss) (hx : a.eval x = .slice B m cm) (hy : SS w b2 b3 B m cm us yss) (hm : 0 < m) (hn : n + m ≤ 1000000000) (hbase : bo ≤ w.heap.size)
    (h : ∀ A' c' w', RR w' w'.heap.size A' (n + m) (vs ++ us) (xss ++ yss) → w.grownBy w' (Value.slice A n c).ownBlock → wpList Try.prog ops Q rest (a.put o.dst (.slice A' (n + m) c')) w') : wpList Try.prog ops Q (o :: rest) a w := by
  obtain ⟨i0, hi, hz0, hz1, hz2⟩ := info_parts infoS
  obtain ⟨g, rfl, hg1, hg2, hc⟩ := hy.at_ hm
  refine wpList_append_own_at w hgd s x 22 ho bo 48 i0 (.slice none 0 0) 1 24 Try.underlying22 hi hz0 hz1 hz2 rfl (by decide) _ n _ hs hss.own ⟨g, 0, none⟩ m cm (us.map sval) hx (by rw [List.length_map, hy.lv, Nat.mul_one]) ?_ ?_ ?_ (by omega) hbase ?_
  · intro j v hj
    rw [List.getElem?_map] at hj
    rcases e : us[j]? with _ | d
    · rw [e] at hj; cases hj
    · rw [e] at hj
      have hjm : j < m := by rw [← hy.lv]; exact (List.getElem?_eq_some_iff.1 e).1
      have h1 := hc j hjm
      rw [List.getD_eq_getElem?_getD, e] at h1
      have h2 : v = sval d := by simpa using hj.symm
      subst h2
      show w.cell? ((⟨g, 0, none⟩ : Addr).add j) = _
      rw [Addr.add_mid, Nat.zero_add]
      exact h1
  · intro v hv
    obtain ⟨d, _, rfl⟩ := List.mem_map.1 hv
    rfl
  · unfold maxLen; omega
  · intro v' w' hown' hg _ _
    have hform : ∃ A' c', v' = .slice A' (n + m) c' := by
      rcases hown'.2 with ⟨rfl, h0⟩ | ⟨g', cap, cur, rfl, _⟩
      · omega
      · exact ⟨_, _, rfl⟩
    obtain ⟨A', c', rfl⟩ := hform
    have hsz : w.heap.size ≤ w'.heap.size := hg.size
    have row : ∀ j, j < n + m → Slc w' 0 ((vs ++ us).getD j sd0).1 ((vs ++ us).getD j sd0).2.1 ((vs ++ us).getD j sd0).2.2 ((xss ++ yss).getD j []) := fun j hj => by
      by_cases e : j < n
      · rw [getD_app vs _ _ _ (by rw [hss.lv]; exact e), getD_app xss _ _ _ (by rw [hss.lx]; exact e)]
        exact ((hss.row j e).kept hg (apart_types (hss.row j e) hss.own)).mono (Nat.zero_le _)
      · have e2 : j - n < m := by omega
        have e3 : (vs ++ us).getD j sd0 = us.getD (j - n) sd0 := by
          rw [List.getD_eq_getElem?_getD, List.getElem?_append_right (by rw [hss.lv]; omega), hss.lv, ← List.getD_eq_getElem?_getD]
        have e4 : (xss ++ yss).getD j [] = yss.getD (j - n) [] := by
          rw [List.getD_eq_getElem?_getD, List.getElem?_append_right (by rw [hss.lx]; omega), hss.lx, ← List.getD_eq_getElem?_getD]
        rw [e3, e4]
        exact ((hy.row _ e2).kept hg (apart_types (hy.row _ e2) hss.own)).mono (Nat.zero_le _)
    refine h A' c' w' ⟨by simp [hss.lv, hy.lv], by simp [hss.lx, hy.lx], fun hp => ?_, fun j hj => (row j hj).ri_, fun j hj => (row j hj).1, fun j hj => (row j hj).le.1⟩ hg
    rcases hown'.2 with ⟨e, h0⟩ | ⟨g', cap, cur, e, hb, hg', rest'⟩
    · omega
    · injection e with e1 e2 e3
      subst e1
      refine ⟨g', 0, rfl, (Array.getElem?_eq_some_iff.1 hg').1, fun j hj => ?_⟩
      rw [Nat.zero_add, hown'.cellAt j (by omega), ← List.map_append, List.getElem?_map, List.getD_eq_getElem?_getD, List.getElem?_eq_getElem (by simp [hss.lv, hy.lv]; exact hj)]
      rfl

/-- The labels behind k entries of row i. -/
structure LJ (N : Nat) (bs : List (List Int)) (C : (Nat → Nat) → Prop) (ls : List Int) (i k : Nat) : Prop where
  lb : Lbl N ls
  done : ∀ i' k', (i' < i ∨ (i' = i ∧ k' < k)) → i' < bs.length → k' < (bs.getD i' []).length → nx ls ((bs.getD i' []).getD 0 0).toNat = nx ls ((bs.getD i' []).getD k' 0).toNat
  least : ∀ q, C q → Rf N (nx ls) q
/-- What the rows are: blocks whose points every such labelling makes one. -/
def LE (N : Nat) (bs : List (List Int)) (C : (Nat → Nat) → Prop) : Prop := ∀ i, i < bs.length → bs.getD i [] ≠ [] ∧ (bs.getD i []).length ≤ 20 ∧ ∀ k, k < (bs.getD i []).length → 0 ≤ (bs.getD i []).getD k 0 ∧ (bs.getD i []).getD k 0 < N ∧ ∀ q, C q → q ((bs.getD i []).getD 0 0).toNat = q ((bs.getD i []).getD k 0).toNat
section
variable {N i k : Nat} {bs A B : List (List Int)} {C : (Nat → Nat) → Prop} {ls : List Int}
theorem LJ.zero (N : Nat) : LJ N bs C (idL N) 0 0 := ⟨lbl_id N, fun i' k' h => by omega, fun q _ u v hu hv e => by rw [nx_id hu, nx_id hv] at e; rw [e]⟩
theorem LJ.first (h : LJ N bs C ls i 0) : LJ N bs C ls i 1 := ⟨h.lb, fun i' k' h1 h2 h3 => by
  by_cases e : i' < i
  · exact h.done i' k' (.inl e) h2 h3
  · obtain rfl : k' = 0 := by omega
    rfl, h.least⟩
theorem LJ.row (h : LJ N bs C ls i k) (hk : (bs.getD i []).length ≤ k) : LJ N bs C ls (i + 1) 0 := ⟨h.lb, fun i' k' h1 h2 h3 => h.done i' k' (by
  rcases h1 with h1 | ⟨_, h1⟩
  · by_cases e : i' = i
    · subst e; exact .inr ⟨rfl, by omega⟩
    · exact .inl (by omega)
  · omega) h2 h3, h.least⟩
theorem LJ.step (h : LJ N bs C ls i k) (hE : LE N bs C) (hi : i < bs.length) (hk : k < (bs.getD i []).length) {X Y : Nat} (eX : (bs.getD i []).getD 0 0 = (X : Int)) (eY : (bs.getD i []).getD k 0 = (Y : Int)) : LJ N bs C (mrgL ls (nx ls X : Nat) (nx ls Y : Nat)) i (k + 1) := by
  have e0 := (hE i hi).2.2 0 (by omega)
  have ek := (hE i hi).2.2 k hk
  rw [eX] at e0
  rw [eX, eY, Int.toNat_natCast, Int.toNat_natCast] at ek
  have hX : X < N := by omega
  have hY : Y < N := by omega
  have h1 := h.lb.mrg (a := nx ls X) (b := nx ls Y) (h.lb.lt hX)
  have hm : Mg N (nx ls) (nx (mrgL ls (nx ls X : Nat) (nx ls Y : Nat))) X Y := mg_of hX hY h1.2
  refine ⟨h1.1, fun i' k' a b c => ?_, fun q hq => hm.least q (h.least q hq) (ek.2.2 q hq)⟩
  by_cases e : i' = i ∧ k' = k
  · obtain ⟨rfl, rfl⟩ := e
    rw [eX, eY, Int.toNat_natCast, Int.toNat_natCast]
    exact hm.eq
  · have hd := h.done i' k' (by omega) b c
    have e1 := (hE i' b).2.2 0 (by omega)
    have e2 := (hE i' b).2.2 k' c
    exact hm.up _ _ (by omega) (by omega) hd
/-- Of two partitions, one behind the other. -/
theorem le_two (hA : Prt N A) (hB : Prt N B) (hN : N ≤ 20) : LE N (A ++ B) fun q => Rf N (bi A) q ∧ Rf N (bi B) q := fun i hi => by
  by_cases e : i < A.length
  · rw [getD_app A _ _ _ e]
    refine ⟨(hA.1 i e).1, Nat.le_trans (hA.1 i e).2.1.1 hN, fun k hk => ?_⟩
    have e0 := hA.ent e (k := 0) (by omega)
    have ek := hA.ent e hk
    exact ⟨ek.1, ek.2.1, fun q hq => hq.1 _ _ (by omega) (by omega) (e0.2.2.trans ek.2.2.symm)⟩
  · have e2 : i - A.length < B.length := by rw [List.length_append] at hi; omega
    have e4 : (A ++ B).getD i [] = B.getD (i - A.length) [] := by
      rw [List.getD_eq_getElem?_getD, List.getElem?_append_right (by omega), ← List.getD_eq_getElem?_getD]
    rw [e4]
    refine ⟨(hB.1 _ e2).1, Nat.le_trans (hB.1 _ e2).2.1.1 hN, fun k hk => ?_⟩
    have e0 := hB.ent e2 (k := 0) (by omega)
    have ek := hB.ent e2 hk
    exact ⟨ek.1, ek.2.1, fun q hq => hq.2 _ _ (by omega) (by omega) (e0.2.2.trans ek.2.2.symm)⟩
theorem LJ.fin (h : LJ N (A ++ B) (fun q => Rf N (bi A) q ∧ Rf N (bi B) q) ls (A ++ B).length 0) (hA : Prt N A) (hB : Prt N B) : LstJ N A B (nx ls) := by
  refine ⟨fun u v hu hv e => ?_, fun u v hu hv e => ?_, fun r' a b => h.least r' ⟨a, b⟩⟩
  · have key : ∀ z, z < N → nx ls ((A.getD (bi A z) []).getD 0 0).toNat = nx ls z := fun z hz => by
      have hl := hA.bi_lt hz
      obtain ⟨k, hk, ek⟩ := List.mem_iff_getElem.1 (hA.bi_mem hz)
      have := h.done (bi A z) k (.inl (by rw [List.length_append]; omega)) (by rw [List.length_append]; omega) (by rw [getD_app A _ _ _ hl]; exact hk)
      rw [getD_app A _ _ _ hl] at this
      rw [this, getD_eq hk, ek]
      rfl
    rw [← key u hu, ← key v hv, e]
  · have key : ∀ z, z < N → nx ls ((B.getD (bi B z) []).getD 0 0).toNat = nx ls z := fun z hz => by
      have hl := hB.bi_lt hz
      have e4 : (A ++ B).getD (A.length + bi B z) [] = B.getD (bi B z) [] := by
        rw [List.getD_eq_getElem?_getD, List.getElem?_append_right (by omega), Nat.add_sub_cancel_left, ← List.getD_eq_getElem?_getD]
      obtain ⟨k, hk, ek⟩ := List.mem_iff_getElem.1 (hB.bi_mem hz)
      have := h.done (A.length + bi B z) k (.inl (by rw [List.length_append]; omega)) (by rw [List.length_append]; omega) (by rw [e4]; exact hk)
      rw [e4] at this
      rw [this, getD_eq hk, ek]
      rfl
    rw [← key u hu, ← key v hv, e]
end

set_option maxHeartbeats 8000000 in
set_option maxRecDepth 100000 in
/-- JoinBlockSystems. -/
theorem ctJoin : CtImmM 24 IsJoin := by
  intro a A n c vs xss M m cm us yss w g s _
  have G := Lib.hid g
  have S := Lib.hid s
  have HX := Lib.hid g.rr
  have HY := Lib.hid s.rr
  have hlx : Hid (xss.length = n) := Lib.hid g.rr.lx
  have hly : Hid (yss.length = m) := Lib.hid s.rr.lx
  clear g s
  by_cases ha : 1 ≤ a ∧ a ≤ 20
  · obtain ⟨N, rfl⟩ : ∃ N : Nat, a = (N : Int) := ⟨a.toNat, by omega⟩
    have hN1 : 1 ≤ N := by omega
    have hN2 : N ≤ 20 := by omega
    have Ha := Lib.hid ha
    clear ha
    go_enter Try.func24, Try.ntmps24
    go_wp2_with (first
      | (go_at_call 64; refine (inR_true _ _ _ _ (by omega) (by omega)).mono ?_; rintro e w' ⟨rfl, rfl⟩)
      | (go_at_call 46; fail))
    refine (specPart N n c A vs xss w G.out hN1 hN2).mono ?_
    rintro e w1 ⟨ans, rfl, hans, b1⟩
    have B1 := Lib.hid b1
    clear b1
    rcases ans with _ | _
    · have Fin : Hid (IsJoin N xss yss []) := Lib.hid (.inr ⟨fun h => (by have := hans.2 ⟨h.1, h.2.1⟩; cases this), rfl⟩)
      clear hans
      go_wp2_with fail
      go_ret
      exact ⟨_, _, _, _, _, rfl, SS.lit0 w1 _ _ B1.out.size, Fin.out, B1.out.alloc B1.out.size _⟩
    · have PX : Hid (Prt N xss) := Lib.hid (by have := (hans.1 rfl).2; rwa [Int.toNat_natCast] at this)
      clear hans
      go_wp2_with (go_at_call 46; fail)
      refine (specPart N m cm M us yss w1 (S.out.up B1.out) hN1 hN2).mono ?_
      rintro e w2 ⟨ans, rfl, hans, b2⟩
      have B2 : Hid (Below w.heap.size w w2) := Lib.hid (btr B1.out b2)
      clear b2
      rcases ans with _ | _
      · have Fin : Hid (IsJoin N xss yss []) := Lib.hid (.inr ⟨fun h => (by have := hans.2 ⟨h.1, h.2.2⟩; cases this), rfl⟩)
        clear hans
        go_wp2_with fail
        go_ret
        exact ⟨_, _, _, _, _, rfl, SS.lit0 w2 _ _ B2.out.size, Fin.out, B2.out.alloc B2.out.size _⟩
      · have PY : Hid (Prt N yss) := Lib.hid (by have := (hans.1 rfl).2; rwa [Int.toNat_natCast] at this)
        have HV : Hid (VldJ N xss yss) := Lib.hid ⟨Ha.out, by rw [Int.toNat_natCast]; exact PX.out, by rw [Int.toNat_natCast]; exact PY.out⟩
        have hn20 : n ≤ 20 := by have := PX.out.len_le; rw [hlx.out] at this; omega
        have hm20 : m ≤ 20 := by have := PY.out.len_le; rw [hly.out] at this; omega
        have hm0 : 0 < m := by
          have := PY.out.bi_lt (x := 0) (by omega)
          rw [hly.out] at this; omega
        have LX : Hid (∀ i, i < n → (vs.getD i sd0).2.1 ≤ 1000000) := Lib.hid fun i hi => by
          rw [← HX.out.lens i hi]; have := (PX.out.1 i (by rw [hlx.out]; exact hi)).2.1.1; omega
        have LY : Hid (∀ i, i < m → (us.getD i sd0).2.1 ≤ 1000000) := Lib.hid fun i hi => by
          rw [← HY.out.lens i hi]; have := (PY.out.1 i (by rw [hly.out]; exact hi)).2.1.1; omega
        clear hans
        go_wp2_with (go_at_call 65; fail)
        refine (specIdent N w2 (by omega)).mono ?_
        rintro e w3 ⟨A3, c3, rfl, s3, b3⟩
        have L3 : Hid (Slc w3 w.heap.size A3 N c3 (idL N)) := Lib.hid (s3.mono B2.out.size)
        have B3 : Hid (Below w.heap.size w w3) := Lib.hid (btr B2.out b3)
        clear s3 b3
        go_wp2_with (go_at_call 66; fail)
        refine (specCopyLists A n c vs xss w3 (HX.out.up B3.out) (by omega) LX).mono ?_
        rintro e w4 ⟨A4, c4, u4, rfl, s4, b4⟩
        have S4 := Lib.hid s4
        have L4 := Lib.hid (L3.out.up b4)
        have B4 : Hid (Below w.heap.size w w4) := Lib.hid (btr B3.out b4)
        have hz34 := b4.size
        clear s4 b4 L3
        go_wp2_with (go_at_call 66; fail)
        refine (specCopyLists M m cm us yss w4 (HY.out.up B4.out) (by omega) LY).mono ?_
        rintro e w5 ⟨A5, c5, u5, rfl, s5, b5⟩
        have S5 := Lib.hid s5
        have S45 := Lib.hid (S4.out.up b5)
        have L5 := Lib.hid (L4.out.up b5)
        have B5 : Hid (Below w.heap.size w w5) := Lib.hid (btr B4.out b5)
        have hz3 := B3.out.size
        have hz35 : w3.heap.size ≤ w5.heap.size := by have := b5.size; omega
        clear s5 b5 S4 L4
        go_wp2_with (first | (at_builtin; go_must (refine wpList_appSS rfl _ _ rfl rfl S45.out rfl S5.out hm0 (by omega) hz35 ?_); intro A6 c6 w6 r6 g6) | go_in)
        have L6 : Hid (Slc w6 w.heap.size A3 N c3 (idL N)) := Lib.hid (L5.out.kept g6 (apart_types L5.out S45.out.own))
        have B6 : Hid (Below w.heap.size w w6) := Lib.hid (B5.out.grown g6 B5.out.size (fun q hq => Nat.le_trans hz3 (S45.out.lt_ q hq).1))
        have R6 := Lib.hid r6
        have Le : Hid (LE N (xss ++ yss) fun q => Rf N (bi xss) q ∧ Rf N (bi yss) q) := Lib.hid (le_two PX.out PY.out hN2)
        have Lf : Hid (∀ ls, LJ N (xss ++ yss) (fun q => Rf N (bi xss) q ∧ Rf N (bi yss) q) ls (n + m) 0 → LstJ N xss yss (nx ls)) := Lib.hid fun ls h => LJ.fin (by rw [List.length_append, hlx.out, hly.out]; exact h) PX.out PY.out
        have Ln : Hid ((xss ++ yss).length = n + m) := Lib.hid (by rw [List.length_append, hlx.out, hly.out])
        generalize xss ++ yss = bs at R6 Le Lf Ln
        generalize (fun q : Nat → Nat => Rf N (bi xss) q ∧ Rf N (bi yss) q) = C at Le Lf
        generalize u4 ++ u5 = vv at R6
        clear r6 g6 S45 S5 L5 B5 LX LY
        go_wp2_with fail
        go_loopw [7, 9] (fun lv iv wr => ∃ (i cl : Nat) (L : Option Addr) (ls : List Int), i ≤ n + m ∧ iv = .int .i64 (i : Nat) ∧ lv = .slice L N cl ∧ Slc wr w.heap.size L N cl ls ∧ LJ N bs C ls i 0 ∧ Below w6.heap.size w6 wr) (fun _ iv _ => n + m - (intOf iv).toNat)
        case atStart => exact ⟨0, c3, A3, _, Nat.zero_le _, rfl, rfl, L6.out, LJ.zero N, Below.refl _ _⟩
        case round =>
          clear L6
          obtain ⟨i, cl, L, ls, hi, rfl, rfl, hs, hlj, bel⟩ := hrel
          have Sl := Lib.hid hs
          have Lj := Lib.hid hlj
          have Be := Lib.hid bel
          have Bw : Hid (Below w.heap.size w wr) := Lib.hid (btr B6.out bel)
          clear hs hlj bel
          by_cases hlt : i < n + m
          · have hi2 : i < bs.length := by rw [Ln.out]; exact hlt
            obtain ⟨y, ey⟩ : ∃ y, bs.getD i [] = y := ⟨_, rfl⟩
            have hE := Le.out i hi2
            rw [ey] at hE
            obtain ⟨d, ed⟩ : ∃ d, vv.getD i sd0 = d := ⟨_, rfl⟩
            obtain ⟨A7, l, c7⟩ := d
            have Ly : Hid (y.length = l) := Lib.hid (by have := R6.out.lens i hlt; rw [ey, ed] at this; exact this)
            have hl0 : 0 < l := by rw [← Ly.out]; exact List.length_pos_iff.2 hE.1
            have hl20 : l ≤ 20 := by rw [← Ly.out]; exact hE.2.1
            have Ey := Lib.hid ey
            have KC : Hid (∀ W : World, Below w6.heap.size w6 W → (∃ b5 o5, A6 = some ⟨b5, o5, none⟩ ∧ W.cell? ⟨b5, o5 + i, none⟩ = some (.slice A7 l c7)) ∧ RI W W.heap.size A7 y) := Lib.hid fun W hW => by
              obtain ⟨b', o', A', l', c', y', e', hb', ev', ey', x', r', _, _⟩ := (R6.out.up hW).at_ hlt
              rw [ed] at ev'
              injection ev' with e3 e4; injection e4 with e4 e5
              subst e3 e4 e5
              rw [ey] at ey'
              subst ey'
              exact ⟨⟨b', o', e', x'⟩, r'⟩
            obtain ⟨⟨b5, o5, rfl, x0⟩, _⟩ := KC.out _ Be.out
            have Lj1 := Lib.hid Lj.out.first
            have q0 : (0 : Int) ≤ i := by omega
            have q1 : (i : Int) < ((n + m : Nat) : Int) := by omega
            have q1' : (i : Int) < (n : Int) + (m : Int) := by omega
            clear ey ed hE
            go_wp2_with fail
            go_loopw [7, 10] (fun lv kv wr2 => ∃ (k cl : Nat) (L : Option Addr) (ls : List Int), 1 ≤ k ∧ k ≤ l ∧ kv = .int .i64 (k : Nat) ∧ lv = .slice L N cl ∧ Slc wr2 w.heap.size L N cl ls ∧ LJ N bs C ls i k ∧ Below w6.heap.size w6 wr2) (fun _ kv _ => l - (intOf kv).toNat)
            case atStart => exact ⟨1, cl, L, ls, Nat.le_refl _, hl0, rfl, rfl, Sl.out, Lj1.out, Be.out⟩
            case round =>
              clear Sl Lj Lj1 Be Bw x0
              obtain ⟨k, cl, L, ls, hk1, hk, rfl, rfl, hs, hlj, bel⟩ := hrel
              have Sl := Lib.hid hs
              have Lj := Lib.hid hlj
              have Be := Lib.hid bel
              have Bw : Hid (Below w.heap.size w wr) := Lib.hid (btr B6.out bel)
              obtain ⟨⟨b5', o5', e5, xc⟩, rr⟩ := KC.out _ bel
              injection e5 with e5; injection e5 with e51 e52
              subst e51 e52
              clear hs hlj bel
              by_cases hlt2 : k < l
              · obtain ⟨bz, oz, rfl, hbz, hc⟩ := rr (by rw [Ly.out]; omega)
                have z0 := hc 0 (by rw [Ly.out]; exact hl0)
                have zk := hc k (by rw [Ly.out]; exact hlt2)
                have hE := (Le.out i hi2).2.2
                rw [Ey.out] at hE
                have e0 := hE 0 (by rw [Ly.out]; exact hl0)
                have ek := hE k (by rw [Ly.out]; exact hlt2)
                obtain ⟨X, eX⟩ : ∃ X : Nat, y.getD 0 0 = (X : Int) := ⟨(y.getD 0 0).toNat, by omega⟩
                obtain ⟨Y, eY⟩ : ∃ Y : Nat, y.getD k 0 = (Y : Int) := ⟨(y.getD k 0).toNat, by omega⟩
                rw [eX] at e0
                rw [eX, Nat.add_zero] at z0
                rw [eY] at ek zk
                have hX : X < N := by omega
                have hY : Y < N := by omega
                obtain ⟨bl, ol, rfl, hbl, hcl⟩ := Sl.out.ri_ (by rw [Lj.out.lb.len]; omega)
                have lX := hcl X (by rw [Lj.out.lb.len]; exact hX)
                have lY := hcl Y (by rw [Lj.out.lb.len]; exact hY)
                rw [Lj.out.lb.val hX] at lX
                rw [Lj.out.lb.val hY] at lY
                obtain ⟨a, ea⟩ : ∃ a, nx ls X = a := ⟨_, rfl⟩
                obtain ⟨b, eb⟩ : ∃ b, nx ls Y = b := ⟨_, rfl⟩
                have Lj2 : Hid (LJ N bs C (mrgL ls (a : Nat) (b : Nat)) i (k + 1)) := Lib.hid (by
                  rw [← ea, ← eb]
                  exact Lj.out.step Le.out hi2 (by rw [Ey.out, Ly.out]; exact hlt2) (by rw [Ey.out]; exact eX) (by rw [Ey.out]; exact eY))
                rw [ea] at lX
                rw [eb] at lY
                have r1 : (X : Int) < N := by omega
                have r2 : (Y : Int) < N := by omega
                have r3 : (0 : Int) ≤ k := by omega
                have r4 : (k : Int) < l := by omega
                have r5 : (0 : Int) < l := by omega
                have SlD := Lib.hid (Sl.out.drewN 1)
                have BeD := Lib.hid (below_drewN Be.out 1)
                clear hc hE e0 ek eX eY hcl ea eb hbz hbl
                go_wp2_with fail
                go_still_tail 20, (by kernel_rfl)
                change wpList _ _ _ _ _ (wr.drewN 1)
                generalize wr.drewN 1 = w7 at SlD BeD ⊢
                have hz7 := (btr B6.out BeD.out).size
                go_wp2_with (go_at_call 67; fail)
                refine (specMrg N cl _ ls a b w7 SlD.out.ri_ (Lib.hid SlD.out.1) hN1 hN2).mono ?_
                rintro e w8 ⟨A8, c8, rfl, s8, b8⟩
                have S8 : Hid (Slc w8 w.heap.size A8 N c8 (mrgL ls (a : Nat) (b : Nat))) := Lib.hid (s8.mono hz7)
                have B8 : Hid (Below w6.heap.size w6 w8) := Lib.hid (btr BeD.out b8)
                clear s8 b8
                go_wp2_with fail
                go_roundw
                case rel => exact ⟨k + 1, c8, A8, _, by omega, by omega, by go_num, rfl, S8.out, Lj2.out, B8.out⟩
                case measure => simp [intOf]; omega
              · obtain rfl : k = l := by omega
                have Lj2 : Hid (LJ N bs C ls (i + 1) 0) := Lib.hid (Lj.out.row (by rw [Ey.out, Ly.out]; exact Nat.le_refl _))
                go_wp2_with fail
                go_roundw
                case rel => exact ⟨i + 1, cl, L, ls, by omega, by go_num, rfl, Sl.out, Lj2.out, Be.out⟩
                case measure => simp [intOf]; omega
          · obtain rfl : i = n + m := by omega
            have Fin : Hid (IsJoin N xss yss (canon N (nx ls))) := Lib.hid (.inl ⟨HV.out, nx ls, by rw [Int.toNat_natCast]; exact Lf.out ls Lj.out, by rw [Int.toNat_natCast]⟩)
            have hzw := Bw.out.size
            go_wp2_with (go_at_call 68; fail)
            refine (specL2B N cl L ls wr Sl.out.ri_ (Lib.hid Lj.out.lb) hN1 hN2).mono ?_
            rintro e w8 ⟨A8, n8, c8, u8, rfl, s8, b8⟩
            have S8 : Hid (SS w8 w.heap.size w.heap.size A8 n8 c8 u8 (canon N (nx ls))) := Lib.hid (s8.mono hzw hzw)
            have B8 : Hid (Below w.heap.size w w8) := Lib.hid (btr Bw.out b8)
            clear s8 b8
            go_wp2_with fail
            go_ret
            exact ⟨_, _, _, u8, _, rfl, S8.out, Fin.out, B8.out⟩
  · have Fin : Hid (IsJoin a xss yss []) := Lib.hid (.inr ⟨fun h => ha h.1, rfl⟩)
    go_enter Try.func24, Try.ntmps24
    go_wp2_with (first
      | (go_at_call 64; refine (inR_false _ _ _ _ (by omega)).mono ?_; rintro e w' ⟨rfl, rfl⟩))
    go_ret
    exact ⟨_, _, _, _, _, rfl, SS.lit0 w _ _ (Nat.le_refl _), Fin.out, (Below.refl _ _).alloc (Nat.le_refl _) _⟩
end Go.Proofs.Ytedfcljikgmpgaa
