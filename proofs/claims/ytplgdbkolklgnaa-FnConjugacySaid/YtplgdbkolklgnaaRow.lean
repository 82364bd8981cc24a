/- Rows of the call's own that the library has written over. No condition. -/
import Derived.Test.YtplgdbkolklgnaaSS
import Derived.Test.YtplgdbkolklgnaaShelf
import Derived.Sort.Grow
namespace Go.Proofs.Ytplgdbkolklgnaa
open Go.RowKit Go.Sort

theorem heap_put {α : Type} [Inhabited α] (enc : α → Value) (w : World) (k g : Nat) (d : Array α) (os : Array Obj) {cur : Array Value} {e : TypeId} {fr : Nat × Nat} (hb : w.heap[g]? = some (.cells cur e fr)) :
    (grow (putRow enc (Sort.ahead w k) g 0 d) os).heap[g]? = some (.cells (putCells enc 0 d cur) e fr) := by
  have hlt : g < w.heap.size := (Array.getElem?_eq_some_iff.1 hb).1
  rw [heap_grow_old _ _ (by simpa using hlt)]
  unfold putRow mapBlock
  simp [Array.getElem?_modify, hb, onCells]
theorem put_take {α : Type} [Inhabited α] (enc : α → Value) (ts : List α) (cur : Array Value) (n : Nat) (hn : n ≤ ts.length) (hc : ts.length ≤ cur.size) : (putCells enc 0 ts.toArray cur).toList.take n = (ts.take n).map enc := by
  apply List.ext_getElem
  · simp [putCells]; omega
  · intro i h1 h2
    simp [putCells] at h1 h2 ⊢
    rw [if_pos (by omega)]
    rw [List.getElem?_eq_getElem (by omega)]; rfl
theorem grown_put {α : Type} [Inhabited α] (enc : α → Value) (w : World) (k g : Nat) (d : Array α) (os : Array Obj) : w.grownBy (grow (putRow enc (Sort.ahead w k) g 0 d) os) (some g) := by
  refine ⟨rfl, rfl, rfl, by simp, fun i hi hne => ?_⟩
  rw [heap_grow_old _ _ (by simpa using hi)]
  unfold putRow mapBlock
  have : ¬ g = i := fun e => hne (by rw [e])
  simp [Array.getElem?_modify, this]
theorem own_put {α : Type} [Inhabited α] (enc : α → Value) {w : World} {base g cap n : Nat} {e : TypeId} {xs : List α} {ts : List α} (h : w.ownsRow base e 1 (.slice (some ⟨g, 0, none⟩) xs.length cap) xs.length (xs.map enc))
    (hl : ts.length = xs.length) (hn : n ≤ xs.length) (k : Nat) (os : Array Obj) :
    (grow (putRow enc (Sort.ahead w k) g 0 ts.toArray) os).ownsRow base e 1 (.slice (some ⟨g, 0, none⟩) n cap) n ((ts.take n).map enc) := by
  refine ⟨by simp; omega, .inr ?_⟩
  rcases h.2 with ⟨e1, _⟩ | ⟨g', cap', cur, e1, hb, hg, h1, h2, h3, h4⟩
  · cases e1
  · injection e1 with e1 e2 e3
    injection e1 with e1
    injection e1 with e1
    subst e1; subst e3
    refine ⟨g, cap, _, rfl, hb, heap_put enc w k g _ os hg, by omega, h2, by simp [putCells]; omega, ?_⟩
    rw [Nat.mul_one]
    exact put_take enc ts cur n (by omega) (by omega)
theorem holds_own {α : Type} [Inhabited α] (enc : α → Value) {w : World} {base g cap : Nat} {e : TypeId} {xs : List α} (h : w.ownsRow base e 1 (.slice (some ⟨g, 0, none⟩) xs.length cap) xs.length (xs.map enc)) :
    Holds enc w g 0 xs.toArray := by
  intro j hj
  simp at hj
  rw [Nat.zero_add]
  refine ⟨?_, h.frozenAt j⟩
  rw [h.cellAt j (by omega), List.getElem?_map, List.getElem?_eq_getElem hj, getElem!_pos _ j (by simpa using hj)]
  simp

/-- slices.Sort at a row of the call's own. -/
theorem sortT (base : Nat) (A : Option Addr) (n c : Nat) (xs : List Int) (w : World) (h : Slc w base A n c xs) (h1 : 1 ≤ n) (hn : n ≤ 2097152) :
    Calls Try.prog 42 #[.slice A n c] w fun e w' => e = .returned (.tuple #[]) ∧ Slc w' base A n c (xs.mergeSort fun x y => decide (x ≤ y)) ∧ w.grownBy w' (Value.slice A n c).ownBlock := by
  obtain ⟨hl, ho⟩ := h
  subst hl
  rcases Slc.at_ ⟨rfl, ho⟩ with ⟨_, _, e0, _⟩ | ⟨g, rfl, hb, hg⟩
  · omega
  have hho : w.ownsRow base 2 1 (.slice (some ⟨g, 0, none⟩) xs.length c) xs.length (xs.map (Value.int .i64)) := ho
  refine (AnyM.slices_Sort_int laySort g 0 c xs w (holds_own _ hho) hg (by omega)).mono ?_
  rintro e w' ⟨rfl, k, os, rfl⟩
  have hlen : (xs.mergeSort fun x y => decide (x ≤ y)).length = xs.length := List.length_mergeSort _
  refine ⟨rfl, ⟨hlen, ?_⟩, grown_put _ _ _ _ _ _⟩
  have := own_put (Value.int .i64) hho hlen (Nat.le_refl _) k os
  rw [List.take_of_length_le (by omega)] at this
  unfold Own
  rw [hlen]
  exact this
/-- slices.Reverse at a row of the call's own. -/
theorem revT (base : Nat) (A : Option Addr) (n c : Nat) (xs : List Int) (w : World) (h : Slc w base A n c xs) (h1 : 1 ≤ n) (hn : n ≤ 2097152) :
    Calls Try.prog 43 #[.slice A n c] w fun e w' => e = .returned (.tuple #[]) ∧ Slc w' base A n c xs.reverse ∧ w.grownBy w' (Value.slice A n c).ownBlock := by
  obtain ⟨hl, ho⟩ := h
  subst hl
  rcases Slc.at_ ⟨rfl, ho⟩ with ⟨_, _, e0, _⟩ | ⟨g, rfl, hb, hg⟩
  · omega
  have hho : w.ownsRow base 2 1 (.slice (some ⟨g, 0, none⟩) xs.length c) xs.length (xs.map (Value.int .i64)) := ho
  refine (AnyE.slices_Reverse layRev (Value.int .i64) (fun _ => rfl) g 0 c xs w (holds_own _ hho) (by omega)).mono ?_
  rintro e w' ⟨rfl, k, rfl⟩
  have hlen : xs.reverse.length = xs.length := List.length_reverse
  have e0 : ∀ v : World, grow v #[] = v := fun v => by simp
  refine ⟨rfl, ⟨hlen, ?_⟩, by rw [← e0 (putRow _ _ _ _ _)]; exact grown_put _ _ _ _ _ _⟩
  have := own_put (Value.int .i64) hho hlen (Nat.le_refl _) k #[]
  rw [List.take_of_length_le (by omega), e0] at this
  unfold Own
  rw [hlen]
  exact this
theorem allEq_eq : ∀ xs ys : List Int, Lib.allEq (fun x y => x == y) xs ys = decide (xs = ys)
  | [], [] => rfl
  | [], y :: ys => by simp [Lib.allEq]
  | x :: xs, [] => by simp [Lib.allEq]
  | x :: xs, y :: ys => by
    rw [Lib.allEq, allEq_eq xs ys]
    by_cases h : x = y
    · subst h; simp
    · simp [h]
/-- slices.Equal. -/
theorem equalT (b1 b2 : Nat) (A B : Option Addr) (n c m d : Nat) (xs ys : List Int) (w : World) (hx : Slc w b1 A n c xs) (hy : Slc w b2 B m d ys) (h1 : 1 ≤ n) (h2 : 1 ≤ m) (hn : n ≤ 2097152) (hm : m ≤ 2097152) :
    Calls Try.prog 32 #[.slice A n c, .slice B m d] w fun e w' => e = .returned (.bool (decide (xs = ys))) ∧ Below w.heap.size w w' := by
  obtain ⟨lx, ox⟩ := hx
  obtain ⟨ly, oy⟩ := hy
  subst lx; subst ly
  rcases Slc.at_ ⟨rfl, ox⟩ with ⟨_, _, e0, _⟩ | ⟨g, rfl, hb, hg⟩
  · omega
  rcases Slc.at_ ⟨rfl, oy⟩ with ⟨_, _, e0, _⟩ | ⟨g2, rfl, hb2, hg2⟩
  · omega
  have c1 := holds_own (Value.int .i64) (show w.ownsRow b1 2 1 (.slice (some ⟨g, 0, none⟩) xs.length c) xs.length (xs.map (Value.int .i64)) from ox)
  have c2 := holds_own (Value.int .i64) (show w.ownsRow b2 2 1 (.slice (some ⟨g2, 0, none⟩) ys.length d) ys.length (ys.map (Value.int .i64)) from oy)
  refine (AnyE.slices_Equal layEq (Value.int .i64) (fun x y => x == y) (NeqAt.int _ _ _) g 0 xs.length c g2 0 ys.length d xs ys w (Nat.le_refl _) (Nat.le_refl _) (by omega) (by omega) (fun j hj => (c1 j (by simpa using hj)).1.trans (by simp)) (fun j hj => (c2 j (by simpa using hj)).1.trans (by simp))).mono ?_
  rintro e w' ⟨rfl, q, rfl⟩
  refine ⟨ret_bool ?_, below_quiet _ _⟩
  rw [List.take_of_length_le (Nat.le_refl _), List.take_of_length_le (Nat.le_refl _)]
  exact allEq_eq xs ys
end Go.Proofs.Ytplgdbkolklgnaa
