/- What the frame of a proof knows of a slice of slices of int64 that came in. No condition. -/
import Derived.Test.YtooafmifbplbhaaSSx
import Derived.ChangeArms
import Derived.ProofKit
import Derived.OpenShut
import Derived.ChangeSlices
namespace Go.Proofs.Ytooafmifbplbhaa
open Go.ChangeShapes Go.WideShapes Go.ChangeAt Go.RowKit

theorem cellsS1 : Try.prog.cellsOf 25 = 1 := by kernel_rfl
theorem one_cell {W : World} {x : Addr} {cs : List Value} (h : W.cells? 0 x 1 = some cs) : ∃ c, cs = [c] ∧ W.cell? x = some c := by
  have e0 : x.add 0 = x := by simp [Addr.add]
  simp [World.cells?, List.range_succ, e0] at h
  cases hc : W.cell? x with
  | none => simp [hc] at h
  | some c =>
    simp [hc] at h
    exact ⟨c, h.symm, rfl⟩

theorem argSS {H : Type} {enc : TypeId × Value → H} {W : World} {a : Option Addr} {len cap : Nat} {d : DataW H} {ps : List MemPlace}
    (h : ∃ fuel, DataW.trod enc Try.prog W 0 (fun _ => true) true fuel 24 (Value.slice a len cap).cells.toList = some (d, ps)) :
    len ≤ maxLen ∧ ∃ vs xss, RR W W.heap.size a len vs xss ∧ ∀ i, i < len → (vs.getD i sd0).2.1 ≤ maxLen := by
  obtain ⟨fuel, hf⟩ := h
  rcases DataW.trod_slice Try.underlying24 hf with ⟨hcs, hx⟩ | ⟨a', len', cap', elems, rest, n, rfl, hcs, hx, _, hl, hm, hlen, hel, _, _⟩
  · simp [Value.cells] at hcs
    obtain ⟨rfl, rfl, rfl⟩ := hcs
    exact ⟨Nat.zero_le _, [], [], RR.nil_, fun i h => absurd h (by omega)⟩
  · simp [Value.cells] at hcs
    obtain ⟨rfl, rfl, rfl⟩ := hcs
    obtain ⟨b, off, spot⟩ := a'
    -- each element
    have key : ∀ i, i < len → ∃ (A : Option Addr) (l c : Nat) (xs : List Int), W.cell? (Addr.add ⟨b, off, spot⟩ i) = some (.slice A l c) ∧ xs.length = l ∧ l ≤ c ∧ c ≤ maxLen ∧ RI W W.heap.size A xs := by
      intro i hi
      have hE := hel i hi
      rw [cellsS1, Nat.mul_one, List.getElem?_eq_getElem (by omega)] at hE
      simp only [Option.bind_eq_some_iff] at hE
      obtain ⟨cs1, hc1, hy1⟩ := hE
      obtain ⟨c, rfl, hcc⟩ := one_cell hc1
      rcases open_ints Try.underlying25 Try.underlying2 (by kernel_rfl) hy1 with ⟨hcs, _⟩ | ⟨ia, il, ic, zs, hcs, _, hil, him, hiz, _, hicell, hiw⟩
      · injection hcs with hcs _
        subst hcs
        exact ⟨none, 0, 0, [], hcc, rfl, Nat.le_refl _, Nat.zero_le _, RI.nil_⟩
      · injection hcs with hcs _
        subst hcs
        have hiz' : zs.length = ic := by simpa using hiz
        obtain ⟨xs, hxl, hR⟩ := RI.of_row (w := W) (a := some ia) (len := il) (cap := ic) (zs := zs) (.inr ⟨ia, rfl, hil, him, hiz', hicell, hiw⟩)
        exact ⟨some ia, il, ic, xs, hcc, hxl.out, hil, him, hR⟩
    refine ⟨Nat.le_trans hl hm, ?_⟩
    have hch : ∃ f : Nat → SV × List Int, ∀ i, i < len → W.cell? (Addr.add ⟨b, off, spot⟩ i) = some (.slice (f i).1.1 (f i).1.2.1 (f i).1.2.2) ∧ (f i).2.length = (f i).1.2.1 ∧ (f i).1.2.1 ≤ (f i).1.2.2 ∧ (f i).1.2.2 ≤ maxLen ∧ RI W W.heap.size (f i).1.1 (f i).2 := by
      refine ⟨fun i => if hi : i < len then (((Classical.choose (key i hi)), Classical.choose (Classical.choose_spec (key i hi)), Classical.choose (Classical.choose_spec (Classical.choose_spec (key i hi)))), Classical.choose (Classical.choose_spec (Classical.choose_spec (Classical.choose_spec (key i hi))))) else (sd0, []), fun i hi => ?_⟩
      have := Classical.choose_spec (Classical.choose_spec (Classical.choose_spec (Classical.choose_spec (key i hi))))
      simp only [hi, dif_pos]
      exact this
    obtain ⟨f, hf⟩ := hch
    have g1 : ∀ j, j < len → ((List.range len).map fun i => (f i).1).getD j sd0 = (f j).1 := fun j hj => by
      rw [List.getD_eq_getElem?_getD, List.getElem?_map, List.getElem?_range hj]; rfl
    have g2 : ∀ j, j < len → ((List.range len).map fun i => (f i).2).getD j [] = (f j).2 := fun j hj => by
      rw [List.getD_eq_getElem?_getD, List.getElem?_map, List.getElem?_range hj]; rfl
    refine ⟨(List.range len).map fun i => (f i).1, (List.range len).map fun i => (f i).2, ⟨by simp, by simp, fun hp => ?_, fun j hj => ?_, fun j hj => ?_, fun j hj => ?_⟩, fun i hi => ?_⟩
    · have h0 := (hf 0 hp).1
      have hs : spot = none := by simpa [Addr.add] using World.cell?_spot h0
      subst hs
      refine ⟨b, off, rfl, ?_, fun j hj => ?_⟩
      · have := World.block_lt_of_cell? W _ h0
        simpa [Addr.add] using this
      · rw [g1 j hj, ← (hf j hj).1]
        unfold Addr.add
        split <;> simp_all
    · rw [g1 j hj, g2 j hj]; exact (hf j hj).2.2.2.2
    · rw [g1 j hj, g2 j hj]; exact (hf j hj).2.1
    · rw [g1 j hj]; exact (hf j hj).2.2.1
    · rw [g1 i hi]; exact Nat.le_trans (hf i hi).2.2.1 (hf i hi).2.2.2.1
end Go.Proofs.Ytooafmifbplbhaa
