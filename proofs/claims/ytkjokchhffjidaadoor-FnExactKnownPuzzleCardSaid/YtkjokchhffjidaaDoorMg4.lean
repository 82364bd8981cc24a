/- Part 4 of the texts: KnB, KnC, WalkK9. No condition of its own: each text tells its own. -/
import Derived.Test.YtkjokchhffjidaaDoorMg3
set_option linter.unusedVariables false
set_option linter.unusedSimpArgs false

/- The model's KnownPuzzle. No condition. -/
namespace Go.Proofs.YtkjokchhffjidaaDoor
open Go.RowKit

set_option maxHeartbeats 4000000 in
set_option maxRecDepth 100000 in
theorem specKn0 (w : World) :
    Calls Tryd.prog 4 #[.int .i64 0] w fun e w' => ∃ A m c us, e = .returned (.tuple #[.agg #[.int .i64 4, .string ⟨#[65, 66, 67]⟩, .slice A m c], .bool true]) ∧ SS w' w.heap.size w.heap.size A m c us (knG 0) ∧ m ≤ 4 ∧ (∀ i, i < m → (us.getD i sd0).2.1 ≤ 20) ∧ Below w.heap.size w w' := by
  have c0 : Hid (Blk ((w.alloc (.cells #[.int .i64 0, .string ⟨#[]⟩, .slice none 0 0] 24)).alloc (.cells #[.string ⟨#[40, 48, 32, 49, 41]⟩, .string ⟨#[40, 49, 32, 50, 41]⟩, .string ⟨#[40, 50, 32, 51, 41]⟩] 9)) (w.heap.size + 1) 9 #[.string ⟨#[40, 48, 32, 49, 41]⟩, .string ⟨#[40, 49, 32, 50, 41]⟩, .string ⟨#[40, 50, 32, 51, 41]⟩]) := Lib.hid (by
    have := Blk.new (w.alloc (.cells #[.int .i64 0, .string ⟨#[]⟩, .slice none 0 0] 24)) 9 #[.string ⟨#[40, 48, 32, 49, 41]⟩, .string ⟨#[40, 49, 32, 50, 41]⟩, .string ⟨#[40, 50, 32, 51, 41]⟩]; rw [World.size_alloc] at this; exact this)
  have p0 : Hid (Blk ((w.alloc (.cells #[.int .i64 0, .string ⟨#[]⟩, .slice none 0 0] 24)).alloc (.cells #[.string ⟨#[40, 48, 32, 49, 41]⟩, .string ⟨#[40, 49, 32, 50, 41]⟩, .string ⟨#[40, 50, 32, 51, 41]⟩] 9)) w.heap.size 24 #[.int .i64 0, .string ⟨#[]⟩, .slice none 0 0]) := Lib.hid ((Blk.new w _ _).alloc _)
  have B0 : Hid (Below w.heap.size w ((w.alloc (.cells #[.int .i64 0, .string ⟨#[]⟩, .slice none 0 0] 24)).alloc (.cells #[.string ⟨#[40, 48, 32, 49, 41]⟩, .string ⟨#[40, 49, 32, 50, 41]⟩, .string ⟨#[40, 50, 32, 51, 41]⟩] 9))) := Lib.hid (((Below.refl _ w).alloc (Nat.le_refl _) _).alloc (by simp) _)
  go_enter Tryd.func4, Tryd.ntmps4
  go_wp2_with fail
  refine (specPuzzleOf 4 (w.heap.size + 1) 3 3 [⟨#[40, 48, 32, 49, 41]⟩, ⟨#[40, 49, 32, 50, 41]⟩, ⟨#[40, 50, 32, 51, 41]⟩] ((w.alloc (.cells #[.int .i64 0, .string ⟨#[]⟩, .slice none 0 0] 24)).alloc (.cells #[.string ⟨#[40, 48, 32, 49, 41]⟩, .string ⟨#[40, 49, 32, 50, 41]⟩, .string ⟨#[40, 50, 32, 51, 41]⟩] 9)) (by decide) (by decide) (by decide) rfl (by simp) (Lib.hid ?_) (Lib.hid ?_) ⟨#[65, 66, 67]⟩ (Lib.hid (by first | rfl | decide))).mono ?_
  · intro j hj
    rw [c0.out.cell j]
    match j, hj with
    | 0, _ => rfl
    | 1, _ => rfl
    | 2, _ => rfl
  · intro j hj
    match j, hj with
    | 0, _ => exact (by decide : (⟨#[40, 48, 32, 49, 41]⟩ : ByteArray).size ≤ 200)
    | 1, _ => exact (by decide : (⟨#[40, 49, 32, 50, 41]⟩ : ByteArray).size ≤ 200)
    | 2, _ => exact (by decide : (⟨#[40, 50, 32, 51, 41]⟩ : ByteArray).size ≤ 200)
  rintro e w1 ⟨A, c, us, rfl, s1, l1, b1⟩
  have P1 := Lib.hid (p0.out.below b1 p0.out.lt)
  have B1 := btr B0.out b1
  have S1 : SS w1 (w.heap.size + 2) (w.heap.size + 2) A 3 c us (knG 0) := by have := s1; rw [show (4 : Int) = ((4 : Nat) : Int) from rfl] at *; rw [show knG 0 = rdC 4 [⟨#[40, 48, 32, 49, 41]⟩, ⟨#[40, 49, 32, 50, 41]⟩, ⟨#[40, 50, 32, 51, 41]⟩] from rd0.symm]; simpa using this
  have hs1 : w.heap.size + 2 ≤ w1.heap.size := by have := b1.size; simpa using this
  have y0 := P1.out.cell 0
  have y1 := P1.out.cell 1
  have y2 := P1.out.cell 2
  have g0 := P1.out.frozen 0
  have g1 := P1.out.frozen 1
  have g2 := P1.out.frozen 2
  go_wp2_with fail
  obtain ⟨W2, e2⟩ : ∃ W2, w1.setCell ⟨w.heap.size, 0, none⟩ (.int .i64 4) = W2 := ⟨_, rfl⟩
  obtain ⟨W3, e3⟩ : ∃ W3, W2.setCell ⟨w.heap.size, 1, none⟩ (.string ⟨#[65, 66, 67]⟩) = W3 := ⟨_, rfl⟩
  obtain ⟨W4, e4⟩ : ∃ W4, W3.setCell ⟨w.heap.size, 2, none⟩ (.slice A 3 c) = W4 := ⟨_, rfl⟩
  rw [e2, e3, e4]
  have D2 : Blk W2 w.heap.size 24 #[.int .i64 4, .string ⟨#[]⟩, .slice none 0 0] := by rw [← e2]; exact P1.out.set_ 0 _
  have D3 : Blk W3 w.heap.size 24 #[.int .i64 4, .string ⟨#[65, 66, 67]⟩, .slice none 0 0] := by rw [← e3]; exact D2.set_ 1 _
  have D4 : Blk W4 w.heap.size 24 #[.int .i64 4, .string ⟨#[65, 66, 67]⟩, .slice A 3 c] := by rw [← e4]; exact D3.set_ 2 _
  have r1 := D4.cell 0
  have r2 := D4.cell 1
  have r3 := D4.cell 2
  have Be : Below w.heap.size w W4 := by
    rw [← e4, ← e3, ← e2]
    exact ((B1.setCell (p := ⟨w.heap.size, 0, none⟩) (Nat.le_refl _) _).setCell (p := ⟨w.heap.size, 1, none⟩) (Nat.le_refl _) _).setCell (p := ⟨w.heap.size, 2, none⟩) (Nat.le_refl _) _
  have LA := S1.lt_
  have LI := fun t ht => (S1.row t ht).lt_
  have S6 := (S1).farR (w' := W2) (r := w.heap.size) (by rw [← e2]; exact grown_set (grown_refl _ _) _ _) LA LI (.inl (by simp))
  have S7 := (S6).farR (w' := W3) (r := w.heap.size) (by rw [← e3]; exact grown_set (grown_refl _ _) _ _) LA LI (.inl (by simp))
  have S8 := (S7).farR (w' := W4) (r := w.heap.size) (by rw [← e4]; exact grown_set (grown_refl _ _) _ _) LA LI (.inl (by simp))
  clear e2 e3 e4
  exact bodyPost_ret (v := .tuple #[.agg #[.int .i64 4, .string ⟨#[65, 66, 67]⟩, .slice A 3 c], .bool true]) (by simp [results, Tryd.results4, r1, r2, r3, go_sem]) rfl ⟨A, 3, c, us, rfl, S8.mono (by simp) (by simp), by omega, l1, Be⟩
set_option maxHeartbeats 4000000 in
set_option maxRecDepth 100000 in
theorem specKn1 (w : World) :
    Calls Tryd.prog 4 #[.int .i64 1] w fun e w' => ∃ A m c us, e = .returned (.tuple #[.agg #[.int .i64 6, .string ⟨#[65, 66]⟩, .slice A m c], .bool true]) ∧ SS w' w.heap.size w.heap.size A m c us (knG 1) ∧ m ≤ 4 ∧ (∀ i, i < m → (us.getD i sd0).2.1 ≤ 20) ∧ Below w.heap.size w w' := by
  have c0 : Hid (Blk ((w.alloc (.cells #[.int .i64 0, .string ⟨#[]⟩, .slice none 0 0] 24)).alloc (.cells #[.string ⟨#[40, 48, 32, 49, 32, 50, 32, 51, 32, 52, 32, 53, 41]⟩, .string ⟨#[40, 48, 32, 50, 41]⟩] 9)) (w.heap.size + 1) 9 #[.string ⟨#[40, 48, 32, 49, 32, 50, 32, 51, 32, 52, 32, 53, 41]⟩, .string ⟨#[40, 48, 32, 50, 41]⟩]) := Lib.hid (by
    have := Blk.new (w.alloc (.cells #[.int .i64 0, .string ⟨#[]⟩, .slice none 0 0] 24)) 9 #[.string ⟨#[40, 48, 32, 49, 32, 50, 32, 51, 32, 52, 32, 53, 41]⟩, .string ⟨#[40, 48, 32, 50, 41]⟩]; rw [World.size_alloc] at this; exact this)
  have p0 : Hid (Blk ((w.alloc (.cells #[.int .i64 0, .string ⟨#[]⟩, .slice none 0 0] 24)).alloc (.cells #[.string ⟨#[40, 48, 32, 49, 32, 50, 32, 51, 32, 52, 32, 53, 41]⟩, .string ⟨#[40, 48, 32, 50, 41]⟩] 9)) w.heap.size 24 #[.int .i64 0, .string ⟨#[]⟩, .slice none 0 0]) := Lib.hid ((Blk.new w _ _).alloc _)
  have B0 : Hid (Below w.heap.size w ((w.alloc (.cells #[.int .i64 0, .string ⟨#[]⟩, .slice none 0 0] 24)).alloc (.cells #[.string ⟨#[40, 48, 32, 49, 32, 50, 32, 51, 32, 52, 32, 53, 41]⟩, .string ⟨#[40, 48, 32, 50, 41]⟩] 9))) := Lib.hid (((Below.refl _ w).alloc (Nat.le_refl _) _).alloc (by simp) _)
  go_enter Tryd.func4, Tryd.ntmps4
  go_wp2_with fail
  refine (specPuzzleOf 6 (w.heap.size + 1) 2 2 [⟨#[40, 48, 32, 49, 32, 50, 32, 51, 32, 52, 32, 53, 41]⟩, ⟨#[40, 48, 32, 50, 41]⟩] ((w.alloc (.cells #[.int .i64 0, .string ⟨#[]⟩, .slice none 0 0] 24)).alloc (.cells #[.string ⟨#[40, 48, 32, 49, 32, 50, 32, 51, 32, 52, 32, 53, 41]⟩, .string ⟨#[40, 48, 32, 50, 41]⟩] 9)) (by decide) (by decide) (by decide) rfl (by simp) (Lib.hid ?_) (Lib.hid ?_) ⟨#[65, 66]⟩ (Lib.hid (by first | rfl | decide))).mono ?_
  · intro j hj
    rw [c0.out.cell j]
    match j, hj with
    | 0, _ => rfl
    | 1, _ => rfl
  · intro j hj
    match j, hj with
    | 0, _ => exact (by decide : (⟨#[40, 48, 32, 49, 32, 50, 32, 51, 32, 52, 32, 53, 41]⟩ : ByteArray).size ≤ 200)
    | 1, _ => exact (by decide : (⟨#[40, 48, 32, 50, 41]⟩ : ByteArray).size ≤ 200)
  rintro e w1 ⟨A, c, us, rfl, s1, l1, b1⟩
  have P1 := Lib.hid (p0.out.below b1 p0.out.lt)
  have B1 := btr B0.out b1
  have S1 : SS w1 (w.heap.size + 2) (w.heap.size + 2) A 2 c us (knG 1) := by have := s1; rw [show (6 : Int) = ((6 : Nat) : Int) from rfl] at *; rw [show knG 1 = rdC 6 [⟨#[40, 48, 32, 49, 32, 50, 32, 51, 32, 52, 32, 53, 41]⟩, ⟨#[40, 48, 32, 50, 41]⟩] from rd1.symm]; simpa using this
  have hs1 : w.heap.size + 2 ≤ w1.heap.size := by have := b1.size; simpa using this
  have y0 := P1.out.cell 0
  have y1 := P1.out.cell 1
  have y2 := P1.out.cell 2
  have g0 := P1.out.frozen 0
  have g1 := P1.out.frozen 1
  have g2 := P1.out.frozen 2
  go_wp2_with fail
  obtain ⟨W2, e2⟩ : ∃ W2, w1.setCell ⟨w.heap.size, 0, none⟩ (.int .i64 6) = W2 := ⟨_, rfl⟩
  obtain ⟨W3, e3⟩ : ∃ W3, W2.setCell ⟨w.heap.size, 1, none⟩ (.string ⟨#[65, 66]⟩) = W3 := ⟨_, rfl⟩
  obtain ⟨W4, e4⟩ : ∃ W4, W3.setCell ⟨w.heap.size, 2, none⟩ (.slice A 2 c) = W4 := ⟨_, rfl⟩
  rw [e2, e3, e4]
  have D2 : Blk W2 w.heap.size 24 #[.int .i64 6, .string ⟨#[]⟩, .slice none 0 0] := by rw [← e2]; exact P1.out.set_ 0 _
  have D3 : Blk W3 w.heap.size 24 #[.int .i64 6, .string ⟨#[65, 66]⟩, .slice none 0 0] := by rw [← e3]; exact D2.set_ 1 _
  have D4 : Blk W4 w.heap.size 24 #[.int .i64 6, .string ⟨#[65, 66]⟩, .slice A 2 c] := by rw [← e4]; exact D3.set_ 2 _
  have r1 := D4.cell 0
  have r2 := D4.cell 1
  have r3 := D4.cell 2
  have Be : Below w.heap.size w W4 := by
    rw [← e4, ← e3, ← e2]
    exact ((B1.setCell (p := ⟨w.heap.size, 0, none⟩) (Nat.le_refl _) _).setCell (p := ⟨w.heap.size, 1, none⟩) (Nat.le_refl _) _).setCell (p := ⟨w.heap.size, 2, none⟩) (Nat.le_refl _) _
  have LA := S1.lt_
  have LI := fun t ht => (S1.row t ht).lt_
  have S6 := (S1).farR (w' := W2) (r := w.heap.size) (by rw [← e2]; exact grown_set (grown_refl _ _) _ _) LA LI (.inl (by simp))
  have S7 := (S6).farR (w' := W3) (r := w.heap.size) (by rw [← e3]; exact grown_set (grown_refl _ _) _ _) LA LI (.inl (by simp))
  have S8 := (S7).farR (w' := W4) (r := w.heap.size) (by rw [← e4]; exact grown_set (grown_refl _ _) _ _) LA LI (.inl (by simp))
  clear e2 e3 e4
  exact bodyPost_ret (v := .tuple #[.agg #[.int .i64 6, .string ⟨#[65, 66]⟩, .slice A 2 c], .bool true]) (by simp [results, Tryd.results4, r1, r2, r3, go_sem]) rfl ⟨A, 2, c, us, rfl, S8.mono (by simp) (by simp), by omega, l1, Be⟩
set_option maxHeartbeats 4000000 in
set_option maxRecDepth 100000 in
theorem specKn2 (w : World) :
    Calls Tryd.prog 4 #[.int .i64 2] w fun e w' => ∃ A m c us, e = .returned (.tuple #[.agg #[.int .i64 6, .string ⟨#[65, 66]⟩, .slice A m c], .bool true]) ∧ SS w' w.heap.size w.heap.size A m c us (knG 2) ∧ m ≤ 4 ∧ (∀ i, i < m → (us.getD i sd0).2.1 ≤ 20) ∧ Below w.heap.size w w' := by
  have c0 : Hid (Blk ((w.alloc (.cells #[.int .i64 0, .string ⟨#[]⟩, .slice none 0 0] 24)).alloc (.cells #[.string ⟨#[40, 48, 32, 49, 32, 50, 32, 51, 41]⟩, .string ⟨#[40, 50, 32, 51, 32, 52, 32, 53, 41]⟩] 9)) (w.heap.size + 1) 9 #[.string ⟨#[40, 48, 32, 49, 32, 50, 32, 51, 41]⟩, .string ⟨#[40, 50, 32, 51, 32, 52, 32, 53, 41]⟩]) := Lib.hid (by
    have := Blk.new (w.alloc (.cells #[.int .i64 0, .string ⟨#[]⟩, .slice none 0 0] 24)) 9 #[.string ⟨#[40, 48, 32, 49, 32, 50, 32, 51, 41]⟩, .string ⟨#[40, 50, 32, 51, 32, 52, 32, 53, 41]⟩]; rw [World.size_alloc] at this; exact this)
  have p0 : Hid (Blk ((w.alloc (.cells #[.int .i64 0, .string ⟨#[]⟩, .slice none 0 0] 24)).alloc (.cells #[.string ⟨#[40, 48, 32, 49, 32, 50, 32, 51, 41]⟩, .string ⟨#[40, 50, 32, 51, 32, 52, 32, 53, 41]⟩] 9)) w.heap.size 24 #[.int .i64 0, .string ⟨#[]⟩, .slice none 0 0]) := Lib.hid ((Blk.new w _ _).alloc _)
  have B0 : Hid (Below w.heap.size w ((w.alloc (.cells #[.int .i64 0, .string ⟨#[]⟩, .slice none 0 0] 24)).alloc (.cells #[.string ⟨#[40, 48, 32, 49, 32, 50, 32, 51, 41]⟩, .string ⟨#[40, 50, 32, 51, 32, 52, 32, 53, 41]⟩] 9))) := Lib.hid (((Below.refl _ w).alloc (Nat.le_refl _) _).alloc (by simp) _)
  go_enter Tryd.func4, Tryd.ntmps4
  go_wp2_with fail
  refine (specPuzzleOf 6 (w.heap.size + 1) 2 2 [⟨#[40, 48, 32, 49, 32, 50, 32, 51, 41]⟩, ⟨#[40, 50, 32, 51, 32, 52, 32, 53, 41]⟩] ((w.alloc (.cells #[.int .i64 0, .string ⟨#[]⟩, .slice none 0 0] 24)).alloc (.cells #[.string ⟨#[40, 48, 32, 49, 32, 50, 32, 51, 41]⟩, .string ⟨#[40, 50, 32, 51, 32, 52, 32, 53, 41]⟩] 9)) (by decide) (by decide) (by decide) rfl (by simp) (Lib.hid ?_) (Lib.hid ?_) ⟨#[65, 66]⟩ (Lib.hid (by first | rfl | decide))).mono ?_
  · intro j hj
    rw [c0.out.cell j]
    match j, hj with
    | 0, _ => rfl
    | 1, _ => rfl
  · intro j hj
    match j, hj with
    | 0, _ => exact (by decide : (⟨#[40, 48, 32, 49, 32, 50, 32, 51, 41]⟩ : ByteArray).size ≤ 200)
    | 1, _ => exact (by decide : (⟨#[40, 50, 32, 51, 32, 52, 32, 53, 41]⟩ : ByteArray).size ≤ 200)
  rintro e w1 ⟨A, c, us, rfl, s1, l1, b1⟩
  have P1 := Lib.hid (p0.out.below b1 p0.out.lt)
  have B1 := btr B0.out b1
  have S1 : SS w1 (w.heap.size + 2) (w.heap.size + 2) A 2 c us (knG 2) := by have := s1; rw [show (6 : Int) = ((6 : Nat) : Int) from rfl] at *; rw [show knG 2 = rdC 6 [⟨#[40, 48, 32, 49, 32, 50, 32, 51, 41]⟩, ⟨#[40, 50, 32, 51, 32, 52, 32, 53, 41]⟩] from rd2.symm]; simpa using this
  have hs1 : w.heap.size + 2 ≤ w1.heap.size := by have := b1.size; simpa using this
  have y0 := P1.out.cell 0
  have y1 := P1.out.cell 1
  have y2 := P1.out.cell 2
  have g0 := P1.out.frozen 0
  have g1 := P1.out.frozen 1
  have g2 := P1.out.frozen 2
  go_wp2_with fail
  obtain ⟨W2, e2⟩ : ∃ W2, w1.setCell ⟨w.heap.size, 0, none⟩ (.int .i64 6) = W2 := ⟨_, rfl⟩
  obtain ⟨W3, e3⟩ : ∃ W3, W2.setCell ⟨w.heap.size, 1, none⟩ (.string ⟨#[65, 66]⟩) = W3 := ⟨_, rfl⟩
  obtain ⟨W4, e4⟩ : ∃ W4, W3.setCell ⟨w.heap.size, 2, none⟩ (.slice A 2 c) = W4 := ⟨_, rfl⟩
  rw [e2, e3, e4]
  have D2 : Blk W2 w.heap.size 24 #[.int .i64 6, .string ⟨#[]⟩, .slice none 0 0] := by rw [← e2]; exact P1.out.set_ 0 _
  have D3 : Blk W3 w.heap.size 24 #[.int .i64 6, .string ⟨#[65, 66]⟩, .slice none 0 0] := by rw [← e3]; exact D2.set_ 1 _
  have D4 : Blk W4 w.heap.size 24 #[.int .i64 6, .string ⟨#[65, 66]⟩, .slice A 2 c] := by rw [← e4]; exact D3.set_ 2 _
  have r1 := D4.cell 0
  have r2 := D4.cell 1
  have r3 := D4.cell 2
  have Be : Below w.heap.size w W4 := by
    rw [← e4, ← e3, ← e2]
    exact ((B1.setCell (p := ⟨w.heap.size, 0, none⟩) (Nat.le_refl _) _).setCell (p := ⟨w.heap.size, 1, none⟩) (Nat.le_refl _) _).setCell (p := ⟨w.heap.size, 2, none⟩) (Nat.le_refl _) _
  have LA := S1.lt_
  have LI := fun t ht => (S1.row t ht).lt_
  have S6 := (S1).farR (w' := W2) (r := w.heap.size) (by rw [← e2]; exact grown_set (grown_refl _ _) _ _) LA LI (.inl (by simp))
  have S7 := (S6).farR (w' := W3) (r := w.heap.size) (by rw [← e3]; exact grown_set (grown_refl _ _) _ _) LA LI (.inl (by simp))
  have S8 := (S7).farR (w' := W4) (r := w.heap.size) (by rw [← e4]; exact grown_set (grown_refl _ _) _ _) LA LI (.inl (by simp))
  clear e2 e3 e4
  exact bodyPost_ret (v := .tuple #[.agg #[.int .i64 6, .string ⟨#[65, 66]⟩, .slice A 2 c], .bool true]) (by simp [results, Tryd.results4, r1, r2, r3, go_sem]) rfl ⟨A, 2, c, us, rfl, S8.mono (by simp) (by simp), by omega, l1, Be⟩
set_option maxHeartbeats 4000000 in
set_option maxRecDepth 100000 in
theorem specKn3 (w : World) :
    Calls Tryd.prog 4 #[.int .i64 3] w fun e w' => ∃ A m c us, e = .returned (.tuple #[.agg #[.int .i64 7, .string ⟨#[65, 66, 67]⟩, .slice A m c], .bool true]) ∧ SS w' w.heap.size w.heap.size A m c us (knG 3) ∧ m ≤ 4 ∧ (∀ i, i < m → (us.getD i sd0).2.1 ≤ 20) ∧ Below w.heap.size w w' := by
  have c0 : Hid (Blk ((w.alloc (.cells #[.int .i64 0, .string ⟨#[]⟩, .slice none 0 0] 24)).alloc (.cells #[.string ⟨#[40, 48, 32, 49, 32, 50, 32, 51, 41]⟩, .string ⟨#[40, 49, 32, 50, 32, 54, 32, 53, 41]⟩, .string ⟨#[40, 48, 32, 52, 32, 53, 32, 49, 41]⟩] 9)) (w.heap.size + 1) 9 #[.string ⟨#[40, 48, 32, 49, 32, 50, 32, 51, 41]⟩, .string ⟨#[40, 49, 32, 50, 32, 54, 32, 53, 41]⟩, .string ⟨#[40, 48, 32, 52, 32, 53, 32, 49, 41]⟩]) := Lib.hid (by
    have := Blk.new (w.alloc (.cells #[.int .i64 0, .string ⟨#[]⟩, .slice none 0 0] 24)) 9 #[.string ⟨#[40, 48, 32, 49, 32, 50, 32, 51, 41]⟩, .string ⟨#[40, 49, 32, 50, 32, 54, 32, 53, 41]⟩, .string ⟨#[40, 48, 32, 52, 32, 53, 32, 49, 41]⟩]; rw [World.size_alloc] at this; exact this)
  have p0 : Hid (Blk ((w.alloc (.cells #[.int .i64 0, .string ⟨#[]⟩, .slice none 0 0] 24)).alloc (.cells #[.string ⟨#[40, 48, 32, 49, 32, 50, 32, 51, 41]⟩, .string ⟨#[40, 49, 32, 50, 32, 54, 32, 53, 41]⟩, .string ⟨#[40, 48, 32, 52, 32, 53, 32, 49, 41]⟩] 9)) w.heap.size 24 #[.int .i64 0, .string ⟨#[]⟩, .slice none 0 0]) := Lib.hid ((Blk.new w _ _).alloc _)
  have B0 : Hid (Below w.heap.size w ((w.alloc (.cells #[.int .i64 0, .string ⟨#[]⟩, .slice none 0 0] 24)).alloc (.cells #[.string ⟨#[40, 48, 32, 49, 32, 50, 32, 51, 41]⟩, .string ⟨#[40, 49, 32, 50, 32, 54, 32, 53, 41]⟩, .string ⟨#[40, 48, 32, 52, 32, 53, 32, 49, 41]⟩] 9))) := Lib.hid (((Below.refl _ w).alloc (Nat.le_refl _) _).alloc (by simp) _)
  go_enter Tryd.func4, Tryd.ntmps4
  go_wp2_with fail
  refine (specPuzzleOf 7 (w.heap.size + 1) 3 3 [⟨#[40, 48, 32, 49, 32, 50, 32, 51, 41]⟩, ⟨#[40, 49, 32, 50, 32, 54, 32, 53, 41]⟩, ⟨#[40, 48, 32, 52, 32, 53, 32, 49, 41]⟩] ((w.alloc (.cells #[.int .i64 0, .string ⟨#[]⟩, .slice none 0 0] 24)).alloc (.cells #[.string ⟨#[40, 48, 32, 49, 32, 50, 32, 51, 41]⟩, .string ⟨#[40, 49, 32, 50, 32, 54, 32, 53, 41]⟩, .string ⟨#[40, 48, 32, 52, 32, 53, 32, 49, 41]⟩] 9)) (by decide) (by decide) (by decide) rfl (by simp) (Lib.hid ?_) (Lib.hid ?_) ⟨#[65, 66, 67]⟩ (Lib.hid (by first | rfl | decide))).mono ?_
  · intro j hj
    rw [c0.out.cell j]
    match j, hj with
    | 0, _ => rfl
    | 1, _ => rfl
    | 2, _ => rfl
  · intro j hj
    match j, hj with
    | 0, _ => exact (by decide : (⟨#[40, 48, 32, 49, 32, 50, 32, 51, 41]⟩ : ByteArray).size ≤ 200)
    | 1, _ => exact (by decide : (⟨#[40, 49, 32, 50, 32, 54, 32, 53, 41]⟩ : ByteArray).size ≤ 200)
    | 2, _ => exact (by decide : (⟨#[40, 48, 32, 52, 32, 53, 32, 49, 41]⟩ : ByteArray).size ≤ 200)
  rintro e w1 ⟨A, c, us, rfl, s1, l1, b1⟩
  have P1 := Lib.hid (p0.out.below b1 p0.out.lt)
  have B1 := btr B0.out b1
  have S1 : SS w1 (w.heap.size + 2) (w.heap.size + 2) A 3 c us (knG 3) := by have := s1; rw [show (7 : Int) = ((7 : Nat) : Int) from rfl] at *; rw [show knG 3 = rdC 7 [⟨#[40, 48, 32, 49, 32, 50, 32, 51, 41]⟩, ⟨#[40, 49, 32, 50, 32, 54, 32, 53, 41]⟩, ⟨#[40, 48, 32, 52, 32, 53, 32, 49, 41]⟩] from rd3.symm]; simpa using this
  have hs1 : w.heap.size + 2 ≤ w1.heap.size := by have := b1.size; simpa using this
  have y0 := P1.out.cell 0
  have y1 := P1.out.cell 1
  have y2 := P1.out.cell 2
  have g0 := P1.out.frozen 0
  have g1 := P1.out.frozen 1
  have g2 := P1.out.frozen 2
  go_wp2_with fail
  obtain ⟨W2, e2⟩ : ∃ W2, w1.setCell ⟨w.heap.size, 0, none⟩ (.int .i64 7) = W2 := ⟨_, rfl⟩
  obtain ⟨W3, e3⟩ : ∃ W3, W2.setCell ⟨w.heap.size, 1, none⟩ (.string ⟨#[65, 66, 67]⟩) = W3 := ⟨_, rfl⟩
  obtain ⟨W4, e4⟩ : ∃ W4, W3.setCell ⟨w.heap.size, 2, none⟩ (.slice A 3 c) = W4 := ⟨_, rfl⟩
  rw [e2, e3, e4]
  have D2 : Blk W2 w.heap.size 24 #[.int .i64 7, .string ⟨#[]⟩, .slice none 0 0] := by rw [← e2]; exact P1.out.set_ 0 _
  have D3 : Blk W3 w.heap.size 24 #[.int .i64 7, .string ⟨#[65, 66, 67]⟩, .slice none 0 0] := by rw [← e3]; exact D2.set_ 1 _
  have D4 : Blk W4 w.heap.size 24 #[.int .i64 7, .string ⟨#[65, 66, 67]⟩, .slice A 3 c] := by rw [← e4]; exact D3.set_ 2 _
  have r1 := D4.cell 0
  have r2 := D4.cell 1
  have r3 := D4.cell 2
  have Be : Below w.heap.size w W4 := by
    rw [← e4, ← e3, ← e2]
    exact ((B1.setCell (p := ⟨w.heap.size, 0, none⟩) (Nat.le_refl _) _).setCell (p := ⟨w.heap.size, 1, none⟩) (Nat.le_refl _) _).setCell (p := ⟨w.heap.size, 2, none⟩) (Nat.le_refl _) _
  have LA := S1.lt_
  have LI := fun t ht => (S1.row t ht).lt_
  have S6 := (S1).farR (w' := W2) (r := w.heap.size) (by rw [← e2]; exact grown_set (grown_refl _ _) _ _) LA LI (.inl (by simp))
  have S7 := (S6).farR (w' := W3) (r := w.heap.size) (by rw [← e3]; exact grown_set (grown_refl _ _) _ _) LA LI (.inl (by simp))
  have S8 := (S7).farR (w' := W4) (r := w.heap.size) (by rw [← e4]; exact grown_set (grown_refl _ _) _ _) LA LI (.inl (by simp))
  clear e2 e3 e4
  exact bodyPost_ret (v := .tuple #[.agg #[.int .i64 7, .string ⟨#[65, 66, 67]⟩, .slice A 3 c], .bool true]) (by simp [results, Tryd.results4, r1, r2, r3, go_sem]) rfl ⟨A, 3, c, us, rfl, S8.mono (by simp) (by simp), by omega, l1, Be⟩
set_option maxHeartbeats 4000000 in
set_option maxRecDepth 100000 in
theorem specKn4 (w : World) :
    Calls Tryd.prog 4 #[.int .i64 4] w fun e w' => ∃ A m c us, e = .returned (.tuple #[.agg #[.int .i64 12, .string ⟨#[65, 66, 67, 68]⟩, .slice A m c], .bool true]) ∧ SS w' w.heap.size w.heap.size A m c us (knG 4) ∧ m ≤ 4 ∧ (∀ i, i < m → (us.getD i sd0).2.1 ≤ 20) ∧ Below w.heap.size w w' := by
  have c0 : Hid (Blk ((w.alloc (.cells #[.int .i64 0, .string ⟨#[]⟩, .slice none 0 0] 24)).alloc (.cells #[.string ⟨#[40, 48, 32, 49, 41, 40, 52, 32, 53, 41]⟩, .string ⟨#[40, 49, 32, 50, 41, 40, 54, 32, 55, 41]⟩, .string ⟨#[40, 50, 32, 51, 41, 40, 56, 32, 57, 41]⟩, .string ⟨#[40, 48, 32, 51, 41, 40, 49, 48, 32, 49, 49, 41]⟩] 9)) (w.heap.size + 1) 9 #[.string ⟨#[40, 48, 32, 49, 41, 40, 52, 32, 53, 41]⟩, .string ⟨#[40, 49, 32, 50, 41, 40, 54, 32, 55, 41]⟩, .string ⟨#[40, 50, 32, 51, 41, 40, 56, 32, 57, 41]⟩, .string ⟨#[40, 48, 32, 51, 41, 40, 49, 48, 32, 49, 49, 41]⟩]) := Lib.hid (by
    have := Blk.new (w.alloc (.cells #[.int .i64 0, .string ⟨#[]⟩, .slice none 0 0] 24)) 9 #[.string ⟨#[40, 48, 32, 49, 41, 40, 52, 32, 53, 41]⟩, .string ⟨#[40, 49, 32, 50, 41, 40, 54, 32, 55, 41]⟩, .string ⟨#[40, 50, 32, 51, 41, 40, 56, 32, 57, 41]⟩, .string ⟨#[40, 48, 32, 51, 41, 40, 49, 48, 32, 49, 49, 41]⟩]; rw [World.size_alloc] at this; exact this)
  have p0 : Hid (Blk ((w.alloc (.cells #[.int .i64 0, .string ⟨#[]⟩, .slice none 0 0] 24)).alloc (.cells #[.string ⟨#[40, 48, 32, 49, 41, 40, 52, 32, 53, 41]⟩, .string ⟨#[40, 49, 32, 50, 41, 40, 54, 32, 55, 41]⟩, .string ⟨#[40, 50, 32, 51, 41, 40, 56, 32, 57, 41]⟩, .string ⟨#[40, 48, 32, 51, 41, 40, 49, 48, 32, 49, 49, 41]⟩] 9)) w.heap.size 24 #[.int .i64 0, .string ⟨#[]⟩, .slice none 0 0]) := Lib.hid ((Blk.new w _ _).alloc _)
  have B0 : Hid (Below w.heap.size w ((w.alloc (.cells #[.int .i64 0, .string ⟨#[]⟩, .slice none 0 0] 24)).alloc (.cells #[.string ⟨#[40, 48, 32, 49, 41, 40, 52, 32, 53, 41]⟩, .string ⟨#[40, 49, 32, 50, 41, 40, 54, 32, 55, 41]⟩, .string ⟨#[40, 50, 32, 51, 41, 40, 56, 32, 57, 41]⟩, .string ⟨#[40, 48, 32, 51, 41, 40, 49, 48, 32, 49, 49, 41]⟩] 9))) := Lib.hid (((Below.refl _ w).alloc (Nat.le_refl _) _).alloc (by simp) _)
  go_enter Tryd.func4, Tryd.ntmps4
  go_wp2_with fail
  refine (specPuzzleOf 12 (w.heap.size + 1) 4 4 [⟨#[40, 48, 32, 49, 41, 40, 52, 32, 53, 41]⟩, ⟨#[40, 49, 32, 50, 41, 40, 54, 32, 55, 41]⟩, ⟨#[40, 50, 32, 51, 41, 40, 56, 32, 57, 41]⟩, ⟨#[40, 48, 32, 51, 41, 40, 49, 48, 32, 49, 49, 41]⟩] ((w.alloc (.cells #[.int .i64 0, .string ⟨#[]⟩, .slice none 0 0] 24)).alloc (.cells #[.string ⟨#[40, 48, 32, 49, 41, 40, 52, 32, 53, 41]⟩, .string ⟨#[40, 49, 32, 50, 41, 40, 54, 32, 55, 41]⟩, .string ⟨#[40, 50, 32, 51, 41, 40, 56, 32, 57, 41]⟩, .string ⟨#[40, 48, 32, 51, 41, 40, 49, 48, 32, 49, 49, 41]⟩] 9)) (by decide) (by decide) (by decide) rfl (by simp) (Lib.hid ?_) (Lib.hid ?_) ⟨#[65, 66, 67, 68]⟩ (Lib.hid (by first | rfl | decide))).mono ?_
  · intro j hj
    rw [c0.out.cell j]
    match j, hj with
    | 0, _ => rfl
    | 1, _ => rfl
    | 2, _ => rfl
    | 3, _ => rfl
  · intro j hj
    match j, hj with
    | 0, _ => exact (by decide : (⟨#[40, 48, 32, 49, 41, 40, 52, 32, 53, 41]⟩ : ByteArray).size ≤ 200)
    | 1, _ => exact (by decide : (⟨#[40, 49, 32, 50, 41, 40, 54, 32, 55, 41]⟩ : ByteArray).size ≤ 200)
    | 2, _ => exact (by decide : (⟨#[40, 50, 32, 51, 41, 40, 56, 32, 57, 41]⟩ : ByteArray).size ≤ 200)
    | 3, _ => exact (by decide : (⟨#[40, 48, 32, 51, 41, 40, 49, 48, 32, 49, 49, 41]⟩ : ByteArray).size ≤ 200)
  rintro e w1 ⟨A, c, us, rfl, s1, l1, b1⟩
  have P1 := Lib.hid (p0.out.below b1 p0.out.lt)
  have B1 := btr B0.out b1
  have S1 : SS w1 (w.heap.size + 2) (w.heap.size + 2) A 4 c us (knG 4) := by have := s1; rw [show (12 : Int) = ((12 : Nat) : Int) from rfl] at *; rw [show knG 4 = rdC 12 [⟨#[40, 48, 32, 49, 41, 40, 52, 32, 53, 41]⟩, ⟨#[40, 49, 32, 50, 41, 40, 54, 32, 55, 41]⟩, ⟨#[40, 50, 32, 51, 41, 40, 56, 32, 57, 41]⟩, ⟨#[40, 48, 32, 51, 41, 40, 49, 48, 32, 49, 49, 41]⟩] from rd4.symm]; simpa using this
  have hs1 : w.heap.size + 2 ≤ w1.heap.size := by have := b1.size; simpa using this
  have y0 := P1.out.cell 0
  have y1 := P1.out.cell 1
  have y2 := P1.out.cell 2
  have g0 := P1.out.frozen 0
  have g1 := P1.out.frozen 1
  have g2 := P1.out.frozen 2
  go_wp2_with fail
  obtain ⟨W2, e2⟩ : ∃ W2, w1.setCell ⟨w.heap.size, 0, none⟩ (.int .i64 12) = W2 := ⟨_, rfl⟩
  obtain ⟨W3, e3⟩ : ∃ W3, W2.setCell ⟨w.heap.size, 1, none⟩ (.string ⟨#[65, 66, 67, 68]⟩) = W3 := ⟨_, rfl⟩
  obtain ⟨W4, e4⟩ : ∃ W4, W3.setCell ⟨w.heap.size, 2, none⟩ (.slice A 4 c) = W4 := ⟨_, rfl⟩
  rw [e2, e3, e4]
  have D2 : Blk W2 w.heap.size 24 #[.int .i64 12, .string ⟨#[]⟩, .slice none 0 0] := by rw [← e2]; exact P1.out.set_ 0 _
  have D3 : Blk W3 w.heap.size 24 #[.int .i64 12, .string ⟨#[65, 66, 67, 68]⟩, .slice none 0 0] := by rw [← e3]; exact D2.set_ 1 _
  have D4 : Blk W4 w.heap.size 24 #[.int .i64 12, .string ⟨#[65, 66, 67, 68]⟩, .slice A 4 c] := by rw [← e4]; exact D3.set_ 2 _
  have r1 := D4.cell 0
  have r2 := D4.cell 1
  have r3 := D4.cell 2
  have Be : Below w.heap.size w W4 := by
    rw [← e4, ← e3, ← e2]
    exact ((B1.setCell (p := ⟨w.heap.size, 0, none⟩) (Nat.le_refl _) _).setCell (p := ⟨w.heap.size, 1, none⟩) (Nat.le_refl _) _).setCell (p := ⟨w.heap.size, 2, none⟩) (Nat.le_refl _) _
  have LA := S1.lt_
  have LI := fun t ht => (S1.row t ht).lt_
  have S6 := (S1).farR (w' := W2) (r := w.heap.size) (by rw [← e2]; exact grown_set (grown_refl _ _) _ _) LA LI (.inl (by simp))
  have S7 := (S6).farR (w' := W3) (r := w.heap.size) (by rw [← e3]; exact grown_set (grown_refl _ _) _ _) LA LI (.inl (by simp))
  have S8 := (S7).farR (w' := W4) (r := w.heap.size) (by rw [← e4]; exact grown_set (grown_refl _ _) _ _) LA LI (.inl (by simp))
  clear e2 e3 e4
  exact bodyPost_ret (v := .tuple #[.agg #[.int .i64 12, .string ⟨#[65, 66, 67, 68]⟩, .slice A 4 c], .bool true]) (by simp [results, Tryd.results4, r1, r2, r3, go_sem]) rfl ⟨A, 4, c, us, rfl, S8.mono (by simp) (by simp), by omega, l1, Be⟩
set_option maxHeartbeats 4000000 in
set_option maxRecDepth 100000 in
theorem specKn5 (w : World) :
    Calls Tryd.prog 4 #[.int .i64 5] w fun e w' => ∃ A m c us, e = .returned (.tuple #[.agg #[.int .i64 12, .string ⟨#[65, 66, 67, 68]⟩, .slice A m c], .bool true]) ∧ SS w' w.heap.size w.heap.size A m c us (knG 5) ∧ m ≤ 4 ∧ (∀ i, i < m → (us.getD i sd0).2.1 ≤ 20) ∧ Below w.heap.size w w' := by
  have c0 : Hid (Blk ((w.alloc (.cells #[.int .i64 0, .string ⟨#[]⟩, .slice none 0 0] 24)).alloc (.cells #[.string ⟨#[40, 48, 32, 49, 32, 50, 41, 40, 51, 32, 54, 32, 57, 41]⟩, .string ⟨#[40, 48, 32, 55, 32, 49, 48, 41, 40, 51, 32, 52, 32, 53, 41]⟩, .string ⟨#[40, 49, 32, 52, 32, 49, 49, 41, 40, 54, 32, 55, 32, 56, 41]⟩, .string ⟨#[40, 50, 32, 53, 32, 56, 41, 40, 57, 32, 49, 48, 32, 49, 49, 41]⟩] 9)) (w.heap.size + 1) 9 #[.string ⟨#[40, 48, 32, 49, 32, 50, 41, 40, 51, 32, 54, 32, 57, 41]⟩, .string ⟨#[40, 48, 32, 55, 32, 49, 48, 41, 40, 51, 32, 52, 32, 53, 41]⟩, .string ⟨#[40, 49, 32, 52, 32, 49, 49, 41, 40, 54, 32, 55, 32, 56, 41]⟩, .string ⟨#[40, 50, 32, 53, 32, 56, 41, 40, 57, 32, 49, 48, 32, 49, 49, 41]⟩]) := Lib.hid (by
    have := Blk.new (w.alloc (.cells #[.int .i64 0, .string ⟨#[]⟩, .slice none 0 0] 24)) 9 #[.string ⟨#[40, 48, 32, 49, 32, 50, 41, 40, 51, 32, 54, 32, 57, 41]⟩, .string ⟨#[40, 48, 32, 55, 32, 49, 48, 41, 40, 51, 32, 52, 32, 53, 41]⟩, .string ⟨#[40, 49, 32, 52, 32, 49, 49, 41, 40, 54, 32, 55, 32, 56, 41]⟩, .string ⟨#[40, 50, 32, 53, 32, 56, 41, 40, 57, 32, 49, 48, 32, 49, 49, 41]⟩]; rw [World.size_alloc] at this; exact this)
  have p0 : Hid (Blk ((w.alloc (.cells #[.int .i64 0, .string ⟨#[]⟩, .slice none 0 0] 24)).alloc (.cells #[.string ⟨#[40, 48, 32, 49, 32, 50, 41, 40, 51, 32, 54, 32, 57, 41]⟩, .string ⟨#[40, 48, 32, 55, 32, 49, 48, 41, 40, 51, 32, 52, 32, 53, 41]⟩, .string ⟨#[40, 49, 32, 52, 32, 49, 49, 41, 40, 54, 32, 55, 32, 56, 41]⟩, .string ⟨#[40, 50, 32, 53, 32, 56, 41, 40, 57, 32, 49, 48, 32, 49, 49, 41]⟩] 9)) w.heap.size 24 #[.int .i64 0, .string ⟨#[]⟩, .slice none 0 0]) := Lib.hid ((Blk.new w _ _).alloc _)
  have B0 : Hid (Below w.heap.size w ((w.alloc (.cells #[.int .i64 0, .string ⟨#[]⟩, .slice none 0 0] 24)).alloc (.cells #[.string ⟨#[40, 48, 32, 49, 32, 50, 41, 40, 51, 32, 54, 32, 57, 41]⟩, .string ⟨#[40, 48, 32, 55, 32, 49, 48, 41, 40, 51, 32, 52, 32, 53, 41]⟩, .string ⟨#[40, 49, 32, 52, 32, 49, 49, 41, 40, 54, 32, 55, 32, 56, 41]⟩, .string ⟨#[40, 50, 32, 53, 32, 56, 41, 40, 57, 32, 49, 48, 32, 49, 49, 41]⟩] 9))) := Lib.hid (((Below.refl _ w).alloc (Nat.le_refl _) _).alloc (by simp) _)
  go_enter Tryd.func4, Tryd.ntmps4
  go_wp2_with fail
  refine (specPuzzleOf 12 (w.heap.size + 1) 4 4 [⟨#[40, 48, 32, 49, 32, 50, 41, 40, 51, 32, 54, 32, 57, 41]⟩, ⟨#[40, 48, 32, 55, 32, 49, 48, 41, 40, 51, 32, 52, 32, 53, 41]⟩, ⟨#[40, 49, 32, 52, 32, 49, 49, 41, 40, 54, 32, 55, 32, 56, 41]⟩, ⟨#[40, 50, 32, 53, 32, 56, 41, 40, 57, 32, 49, 48, 32, 49, 49, 41]⟩] ((w.alloc (.cells #[.int .i64 0, .string ⟨#[]⟩, .slice none 0 0] 24)).alloc (.cells #[.string ⟨#[40, 48, 32, 49, 32, 50, 41, 40, 51, 32, 54, 32, 57, 41]⟩, .string ⟨#[40, 48, 32, 55, 32, 49, 48, 41, 40, 51, 32, 52, 32, 53, 41]⟩, .string ⟨#[40, 49, 32, 52, 32, 49, 49, 41, 40, 54, 32, 55, 32, 56, 41]⟩, .string ⟨#[40, 50, 32, 53, 32, 56, 41, 40, 57, 32, 49, 48, 32, 49, 49, 41]⟩] 9)) (by decide) (by decide) (by decide) rfl (by simp) (Lib.hid ?_) (Lib.hid ?_) ⟨#[65, 66, 67, 68]⟩ (Lib.hid (by first | rfl | decide))).mono ?_
  · intro j hj
    rw [c0.out.cell j]
    match j, hj with
    | 0, _ => rfl
    | 1, _ => rfl
    | 2, _ => rfl
    | 3, _ => rfl
  · intro j hj
    match j, hj with
    | 0, _ => exact (by decide : (⟨#[40, 48, 32, 49, 32, 50, 41, 40, 51, 32, 54, 32, 57, 41]⟩ : ByteArray).size ≤ 200)
    | 1, _ => exact (by decide : (⟨#[40, 48, 32, 55, 32, 49, 48, 41, 40, 51, 32, 52, 32, 53, 41]⟩ : ByteArray).size ≤ 200)
    | 2, _ => exact (by decide : (⟨#[40, 49, 32, 52, 32, 49, 49, 41, 40, 54, 32, 55, 32, 56, 41]⟩ : ByteArray).size ≤ 200)
    | 3, _ => exact (by decide : (⟨#[40, 50, 32, 53, 32, 56, 41, 40, 57, 32, 49, 48, 32, 49, 49, 41]⟩ : ByteArray).size ≤ 200)
  rintro e w1 ⟨A, c, us, rfl, s1, l1, b1⟩
  have P1 := Lib.hid (p0.out.below b1 p0.out.lt)
  have B1 := btr B0.out b1
  have S1 : SS w1 (w.heap.size + 2) (w.heap.size + 2) A 4 c us (knG 5) := by have := s1; rw [show (12 : Int) = ((12 : Nat) : Int) from rfl] at *; rw [show knG 5 = rdC 12 [⟨#[40, 48, 32, 49, 32, 50, 41, 40, 51, 32, 54, 32, 57, 41]⟩, ⟨#[40, 48, 32, 55, 32, 49, 48, 41, 40, 51, 32, 52, 32, 53, 41]⟩, ⟨#[40, 49, 32, 52, 32, 49, 49, 41, 40, 54, 32, 55, 32, 56, 41]⟩, ⟨#[40, 50, 32, 53, 32, 56, 41, 40, 57, 32, 49, 48, 32, 49, 49, 41]⟩] from rd5.symm]; simpa using this
  have hs1 : w.heap.size + 2 ≤ w1.heap.size := by have := b1.size; simpa using this
  have y0 := P1.out.cell 0
  have y1 := P1.out.cell 1
  have y2 := P1.out.cell 2
  have g0 := P1.out.frozen 0
  have g1 := P1.out.frozen 1
  have g2 := P1.out.frozen 2
  go_wp2_with fail
  obtain ⟨W2, e2⟩ : ∃ W2, w1.setCell ⟨w.heap.size, 0, none⟩ (.int .i64 12) = W2 := ⟨_, rfl⟩
  obtain ⟨W3, e3⟩ : ∃ W3, W2.setCell ⟨w.heap.size, 1, none⟩ (.string ⟨#[65, 66, 67, 68]⟩) = W3 := ⟨_, rfl⟩
  obtain ⟨W4, e4⟩ : ∃ W4, W3.setCell ⟨w.heap.size, 2, none⟩ (.slice A 4 c) = W4 := ⟨_, rfl⟩
  rw [e2, e3, e4]
  have D2 : Blk W2 w.heap.size 24 #[.int .i64 12, .string ⟨#[]⟩, .slice none 0 0] := by rw [← e2]; exact P1.out.set_ 0 _
  have D3 : Blk W3 w.heap.size 24 #[.int .i64 12, .string ⟨#[65, 66, 67, 68]⟩, .slice none 0 0] := by rw [← e3]; exact D2.set_ 1 _
  have D4 : Blk W4 w.heap.size 24 #[.int .i64 12, .string ⟨#[65, 66, 67, 68]⟩, .slice A 4 c] := by rw [← e4]; exact D3.set_ 2 _
  have r1 := D4.cell 0
  have r2 := D4.cell 1
  have r3 := D4.cell 2
  have Be : Below w.heap.size w W4 := by
    rw [← e4, ← e3, ← e2]
    exact ((B1.setCell (p := ⟨w.heap.size, 0, none⟩) (Nat.le_refl _) _).setCell (p := ⟨w.heap.size, 1, none⟩) (Nat.le_refl _) _).setCell (p := ⟨w.heap.size, 2, none⟩) (Nat.le_refl _) _
  have LA := S1.lt_
  have LI := fun t ht => (S1.row t ht).lt_
  have S6 := (S1).farR (w' := W2) (r := w.heap.size) (by rw [← e2]; exact grown_set (grown_refl _ _) _ _) LA LI (.inl (by simp))
  have S7 := (S6).farR (w' := W3) (r := w.heap.size) (by rw [← e3]; exact grown_set (grown_refl _ _) _ _) LA LI (.inl (by simp))
  have S8 := (S7).farR (w' := W4) (r := w.heap.size) (by rw [← e4]; exact grown_set (grown_refl _ _) _ _) LA LI (.inl (by simp))
  clear e2 e3 e4
  exact bodyPost_ret (v := .tuple #[.agg #[.int .i64 12, .string ⟨#[65, 66, 67, 68]⟩, .slice A 4 c], .bool true]) (by simp [results, Tryd.results4, r1, r2, r3, go_sem]) rfl ⟨A, 4, c, us, rfl, S8.mono (by simp) (by simp), by omega, l1, Be⟩
set_option maxHeartbeats 4000000 in
set_option maxRecDepth 100000 in
theorem specKnX (k : Int) (w : World) (h0 : k ≠ 0) (h1 : k ≠ 1) (h2 : k ≠ 2) (h3 : k ≠ 3) (h4 : k ≠ 4) (h5 : k ≠ 5) :
    Calls Tryd.prog 4 #[.int .i64 k] w fun e w' => ∃ A m c us, e = .returned (.tuple #[.agg #[.int .i64 0, .string ⟨#[]⟩, .slice A m c], .bool false]) ∧ SS w' w.heap.size w.heap.size A m c us (knG 9) ∧ m ≤ 4 ∧ (∀ i, i < m → (us.getD i sd0).2.1 ≤ 20) ∧ Below w.heap.size w w' := by
  have P1 : Hid (Blk (w.alloc (.cells #[.int .i64 0, .string ⟨#[]⟩, .slice none 0 0] 24)) w.heap.size 24 #[.int .i64 0, .string ⟨#[]⟩, .slice none 0 0]) := Lib.hid (Blk.new w _ _)
  have B1 : Below w.heap.size w (w.alloc (.cells #[.int .i64 0, .string ⟨#[]⟩, .slice none 0 0] 24)) := (Below.refl _ w).alloc (Nat.le_refl _) _
  have d0 : decide (k = 0) = false := by simp [h0]
  have d1 : decide (k = 1) = false := by simp [h1]
  have d2 : decide (k = 2) = false := by simp [h2]
  have d3 : decide (k = 3) = false := by simp [h3]
  have d4 : decide (k = 4) = false := by simp [h4]
  have d5 : decide (k = 5) = false := by simp [h5]
  go_enter Tryd.func4, Tryd.ntmps4
  have y0 := P1.out.cell 0
  have y1 := P1.out.cell 1
  have y2 := P1.out.cell 2
  have g0 := P1.out.frozen 0
  have g1 := P1.out.frozen 1
  have g2 := P1.out.frozen 2
  go_wp2_with fail
  exact bodyPost_ret (v := .tuple #[.agg #[.int .i64 0, .string ⟨#[]⟩, .slice none 0 0], .bool false]) (by simp [results, Tryd.results4, y0, y1, y2, go_sem]) rfl ⟨none, 0, 0, [], rfl, SS.nil_, by omega, fun i hi => absurd hi (by omega), B1⟩
/-- The model's KnownPuzzle. -/
theorem specKnownPuzzle (k : Int) (w : World) :
    Calls Tryd.prog 4 #[.int .i64 k] w fun e w' => ∃ A m c us, e = .returned (.tuple #[.agg #[.int .i64 (knN k), .string (knS k), .slice A m c], .bool (knB k)]) ∧ SS w' w.heap.size w.heap.size A m c us (knG k) ∧ m ≤ 4 ∧ (∀ i, i < m → (us.getD i sd0).2.1 ≤ 20) ∧ Below w.heap.size w w' := by
  by_cases h0 : k = 0
  · subst h0; exact specKn0 w
  by_cases h1 : k = 1
  · subst h1; exact specKn1 w
  by_cases h2 : k = 2
  · subst h2; exact specKn2 w
  by_cases h3 : k = 3
  · subst h3; exact specKn3 w
  by_cases h4 : k = 4
  · subst h4; exact specKn4 w
  by_cases h5 : k = 5
  · subst h5; exact specKn5 w
  have e1 : knN k = 0 := by simp [knN, h0, h1, h2, h3, h4, h5]
  have e2 : knS k = ⟨#[]⟩ := by simp [knS, h0, h1, h2, h3, h4, h5]
  have e3 : knG k = knG 9 := by simp [knG, h0, h1, h2, h3, h4, h5]
  have e4 : knB k = false := by simp [knB]; omega
  rw [e1, e2, e3, e4]; exact specKnX k w h0 h1 h2 h3 h4 h5
end Go.Proofs.YtkjokchhffjidaaDoor

/- The program's known puzzles. No condition. -/
namespace Go.Proofs.YtkjokchhffjidaaDoor
open Go.RowKit

set_option maxHeartbeats 4000000 in
set_option maxRecDepth 100000 in
/-- puzzleOf at m texts in block b. -/
theorem implPuzzleOf (n : Nat) (b m c : Nat) (ss : List ByteArray) (w : World) (h1 : 1 ≤ n) (h2 : n ≤ 20) (hm : m ≤ 8) (hl : ss.length = m) (hb : b < w.heap.size)
    (hc : Hid (∀ j, j < m → w.cell? ⟨b, j, none⟩ = some (.string (ss.getD j ⟨#[]⟩)))) (hz200 : Hid (∀ j, j < m → (ss.getD j ⟨#[]⟩).size ≤ 200)) (nm : ByteArray) :
    Calls Tryd.prog 20 #[.int .i64 (n : Int), .string nm, .slice (some ⟨b, 0, none⟩) m c] w fun e w' => ∃ A' c' us, e = .returned (.agg #[.int .i64 (n : Int), .string nm, .slice A' m c']) ∧ SS w' w.heap.size w.heap.size A' m c' us (rdC n ss) ∧ (∀ i, i < m → (us.getD i sd0).2.1 ≤ 20) ∧ Below w.heap.size w w' := by
  have hcc := hc
  go_enter Tryd.func20, Tryd.ntmps20
  go_wp2_with fail
  obtain ⟨V, hV⟩ : ∃ V, (w.alloc (.cells #[.int .i64 0, .string ⟨#[]⟩, .slice none 0 0] 24)).alloc (.cells #[.int .i64 (n : Int), .string nm, .slice none 0 0] 24) = V := ⟨_, rfl⟩
  have hz : V.heap.size = w.heap.size + 2 := by rw [← hV]; simp
  have b0 : Hid (Blk V w.heap.size 24 #[.int .i64 0, .string ⟨#[]⟩, .slice none 0 0]) := Lib.hid (by rw [← hV]; exact (Blk.new w _ _).alloc _)
  have b1 : Hid (Blk V (w.heap.size + 1) 24 #[.int .i64 (n : Int), .string nm, .slice none 0 0]) := Lib.hid (by
    rw [← hV]; have := Blk.new (w.alloc (.cells #[.int .i64 0, .string ⟨#[]⟩, .slice none 0 0] 24)) 24 #[.int .i64 (n : Int), .string nm, .slice none 0 0]
    rw [World.size_alloc] at this; exact this)
  have BV : Hid (Below w.heap.size w V) := Lib.hid (by rw [← hV]; exact ((Below.refl _ w).alloc (Nat.le_refl _) _).alloc (by simp) _)
  rw [hV]
  clear hV
  go_loopg [17] m (fun gg iv wr => ∃ (k : Nat) (us : List SV) (A : Option Addr) (c' : Nat), k ≤ m ∧ m - k ≤ gg ∧ iv = .int .i64 (k : Nat) ∧ Blk wr w.heap.size 24 #[.int .i64 0, .string ⟨#[]⟩, .slice none 0 0] ∧ Blk wr (w.heap.size + 1) 24 #[.int .i64 (n : Int), .string nm, .slice A k c'] ∧ SS wr V.heap.size V.heap.size A k c' us (rdC n (ss.take k)) ∧ (∀ i, i < k → (us.getD i sd0).2.1 ≤ 20) ∧ Below w.heap.size w wr)
  case atStart => exact ⟨0, [], none, 0, Nat.zero_le _, by omega, rfl, b0.out, b1.out, by simpa [rdC] using (SS.nil_ (w := V)), fun i hi => absurd hi (by omega), BV.out⟩
  case round =>
    obtain ⟨k, us, A, c', hk, hgk, rfl, p0, p1, ss5, ln5, bel⟩ := hrel
    have P0 := Lib.hid p0
    have P1 := Lib.hid p1
    have Ss := Lib.hid ss5
    have Ln := Lib.hid ln5
    have Bel := Lib.hid bel
    have x0 := p1.cell 0
    have x1 := p1.cell 1
    have x2 := p1.cell 2
    have hwz : V.heap.size ≤ wr.heap.size := by have := p1.lt; omega
    clear p0 p1 ss5 ln5 bel
    by_cases hkm : k < m
    · obtain ⟨sk, hsk⟩ : ∃ sk, ss.getD k ⟨#[]⟩ = sk := ⟨_, rfl⟩
      have hss : sk.size ≤ 200 := by rw [← hsk]; exact hz200.out k hkm
      have hcell : wr.cell? ⟨b, k, none⟩ = some (.string sk) := by
        rw [Bel.out.cell (p := ⟨b, k, none⟩) hb, ← hsk]; exact hcc.out k hkm
      have q1 : (0 : Int) ≤ k := by omega
      have q2 : (k : Int) < m := by omega
      go_wp2_with fail
      refine (implParseCycles (n : Int) sk wr (by omega) (by omega)).mono ?_
      rintro e w2 ⟨A2, m2, c2, rfl, s2, hm2, b2⟩
      obtain ⟨ys, hys⟩ : ∃ ys, (cycO (n : Int) sk).getD [] = ys := ⟨_, rfl⟩
      rw [hys] at s2
      have LI : Hid (∀ t, t < k → ∀ j, (sval (us.getD t sd0)).ownBlock = some j → V.heap.size ≤ j ∧ j < wr.heap.size) := Lib.hid fun t ht => (Ss.out.row t ht).lt_
      have L2 := s2.lt_
      have D5 := Lib.hid (show ∀ t, t < k → (sval (us.getD t sd0)).ownBlock = none ∨ (sval (us.getD t sd0)).ownBlock ≠ (Value.slice A2 m2 c2).ownBlock from fun t ht => by
        rcases e9 : (sval (us.getD t sd0)).ownBlock with _ | z
        · exact .inl rfl
        · exact .inr fun e8 => by have := (LI.out t ht z e9).2; have := (L2 z e8.symm).1; omega)
      have P0' := Lib.hid (P0.out.below b2 P0.out.lt)
      have P1' := Lib.hid (P1.out.below b2 P1.out.lt)
      have Ss2 := Lib.hid (Ss.out.up b2)
      have Sl2 : Hid (Slc w2 V.heap.size A2 m2 c2 ys) := Lib.hid (s2.mono (by omega))
      have Bel2 := Lib.hid (btr Bel.out b2)
      have hwz2 : V.heap.size ≤ w2.heap.size := by have := b2.size; omega
      clear x0 x1 x2 s2 L2
      have x0 := P1'.out.cell 0
      have x1 := P1'.out.cell 1
      have x2 := P1'.out.cell 2
      go_wp2_with (first
        | (at_builtin
           refine wpList_app2 rfl _ _ rfl rfl (Ss2.out.alloc _) w2.heap.size A2 m2 c2 ys rfl (by rw [World.cell?_alloc_at _ _ _ _ rfl]; rfl) ((Sl2.out).alloc _) D5.out (by omega) (by simp; omega) ?_
           intro A7 c7 w7 ss7 g7
           have LO : ∀ j, (Value.slice A k c').ownBlock = some j → V.heap.size ≤ j := fun j hj => (Ss2.out.lt_ j hj).1
           have P07 := Lib.hid ((P0'.out.alloc (.cells #[.slice A2 m2 c2] 36)).grown g7 (fun e => by have := LO _ e.symm; omega))
           have P17 := Lib.hid ((P1'.out.alloc (.cells #[.slice A2 m2 c2] 36)).grown g7 (fun e => by have := LO _ e.symm; omega))
           have Bel7 : Hid (Below w.heap.size w w7) := Lib.hid ((Bel2.out.alloc Bel2.out.size (.cells #[.slice A2 m2 c2] 36)).grown g7 (by simp; omega) (fun j hj => by have := LO j hj; omega))
           have z0 := P17.out.cell 0
           have z1 := P17.out.cell 1
           have z2 := P17.out.cell 2
           have f2 := P17.out.frozen 2))
      have S7 : Hid (SS w7 V.heap.size V.heap.size A7 (k + 1) c7 (us ++ [(A2, m2, c2)]) (rdC n (ss.take k) ++ [ys])) := Lib.hid ss7
      have LA7 := S7.out.lt_
      have LI7 : ∀ t, t < k + 1 → ∀ j, (sval ((us ++ [((A2, m2, c2) : SV)]).getD t sd0)).ownBlock = some j → V.heap.size ≤ j ∧ j < w7.heap.size := fun t ht => (S7.out.row t ht).lt_
      have S8 := Lib.hid (S7.out.farR (w' := w7.setCell ⟨w.heap.size + 1, 2, none⟩ (.slice A7 (k + 1) c7)) (r := w.heap.size + 1) (grown_set (grown_refl _ _) _ _) LA7 LI7 (.inl (by omega)))
      have Q0 : Blk (w7.setCell ⟨w.heap.size + 1, 2, none⟩ (.slice A7 (k + 1) c7)) w.heap.size 24 #[.int .i64 0, .string ⟨#[]⟩, .slice none 0 0] := (Below.heap_setCell _ _ _ _ (by show w.heap.size ≠ w.heap.size + 1; omega)).trans P07.out
      have Q1 : Blk (w7.setCell ⟨w.heap.size + 1, 2, none⟩ (.slice A7 (k + 1) c7)) (w.heap.size + 1) 24 #[.int .i64 (n : Int), .string nm, .slice A7 (k + 1) c7] := P17.out.set_ 2 _
      have Bel8 : Below w.heap.size w (w7.setCell ⟨w.heap.size + 1, 2, none⟩ (.slice A7 (k + 1) c7)) := Bel7.out.setCell (p := ⟨w.heap.size + 1, 2, none⟩) (by show w.heap.size ≤ w.heap.size + 1; omega) _
      have Ln8 : ∀ i, i < k + 1 → ((us ++ [((A2, m2, c2) : SV)]).getD i sd0).2.1 ≤ 20 := fun i hi => by
        by_cases e9 : i < k
        · rw [getD_app _ _ _ _ (by rw [Ss2.out.lv]; exact e9)]; exact Ln.out i e9
        · rw [getD_snoc _ _ _ _ (by rw [Ss2.out.lv]; omega)]; exact hm2
      clear ss7 g7
      go_roundg (m - (k + 1))
      case rel => exact ⟨k + 1, _, A7, c7, by omega, by omega, by go_num, Q0, Q1, by rw [rdC_snoc (by omega), hsk, hys]; exact S8.out, Ln8, Bel8⟩
      case measure => omega
    · obtain rfl : k = m := by omega
      have y0 := P0.out.cell 0
      have y1 := P0.out.cell 1
      have y2 := P0.out.cell 2
      have g0 := P0.out.frozen 0
      have g1 := P0.out.frozen 1
      have g2 := P0.out.frozen 2
      go_wp2_with fail
      obtain ⟨W2, e2⟩ : ∃ W2, wr.setCell ⟨w.heap.size, 0, none⟩ (.int .i64 (n : Int)) = W2 := ⟨_, rfl⟩
      obtain ⟨W3, e3⟩ : ∃ W3, W2.setCell ⟨w.heap.size, 1, none⟩ (.string nm) = W3 := ⟨_, rfl⟩
      obtain ⟨W4, e4⟩ : ∃ W4, W3.setCell ⟨w.heap.size, 2, none⟩ (.slice A k c') = W4 := ⟨_, rfl⟩
      rw [e2, e3, e4]
      have LA : ∀ j, (Value.slice A k c').ownBlock = some j → V.heap.size ≤ j ∧ j < wr.heap.size := Ss.out.lt_
      have LI : ∀ t, t < k → ∀ j, (sval (us.getD t sd0)).ownBlock = some j → V.heap.size ≤ j ∧ j < wr.heap.size := fun t ht => (Ss.out.row t ht).lt_
      have S6 : SS W2 V.heap.size V.heap.size A k c' us (rdC n (ss.take k)) := by rw [← e2]; exact Ss.out.farR (r := w.heap.size) (grown_set (grown_refl _ _) _ _) LA LI (.inl (by omega))
      have S7 : SS W3 V.heap.size V.heap.size A k c' us (rdC n (ss.take k)) := by rw [← e3]; exact S6.farR (r := w.heap.size) (grown_set (grown_refl _ _) _ _) LA LI (.inl (by omega))
      have S8 : SS W4 V.heap.size V.heap.size A k c' us (rdC n (ss.take k)) := by rw [← e4]; exact S7.farR (r := w.heap.size) (grown_set (grown_refl _ _) _ _) LA LI (.inl (by omega))
      have D2 : Blk W2 w.heap.size 24 #[.int .i64 (n : Int), .string ⟨#[]⟩, .slice none 0 0] := by rw [← e2]; exact P0.out.set_ 0 _
      have D3 : Blk W3 w.heap.size 24 #[.int .i64 (n : Int), .string nm, .slice none 0 0] := by rw [← e3]; exact D2.set_ 1 _
      have D4 : Blk W4 w.heap.size 24 #[.int .i64 (n : Int), .string nm, .slice A k c'] := by rw [← e4]; exact D3.set_ 2 _
      have r1 := D4.cell 0
      have r2 := D4.cell 1
      have r3 := D4.cell 2
      have Be : Below w.heap.size w W4 := by
        rw [← e4, ← e3, ← e2]
        exact ((Bel.out.setCell (p := ⟨w.heap.size, 0, none⟩) (Nat.le_refl _) _).setCell (p := ⟨w.heap.size, 1, none⟩) (Nat.le_refl _) _).setCell (p := ⟨w.heap.size, 2, none⟩) (Nat.le_refl _) _
      clear e2 e3 e4
      have ek : ss.take k = ss := List.take_of_length_le (by omega)
      rw [ek] at S8
      exact bodyPost_ret (v := .agg #[.int .i64 (n : Int), .string nm, .slice A k c']) (by simp [results, Tryd.results20, r1, r2, r3, go_sem]) rfl ⟨A, c', us, rfl, S8.mono (by omega) (by omega), Ln.out, Be⟩
set_option maxHeartbeats 4000000 in
set_option maxRecDepth 100000 in
/-- rowOfFour. -/
theorem implKn0 (w : World) :
    Calls Tryd.prog 10 #[] w fun e w' => ∃ A m c us, e = .returned (.agg #[.int .i64 4, .string ⟨#[65, 66, 67]⟩, .slice A m c]) ∧ SS w' w.heap.size w.heap.size A m c us (knG 0) ∧ m ≤ 4 ∧ (∀ i, i < m → (us.getD i sd0).2.1 ≤ 20) ∧ Below w.heap.size w w' := by
  have c0 : Hid (Blk ((w.alloc (.cells #[.int .i64 0, .string ⟨#[]⟩, .slice none 0 0] 24)).alloc (.cells #[.string ⟨#[40, 48, 32, 49, 41]⟩, .string ⟨#[40, 49, 32, 50, 41]⟩, .string ⟨#[40, 50, 32, 51, 41]⟩] 9)) (w.heap.size + 1) 9 #[.string ⟨#[40, 48, 32, 49, 41]⟩, .string ⟨#[40, 49, 32, 50, 41]⟩, .string ⟨#[40, 50, 32, 51, 41]⟩]) := Lib.hid (by
    have := Blk.new (w.alloc (.cells #[.int .i64 0, .string ⟨#[]⟩, .slice none 0 0] 24)) 9 #[.string ⟨#[40, 48, 32, 49, 41]⟩, .string ⟨#[40, 49, 32, 50, 41]⟩, .string ⟨#[40, 50, 32, 51, 41]⟩]; rw [World.size_alloc] at this; exact this)
  have p0 : Hid (Blk ((w.alloc (.cells #[.int .i64 0, .string ⟨#[]⟩, .slice none 0 0] 24)).alloc (.cells #[.string ⟨#[40, 48, 32, 49, 41]⟩, .string ⟨#[40, 49, 32, 50, 41]⟩, .string ⟨#[40, 50, 32, 51, 41]⟩] 9)) w.heap.size 24 #[.int .i64 0, .string ⟨#[]⟩, .slice none 0 0]) := Lib.hid ((Blk.new w _ _).alloc _)
  have B0 : Hid (Below w.heap.size w ((w.alloc (.cells #[.int .i64 0, .string ⟨#[]⟩, .slice none 0 0] 24)).alloc (.cells #[.string ⟨#[40, 48, 32, 49, 41]⟩, .string ⟨#[40, 49, 32, 50, 41]⟩, .string ⟨#[40, 50, 32, 51, 41]⟩] 9))) := Lib.hid (((Below.refl _ w).alloc (Nat.le_refl _) _).alloc (by simp) _)
  go_enter Tryd.func10, Tryd.ntmps10
  go_wp2_with fail
  refine (implPuzzleOf 4 (w.heap.size + 1) 3 3 [⟨#[40, 48, 32, 49, 41]⟩, ⟨#[40, 49, 32, 50, 41]⟩, ⟨#[40, 50, 32, 51, 41]⟩] ((w.alloc (.cells #[.int .i64 0, .string ⟨#[]⟩, .slice none 0 0] 24)).alloc (.cells #[.string ⟨#[40, 48, 32, 49, 41]⟩, .string ⟨#[40, 49, 32, 50, 41]⟩, .string ⟨#[40, 50, 32, 51, 41]⟩] 9)) (by decide) (by decide) (by decide) rfl (by simp) (Lib.hid ?_) (Lib.hid ?_) ⟨#[65, 66, 67]⟩).mono ?_
  · intro j hj
    rw [c0.out.cell j]
    match j, hj with
    | 0, _ => rfl
    | 1, _ => rfl
    | 2, _ => rfl
  · intro j hj
    match j, hj with
    | 0, _ => exact (by decide : (⟨#[40, 48, 32, 49, 41]⟩ : ByteArray).size ≤ 200)
    | 1, _ => exact (by decide : (⟨#[40, 49, 32, 50, 41]⟩ : ByteArray).size ≤ 200)
    | 2, _ => exact (by decide : (⟨#[40, 50, 32, 51, 41]⟩ : ByteArray).size ≤ 200)
  rintro e w1 ⟨A, c, us, rfl, s1, l1, b1⟩
  have P1 := Lib.hid (p0.out.below b1 p0.out.lt)
  have B1 := btr B0.out b1
  have S1 : SS w1 (w.heap.size + 2) (w.heap.size + 2) A 3 c us (knG 0) := by have := s1; rw [show (4 : Int) = ((4 : Nat) : Int) from rfl] at *; rw [show knG 0 = rdC 4 [⟨#[40, 48, 32, 49, 41]⟩, ⟨#[40, 49, 32, 50, 41]⟩, ⟨#[40, 50, 32, 51, 41]⟩] from rd0.symm]; simpa using this
  have hs1 : w.heap.size + 2 ≤ w1.heap.size := by have := b1.size; simpa using this
  have y0 := P1.out.cell 0
  have y1 := P1.out.cell 1
  have y2 := P1.out.cell 2
  have g0 := P1.out.frozen 0
  have g1 := P1.out.frozen 1
  have g2 := P1.out.frozen 2
  go_wp2_with fail
  obtain ⟨W2, e2⟩ : ∃ W2, w1.setCell ⟨w.heap.size, 0, none⟩ (.int .i64 4) = W2 := ⟨_, rfl⟩
  obtain ⟨W3, e3⟩ : ∃ W3, W2.setCell ⟨w.heap.size, 1, none⟩ (.string ⟨#[65, 66, 67]⟩) = W3 := ⟨_, rfl⟩
  obtain ⟨W4, e4⟩ : ∃ W4, W3.setCell ⟨w.heap.size, 2, none⟩ (.slice A 3 c) = W4 := ⟨_, rfl⟩
  rw [e2, e3, e4]
  have D2 : Blk W2 w.heap.size 24 #[.int .i64 4, .string ⟨#[]⟩, .slice none 0 0] := by rw [← e2]; exact P1.out.set_ 0 _
  have D3 : Blk W3 w.heap.size 24 #[.int .i64 4, .string ⟨#[65, 66, 67]⟩, .slice none 0 0] := by rw [← e3]; exact D2.set_ 1 _
  have D4 : Blk W4 w.heap.size 24 #[.int .i64 4, .string ⟨#[65, 66, 67]⟩, .slice A 3 c] := by rw [← e4]; exact D3.set_ 2 _
  have r1 := D4.cell 0
  have r2 := D4.cell 1
  have r3 := D4.cell 2
  have Be : Below w.heap.size w W4 := by
    rw [← e4, ← e3, ← e2]
    exact ((B1.setCell (p := ⟨w.heap.size, 0, none⟩) (Nat.le_refl _) _).setCell (p := ⟨w.heap.size, 1, none⟩) (Nat.le_refl _) _).setCell (p := ⟨w.heap.size, 2, none⟩) (Nat.le_refl _) _
  have LA := S1.lt_
  have LI := fun t ht => (S1.row t ht).lt_
  have S6 := (S1).farR (w' := W2) (r := w.heap.size) (by rw [← e2]; exact grown_set (grown_refl _ _) _ _) LA LI (.inl (by simp))
  have S7 := (S6).farR (w' := W3) (r := w.heap.size) (by rw [← e3]; exact grown_set (grown_refl _ _) _ _) LA LI (.inl (by simp))
  have S8 := (S7).farR (w' := W4) (r := w.heap.size) (by rw [← e4]; exact grown_set (grown_refl _ _) _ _) LA LI (.inl (by simp))
  clear e2 e3 e4
  exact bodyPost_ret (v := .agg #[.int .i64 4, .string ⟨#[65, 66, 67]⟩, .slice A 3 c]) (by simp [results, Tryd.results10, r1, r2, r3, go_sem]) rfl ⟨A, 3, c, us, rfl, S8.mono (by simp) (by simp), by omega, l1, Be⟩
set_option maxHeartbeats 4000000 in
set_option maxRecDepth 100000 in
/-- spinner. -/
theorem implKn1 (w : World) :
    Calls Tryd.prog 11 #[] w fun e w' => ∃ A m c us, e = .returned (.agg #[.int .i64 6, .string ⟨#[65, 66]⟩, .slice A m c]) ∧ SS w' w.heap.size w.heap.size A m c us (knG 1) ∧ m ≤ 4 ∧ (∀ i, i < m → (us.getD i sd0).2.1 ≤ 20) ∧ Below w.heap.size w w' := by
  have c0 : Hid (Blk ((w.alloc (.cells #[.int .i64 0, .string ⟨#[]⟩, .slice none 0 0] 24)).alloc (.cells #[.string ⟨#[40, 48, 32, 49, 32, 50, 32, 51, 32, 52, 32, 53, 41]⟩, .string ⟨#[40, 48, 32, 50, 41]⟩] 9)) (w.heap.size + 1) 9 #[.string ⟨#[40, 48, 32, 49, 32, 50, 32, 51, 32, 52, 32, 53, 41]⟩, .string ⟨#[40, 48, 32, 50, 41]⟩]) := Lib.hid (by
    have := Blk.new (w.alloc (.cells #[.int .i64 0, .string ⟨#[]⟩, .slice none 0 0] 24)) 9 #[.string ⟨#[40, 48, 32, 49, 32, 50, 32, 51, 32, 52, 32, 53, 41]⟩, .string ⟨#[40, 48, 32, 50, 41]⟩]; rw [World.size_alloc] at this; exact this)
  have p0 : Hid (Blk ((w.alloc (.cells #[.int .i64 0, .string ⟨#[]⟩, .slice none 0 0] 24)).alloc (.cells #[.string ⟨#[40, 48, 32, 49, 32, 50, 32, 51, 32, 52, 32, 53, 41]⟩, .string ⟨#[40, 48, 32, 50, 41]⟩] 9)) w.heap.size 24 #[.int .i64 0, .string ⟨#[]⟩, .slice none 0 0]) := Lib.hid ((Blk.new w _ _).alloc _)
  have B0 : Hid (Below w.heap.size w ((w.alloc (.cells #[.int .i64 0, .string ⟨#[]⟩, .slice none 0 0] 24)).alloc (.cells #[.string ⟨#[40, 48, 32, 49, 32, 50, 32, 51, 32, 52, 32, 53, 41]⟩, .string ⟨#[40, 48, 32, 50, 41]⟩] 9))) := Lib.hid (((Below.refl _ w).alloc (Nat.le_refl _) _).alloc (by simp) _)
  go_enter Tryd.func11, Tryd.ntmps11
  go_wp2_with fail
  refine (implPuzzleOf 6 (w.heap.size + 1) 2 2 [⟨#[40, 48, 32, 49, 32, 50, 32, 51, 32, 52, 32, 53, 41]⟩, ⟨#[40, 48, 32, 50, 41]⟩] ((w.alloc (.cells #[.int .i64 0, .string ⟨#[]⟩, .slice none 0 0] 24)).alloc (.cells #[.string ⟨#[40, 48, 32, 49, 32, 50, 32, 51, 32, 52, 32, 53, 41]⟩, .string ⟨#[40, 48, 32, 50, 41]⟩] 9)) (by decide) (by decide) (by decide) rfl (by simp) (Lib.hid ?_) (Lib.hid ?_) ⟨#[65, 66]⟩).mono ?_
  · intro j hj
    rw [c0.out.cell j]
    match j, hj with
    | 0, _ => rfl
    | 1, _ => rfl
  · intro j hj
    match j, hj with
    | 0, _ => exact (by decide : (⟨#[40, 48, 32, 49, 32, 50, 32, 51, 32, 52, 32, 53, 41]⟩ : ByteArray).size ≤ 200)
    | 1, _ => exact (by decide : (⟨#[40, 48, 32, 50, 41]⟩ : ByteArray).size ≤ 200)
  rintro e w1 ⟨A, c, us, rfl, s1, l1, b1⟩
  have P1 := Lib.hid (p0.out.below b1 p0.out.lt)
  have B1 := btr B0.out b1
  have S1 : SS w1 (w.heap.size + 2) (w.heap.size + 2) A 2 c us (knG 1) := by have := s1; rw [show (6 : Int) = ((6 : Nat) : Int) from rfl] at *; rw [show knG 1 = rdC 6 [⟨#[40, 48, 32, 49, 32, 50, 32, 51, 32, 52, 32, 53, 41]⟩, ⟨#[40, 48, 32, 50, 41]⟩] from rd1.symm]; simpa using this
  have hs1 : w.heap.size + 2 ≤ w1.heap.size := by have := b1.size; simpa using this
  have y0 := P1.out.cell 0
  have y1 := P1.out.cell 1
  have y2 := P1.out.cell 2
  have g0 := P1.out.frozen 0
  have g1 := P1.out.frozen 1
  have g2 := P1.out.frozen 2
  go_wp2_with fail
  obtain ⟨W2, e2⟩ : ∃ W2, w1.setCell ⟨w.heap.size, 0, none⟩ (.int .i64 6) = W2 := ⟨_, rfl⟩
  obtain ⟨W3, e3⟩ : ∃ W3, W2.setCell ⟨w.heap.size, 1, none⟩ (.string ⟨#[65, 66]⟩) = W3 := ⟨_, rfl⟩
  obtain ⟨W4, e4⟩ : ∃ W4, W3.setCell ⟨w.heap.size, 2, none⟩ (.slice A 2 c) = W4 := ⟨_, rfl⟩
  rw [e2, e3, e4]
  have D2 : Blk W2 w.heap.size 24 #[.int .i64 6, .string ⟨#[]⟩, .slice none 0 0] := by rw [← e2]; exact P1.out.set_ 0 _
  have D3 : Blk W3 w.heap.size 24 #[.int .i64 6, .string ⟨#[65, 66]⟩, .slice none 0 0] := by rw [← e3]; exact D2.set_ 1 _
  have D4 : Blk W4 w.heap.size 24 #[.int .i64 6, .string ⟨#[65, 66]⟩, .slice A 2 c] := by rw [← e4]; exact D3.set_ 2 _
  have r1 := D4.cell 0
  have r2 := D4.cell 1
  have r3 := D4.cell 2
  have Be : Below w.heap.size w W4 := by
    rw [← e4, ← e3, ← e2]
    exact ((B1.setCell (p := ⟨w.heap.size, 0, none⟩) (Nat.le_refl _) _).setCell (p := ⟨w.heap.size, 1, none⟩) (Nat.le_refl _) _).setCell (p := ⟨w.heap.size, 2, none⟩) (Nat.le_refl _) _
  have LA := S1.lt_
  have LI := fun t ht => (S1.row t ht).lt_
  have S6 := (S1).farR (w' := W2) (r := w.heap.size) (by rw [← e2]; exact grown_set (grown_refl _ _) _ _) LA LI (.inl (by simp))
  have S7 := (S6).farR (w' := W3) (r := w.heap.size) (by rw [← e3]; exact grown_set (grown_refl _ _) _ _) LA LI (.inl (by simp))
  have S8 := (S7).farR (w' := W4) (r := w.heap.size) (by rw [← e4]; exact grown_set (grown_refl _ _) _ _) LA LI (.inl (by simp))
  clear e2 e3 e4
  exact bodyPost_ret (v := .agg #[.int .i64 6, .string ⟨#[65, 66]⟩, .slice A 2 c]) (by simp [results, Tryd.results11, r1, r2, r3, go_sem]) rfl ⟨A, 2, c, us, rfl, S8.mono (by simp) (by simp), by omega, l1, Be⟩
set_option maxHeartbeats 4000000 in
set_option maxRecDepth 100000 in
/-- twoRings. -/
theorem implKn2 (w : World) :
    Calls Tryd.prog 12 #[] w fun e w' => ∃ A m c us, e = .returned (.agg #[.int .i64 6, .string ⟨#[65, 66]⟩, .slice A m c]) ∧ SS w' w.heap.size w.heap.size A m c us (knG 2) ∧ m ≤ 4 ∧ (∀ i, i < m → (us.getD i sd0).2.1 ≤ 20) ∧ Below w.heap.size w w' := by
  have c0 : Hid (Blk ((w.alloc (.cells #[.int .i64 0, .string ⟨#[]⟩, .slice none 0 0] 24)).alloc (.cells #[.string ⟨#[40, 48, 32, 49, 32, 50, 32, 51, 41]⟩, .string ⟨#[40, 50, 32, 51, 32, 52, 32, 53, 41]⟩] 9)) (w.heap.size + 1) 9 #[.string ⟨#[40, 48, 32, 49, 32, 50, 32, 51, 41]⟩, .string ⟨#[40, 50, 32, 51, 32, 52, 32, 53, 41]⟩]) := Lib.hid (by
    have := Blk.new (w.alloc (.cells #[.int .i64 0, .string ⟨#[]⟩, .slice none 0 0] 24)) 9 #[.string ⟨#[40, 48, 32, 49, 32, 50, 32, 51, 41]⟩, .string ⟨#[40, 50, 32, 51, 32, 52, 32, 53, 41]⟩]; rw [World.size_alloc] at this; exact this)
  have p0 : Hid (Blk ((w.alloc (.cells #[.int .i64 0, .string ⟨#[]⟩, .slice none 0 0] 24)).alloc (.cells #[.string ⟨#[40, 48, 32, 49, 32, 50, 32, 51, 41]⟩, .string ⟨#[40, 50, 32, 51, 32, 52, 32, 53, 41]⟩] 9)) w.heap.size 24 #[.int .i64 0, .string ⟨#[]⟩, .slice none 0 0]) := Lib.hid ((Blk.new w _ _).alloc _)
  have B0 : Hid (Below w.heap.size w ((w.alloc (.cells #[.int .i64 0, .string ⟨#[]⟩, .slice none 0 0] 24)).alloc (.cells #[.string ⟨#[40, 48, 32, 49, 32, 50, 32, 51, 41]⟩, .string ⟨#[40, 50, 32, 51, 32, 52, 32, 53, 41]⟩] 9))) := Lib.hid (((Below.refl _ w).alloc (Nat.le_refl _) _).alloc (by simp) _)
  go_enter Tryd.func12, Tryd.ntmps12
  go_wp2_with fail
  refine (implPuzzleOf 6 (w.heap.size + 1) 2 2 [⟨#[40, 48, 32, 49, 32, 50, 32, 51, 41]⟩, ⟨#[40, 50, 32, 51, 32, 52, 32, 53, 41]⟩] ((w.alloc (.cells #[.int .i64 0, .string ⟨#[]⟩, .slice none 0 0] 24)).alloc (.cells #[.string ⟨#[40, 48, 32, 49, 32, 50, 32, 51, 41]⟩, .string ⟨#[40, 50, 32, 51, 32, 52, 32, 53, 41]⟩] 9)) (by decide) (by decide) (by decide) rfl (by simp) (Lib.hid ?_) (Lib.hid ?_) ⟨#[65, 66]⟩).mono ?_
  · intro j hj
    rw [c0.out.cell j]
    match j, hj with
    | 0, _ => rfl
    | 1, _ => rfl
  · intro j hj
    match j, hj with
    | 0, _ => exact (by decide : (⟨#[40, 48, 32, 49, 32, 50, 32, 51, 41]⟩ : ByteArray).size ≤ 200)
    | 1, _ => exact (by decide : (⟨#[40, 50, 32, 51, 32, 52, 32, 53, 41]⟩ : ByteArray).size ≤ 200)
  rintro e w1 ⟨A, c, us, rfl, s1, l1, b1⟩
  have P1 := Lib.hid (p0.out.below b1 p0.out.lt)
  have B1 := btr B0.out b1
  have S1 : SS w1 (w.heap.size + 2) (w.heap.size + 2) A 2 c us (knG 2) := by have := s1; rw [show (6 : Int) = ((6 : Nat) : Int) from rfl] at *; rw [show knG 2 = rdC 6 [⟨#[40, 48, 32, 49, 32, 50, 32, 51, 41]⟩, ⟨#[40, 50, 32, 51, 32, 52, 32, 53, 41]⟩] from rd2.symm]; simpa using this
  have hs1 : w.heap.size + 2 ≤ w1.heap.size := by have := b1.size; simpa using this
  have y0 := P1.out.cell 0
  have y1 := P1.out.cell 1
  have y2 := P1.out.cell 2
  have g0 := P1.out.frozen 0
  have g1 := P1.out.frozen 1
  have g2 := P1.out.frozen 2
  go_wp2_with fail
  obtain ⟨W2, e2⟩ : ∃ W2, w1.setCell ⟨w.heap.size, 0, none⟩ (.int .i64 6) = W2 := ⟨_, rfl⟩
  obtain ⟨W3, e3⟩ : ∃ W3, W2.setCell ⟨w.heap.size, 1, none⟩ (.string ⟨#[65, 66]⟩) = W3 := ⟨_, rfl⟩
  obtain ⟨W4, e4⟩ : ∃ W4, W3.setCell ⟨w.heap.size, 2, none⟩ (.slice A 2 c) = W4 := ⟨_, rfl⟩
  rw [e2, e3, e4]
  have D2 : Blk W2 w.heap.size 24 #[.int .i64 6, .string ⟨#[]⟩, .slice none 0 0] := by rw [← e2]; exact P1.out.set_ 0 _
  have D3 : Blk W3 w.heap.size 24 #[.int .i64 6, .string ⟨#[65, 66]⟩, .slice none 0 0] := by rw [← e3]; exact D2.set_ 1 _
  have D4 : Blk W4 w.heap.size 24 #[.int .i64 6, .string ⟨#[65, 66]⟩, .slice A 2 c] := by rw [← e4]; exact D3.set_ 2 _
  have r1 := D4.cell 0
  have r2 := D4.cell 1
  have r3 := D4.cell 2
  have Be : Below w.heap.size w W4 := by
    rw [← e4, ← e3, ← e2]
    exact ((B1.setCell (p := ⟨w.heap.size, 0, none⟩) (Nat.le_refl _) _).setCell (p := ⟨w.heap.size, 1, none⟩) (Nat.le_refl _) _).setCell (p := ⟨w.heap.size, 2, none⟩) (Nat.le_refl _) _
  have LA := S1.lt_
  have LI := fun t ht => (S1.row t ht).lt_
  have S6 := (S1).farR (w' := W2) (r := w.heap.size) (by rw [← e2]; exact grown_set (grown_refl _ _) _ _) LA LI (.inl (by simp))
  have S7 := (S6).farR (w' := W3) (r := w.heap.size) (by rw [← e3]; exact grown_set (grown_refl _ _) _ _) LA LI (.inl (by simp))
  have S8 := (S7).farR (w' := W4) (r := w.heap.size) (by rw [← e4]; exact grown_set (grown_refl _ _) _ _) LA LI (.inl (by simp))
  clear e2 e3 e4
  exact bodyPost_ret (v := .agg #[.int .i64 6, .string ⟨#[65, 66]⟩, .slice A 2 c]) (by simp [results, Tryd.results12, r1, r2, r3, go_sem]) rfl ⟨A, 2, c, us, rfl, S8.mono (by simp) (by simp), by omega, l1, Be⟩
set_option maxHeartbeats 4000000 in
set_option maxRecDepth 100000 in
/-- cubeCorners. -/
theorem implKn3 (w : World) :
    Calls Tryd.prog 13 #[] w fun e w' => ∃ A m c us, e = .returned (.agg #[.int .i64 7, .string ⟨#[65, 66, 67]⟩, .slice A m c]) ∧ SS w' w.heap.size w.heap.size A m c us (knG 3) ∧ m ≤ 4 ∧ (∀ i, i < m → (us.getD i sd0).2.1 ≤ 20) ∧ Below w.heap.size w w' := by
  have c0 : Hid (Blk ((w.alloc (.cells #[.int .i64 0, .string ⟨#[]⟩, .slice none 0 0] 24)).alloc (.cells #[.string ⟨#[40, 48, 32, 49, 32, 50, 32, 51, 41]⟩, .string ⟨#[40, 49, 32, 50, 32, 54, 32, 53, 41]⟩, .string ⟨#[40, 48, 32, 52, 32, 53, 32, 49, 41]⟩] 9)) (w.heap.size + 1) 9 #[.string ⟨#[40, 48, 32, 49, 32, 50, 32, 51, 41]⟩, .string ⟨#[40, 49, 32, 50, 32, 54, 32, 53, 41]⟩, .string ⟨#[40, 48, 32, 52, 32, 53, 32, 49, 41]⟩]) := Lib.hid (by
    have := Blk.new (w.alloc (.cells #[.int .i64 0, .string ⟨#[]⟩, .slice none 0 0] 24)) 9 #[.string ⟨#[40, 48, 32, 49, 32, 50, 32, 51, 41]⟩, .string ⟨#[40, 49, 32, 50, 32, 54, 32, 53, 41]⟩, .string ⟨#[40, 48, 32, 52, 32, 53, 32, 49, 41]⟩]; rw [World.size_alloc] at this; exact this)
  have p0 : Hid (Blk ((w.alloc (.cells #[.int .i64 0, .string ⟨#[]⟩, .slice none 0 0] 24)).alloc (.cells #[.string ⟨#[40, 48, 32, 49, 32, 50, 32, 51, 41]⟩, .string ⟨#[40, 49, 32, 50, 32, 54, 32, 53, 41]⟩, .string ⟨#[40, 48, 32, 52, 32, 53, 32, 49, 41]⟩] 9)) w.heap.size 24 #[.int .i64 0, .string ⟨#[]⟩, .slice none 0 0]) := Lib.hid ((Blk.new w _ _).alloc _)
  have B0 : Hid (Below w.heap.size w ((w.alloc (.cells #[.int .i64 0, .string ⟨#[]⟩, .slice none 0 0] 24)).alloc (.cells #[.string ⟨#[40, 48, 32, 49, 32, 50, 32, 51, 41]⟩, .string ⟨#[40, 49, 32, 50, 32, 54, 32, 53, 41]⟩, .string ⟨#[40, 48, 32, 52, 32, 53, 32, 49, 41]⟩] 9))) := Lib.hid (((Below.refl _ w).alloc (Nat.le_refl _) _).alloc (by simp) _)
  go_enter Tryd.func13, Tryd.ntmps13
  go_wp2_with fail
  refine (implPuzzleOf 7 (w.heap.size + 1) 3 3 [⟨#[40, 48, 32, 49, 32, 50, 32, 51, 41]⟩, ⟨#[40, 49, 32, 50, 32, 54, 32, 53, 41]⟩, ⟨#[40, 48, 32, 52, 32, 53, 32, 49, 41]⟩] ((w.alloc (.cells #[.int .i64 0, .string ⟨#[]⟩, .slice none 0 0] 24)).alloc (.cells #[.string ⟨#[40, 48, 32, 49, 32, 50, 32, 51, 41]⟩, .string ⟨#[40, 49, 32, 50, 32, 54, 32, 53, 41]⟩, .string ⟨#[40, 48, 32, 52, 32, 53, 32, 49, 41]⟩] 9)) (by decide) (by decide) (by decide) rfl (by simp) (Lib.hid ?_) (Lib.hid ?_) ⟨#[65, 66, 67]⟩).mono ?_
  · intro j hj
    rw [c0.out.cell j]
    match j, hj with
    | 0, _ => rfl
    | 1, _ => rfl
    | 2, _ => rfl
  · intro j hj
    match j, hj with
    | 0, _ => exact (by decide : (⟨#[40, 48, 32, 49, 32, 50, 32, 51, 41]⟩ : ByteArray).size ≤ 200)
    | 1, _ => exact (by decide : (⟨#[40, 49, 32, 50, 32, 54, 32, 53, 41]⟩ : ByteArray).size ≤ 200)
    | 2, _ => exact (by decide : (⟨#[40, 48, 32, 52, 32, 53, 32, 49, 41]⟩ : ByteArray).size ≤ 200)
  rintro e w1 ⟨A, c, us, rfl, s1, l1, b1⟩
  have P1 := Lib.hid (p0.out.below b1 p0.out.lt)
  have B1 := btr B0.out b1
  have S1 : SS w1 (w.heap.size + 2) (w.heap.size + 2) A 3 c us (knG 3) := by have := s1; rw [show (7 : Int) = ((7 : Nat) : Int) from rfl] at *; rw [show knG 3 = rdC 7 [⟨#[40, 48, 32, 49, 32, 50, 32, 51, 41]⟩, ⟨#[40, 49, 32, 50, 32, 54, 32, 53, 41]⟩, ⟨#[40, 48, 32, 52, 32, 53, 32, 49, 41]⟩] from rd3.symm]; simpa using this
  have hs1 : w.heap.size + 2 ≤ w1.heap.size := by have := b1.size; simpa using this
  have y0 := P1.out.cell 0
  have y1 := P1.out.cell 1
  have y2 := P1.out.cell 2
  have g0 := P1.out.frozen 0
  have g1 := P1.out.frozen 1
  have g2 := P1.out.frozen 2
  go_wp2_with fail
  obtain ⟨W2, e2⟩ : ∃ W2, w1.setCell ⟨w.heap.size, 0, none⟩ (.int .i64 7) = W2 := ⟨_, rfl⟩
  obtain ⟨W3, e3⟩ : ∃ W3, W2.setCell ⟨w.heap.size, 1, none⟩ (.string ⟨#[65, 66, 67]⟩) = W3 := ⟨_, rfl⟩
  obtain ⟨W4, e4⟩ : ∃ W4, W3.setCell ⟨w.heap.size, 2, none⟩ (.slice A 3 c) = W4 := ⟨_, rfl⟩
  rw [e2, e3, e4]
  have D2 : Blk W2 w.heap.size 24 #[.int .i64 7, .string ⟨#[]⟩, .slice none 0 0] := by rw [← e2]; exact P1.out.set_ 0 _
  have D3 : Blk W3 w.heap.size 24 #[.int .i64 7, .string ⟨#[65, 66, 67]⟩, .slice none 0 0] := by rw [← e3]; exact D2.set_ 1 _
  have D4 : Blk W4 w.heap.size 24 #[.int .i64 7, .string ⟨#[65, 66, 67]⟩, .slice A 3 c] := by rw [← e4]; exact D3.set_ 2 _
  have r1 := D4.cell 0
  have r2 := D4.cell 1
  have r3 := D4.cell 2
  have Be : Below w.heap.size w W4 := by
    rw [← e4, ← e3, ← e2]
    exact ((B1.setCell (p := ⟨w.heap.size, 0, none⟩) (Nat.le_refl _) _).setCell (p := ⟨w.heap.size, 1, none⟩) (Nat.le_refl _) _).setCell (p := ⟨w.heap.size, 2, none⟩) (Nat.le_refl _) _
  have LA := S1.lt_
  have LI := fun t ht => (S1.row t ht).lt_
  have S6 := (S1).farR (w' := W2) (r := w.heap.size) (by rw [← e2]; exact grown_set (grown_refl _ _) _ _) LA LI (.inl (by simp))
  have S7 := (S6).farR (w' := W3) (r := w.heap.size) (by rw [← e3]; exact grown_set (grown_refl _ _) _ _) LA LI (.inl (by simp))
  have S8 := (S7).farR (w' := W4) (r := w.heap.size) (by rw [← e4]; exact grown_set (grown_refl _ _) _ _) LA LI (.inl (by simp))
  clear e2 e3 e4
  exact bodyPost_ret (v := .agg #[.int .i64 7, .string ⟨#[65, 66, 67]⟩, .slice A 3 c]) (by simp [results, Tryd.results13, r1, r2, r3, go_sem]) rfl ⟨A, 3, c, us, rfl, S8.mono (by simp) (by simp), by omega, l1, Be⟩
set_option maxHeartbeats 4000000 in
set_option maxRecDepth 100000 in
/-- plate. -/
theorem implKn4 (w : World) :
    Calls Tryd.prog 14 #[] w fun e w' => ∃ A m c us, e = .returned (.agg #[.int .i64 12, .string ⟨#[65, 66, 67, 68]⟩, .slice A m c]) ∧ SS w' w.heap.size w.heap.size A m c us (knG 4) ∧ m ≤ 4 ∧ (∀ i, i < m → (us.getD i sd0).2.1 ≤ 20) ∧ Below w.heap.size w w' := by
  have c0 : Hid (Blk ((w.alloc (.cells #[.int .i64 0, .string ⟨#[]⟩, .slice none 0 0] 24)).alloc (.cells #[.string ⟨#[40, 48, 32, 49, 41, 40, 52, 32, 53, 41]⟩, .string ⟨#[40, 49, 32, 50, 41, 40, 54, 32, 55, 41]⟩, .string ⟨#[40, 50, 32, 51, 41, 40, 56, 32, 57, 41]⟩, .string ⟨#[40, 48, 32, 51, 41, 40, 49, 48, 32, 49, 49, 41]⟩] 9)) (w.heap.size + 1) 9 #[.string ⟨#[40, 48, 32, 49, 41, 40, 52, 32, 53, 41]⟩, .string ⟨#[40, 49, 32, 50, 41, 40, 54, 32, 55, 41]⟩, .string ⟨#[40, 50, 32, 51, 41, 40, 56, 32, 57, 41]⟩, .string ⟨#[40, 48, 32, 51, 41, 40, 49, 48, 32, 49, 49, 41]⟩]) := Lib.hid (by
    have := Blk.new (w.alloc (.cells #[.int .i64 0, .string ⟨#[]⟩, .slice none 0 0] 24)) 9 #[.string ⟨#[40, 48, 32, 49, 41, 40, 52, 32, 53, 41]⟩, .string ⟨#[40, 49, 32, 50, 41, 40, 54, 32, 55, 41]⟩, .string ⟨#[40, 50, 32, 51, 41, 40, 56, 32, 57, 41]⟩, .string ⟨#[40, 48, 32, 51, 41, 40, 49, 48, 32, 49, 49, 41]⟩]; rw [World.size_alloc] at this; exact this)
  have p0 : Hid (Blk ((w.alloc (.cells #[.int .i64 0, .string ⟨#[]⟩, .slice none 0 0] 24)).alloc (.cells #[.string ⟨#[40, 48, 32, 49, 41, 40, 52, 32, 53, 41]⟩, .string ⟨#[40, 49, 32, 50, 41, 40, 54, 32, 55, 41]⟩, .string ⟨#[40, 50, 32, 51, 41, 40, 56, 32, 57, 41]⟩, .string ⟨#[40, 48, 32, 51, 41, 40, 49, 48, 32, 49, 49, 41]⟩] 9)) w.heap.size 24 #[.int .i64 0, .string ⟨#[]⟩, .slice none 0 0]) := Lib.hid ((Blk.new w _ _).alloc _)
  have B0 : Hid (Below w.heap.size w ((w.alloc (.cells #[.int .i64 0, .string ⟨#[]⟩, .slice none 0 0] 24)).alloc (.cells #[.string ⟨#[40, 48, 32, 49, 41, 40, 52, 32, 53, 41]⟩, .string ⟨#[40, 49, 32, 50, 41, 40, 54, 32, 55, 41]⟩, .string ⟨#[40, 50, 32, 51, 41, 40, 56, 32, 57, 41]⟩, .string ⟨#[40, 48, 32, 51, 41, 40, 49, 48, 32, 49, 49, 41]⟩] 9))) := Lib.hid (((Below.refl _ w).alloc (Nat.le_refl _) _).alloc (by simp) _)
  go_enter Tryd.func14, Tryd.ntmps14
  go_wp2_with fail
  refine (implPuzzleOf 12 (w.heap.size + 1) 4 4 [⟨#[40, 48, 32, 49, 41, 40, 52, 32, 53, 41]⟩, ⟨#[40, 49, 32, 50, 41, 40, 54, 32, 55, 41]⟩, ⟨#[40, 50, 32, 51, 41, 40, 56, 32, 57, 41]⟩, ⟨#[40, 48, 32, 51, 41, 40, 49, 48, 32, 49, 49, 41]⟩] ((w.alloc (.cells #[.int .i64 0, .string ⟨#[]⟩, .slice none 0 0] 24)).alloc (.cells #[.string ⟨#[40, 48, 32, 49, 41, 40, 52, 32, 53, 41]⟩, .string ⟨#[40, 49, 32, 50, 41, 40, 54, 32, 55, 41]⟩, .string ⟨#[40, 50, 32, 51, 41, 40, 56, 32, 57, 41]⟩, .string ⟨#[40, 48, 32, 51, 41, 40, 49, 48, 32, 49, 49, 41]⟩] 9)) (by decide) (by decide) (by decide) rfl (by simp) (Lib.hid ?_) (Lib.hid ?_) ⟨#[65, 66, 67, 68]⟩).mono ?_
  · intro j hj
    rw [c0.out.cell j]
    match j, hj with
    | 0, _ => rfl
    | 1, _ => rfl
    | 2, _ => rfl
    | 3, _ => rfl
  · intro j hj
    match j, hj with
    | 0, _ => exact (by decide : (⟨#[40, 48, 32, 49, 41, 40, 52, 32, 53, 41]⟩ : ByteArray).size ≤ 200)
    | 1, _ => exact (by decide : (⟨#[40, 49, 32, 50, 41, 40, 54, 32, 55, 41]⟩ : ByteArray).size ≤ 200)
    | 2, _ => exact (by decide : (⟨#[40, 50, 32, 51, 41, 40, 56, 32, 57, 41]⟩ : ByteArray).size ≤ 200)
    | 3, _ => exact (by decide : (⟨#[40, 48, 32, 51, 41, 40, 49, 48, 32, 49, 49, 41]⟩ : ByteArray).size ≤ 200)
  rintro e w1 ⟨A, c, us, rfl, s1, l1, b1⟩
  have P1 := Lib.hid (p0.out.below b1 p0.out.lt)
  have B1 := btr B0.out b1
  have S1 : SS w1 (w.heap.size + 2) (w.heap.size + 2) A 4 c us (knG 4) := by have := s1; rw [show (12 : Int) = ((12 : Nat) : Int) from rfl] at *; rw [show knG 4 = rdC 12 [⟨#[40, 48, 32, 49, 41, 40, 52, 32, 53, 41]⟩, ⟨#[40, 49, 32, 50, 41, 40, 54, 32, 55, 41]⟩, ⟨#[40, 50, 32, 51, 41, 40, 56, 32, 57, 41]⟩, ⟨#[40, 48, 32, 51, 41, 40, 49, 48, 32, 49, 49, 41]⟩] from rd4.symm]; simpa using this
  have hs1 : w.heap.size + 2 ≤ w1.heap.size := by have := b1.size; simpa using this
  have y0 := P1.out.cell 0
  have y1 := P1.out.cell 1
  have y2 := P1.out.cell 2
  have g0 := P1.out.frozen 0
  have g1 := P1.out.frozen 1
  have g2 := P1.out.frozen 2
  go_wp2_with fail
  obtain ⟨W2, e2⟩ : ∃ W2, w1.setCell ⟨w.heap.size, 0, none⟩ (.int .i64 12) = W2 := ⟨_, rfl⟩
  obtain ⟨W3, e3⟩ : ∃ W3, W2.setCell ⟨w.heap.size, 1, none⟩ (.string ⟨#[65, 66, 67, 68]⟩) = W3 := ⟨_, rfl⟩
  obtain ⟨W4, e4⟩ : ∃ W4, W3.setCell ⟨w.heap.size, 2, none⟩ (.slice A 4 c) = W4 := ⟨_, rfl⟩
  rw [e2, e3, e4]
  have D2 : Blk W2 w.heap.size 24 #[.int .i64 12, .string ⟨#[]⟩, .slice none 0 0] := by rw [← e2]; exact P1.out.set_ 0 _
  have D3 : Blk W3 w.heap.size 24 #[.int .i64 12, .string ⟨#[65, 66, 67, 68]⟩, .slice none 0 0] := by rw [← e3]; exact D2.set_ 1 _
  have D4 : Blk W4 w.heap.size 24 #[.int .i64 12, .string ⟨#[65, 66, 67, 68]⟩, .slice A 4 c] := by rw [← e4]; exact D3.set_ 2 _
  have r1 := D4.cell 0
  have r2 := D4.cell 1
  have r3 := D4.cell 2
  have Be : Below w.heap.size w W4 := by
    rw [← e4, ← e3, ← e2]
    exact ((B1.setCell (p := ⟨w.heap.size, 0, none⟩) (Nat.le_refl _) _).setCell (p := ⟨w.heap.size, 1, none⟩) (Nat.le_refl _) _).setCell (p := ⟨w.heap.size, 2, none⟩) (Nat.le_refl _) _
  have LA := S1.lt_
  have LI := fun t ht => (S1.row t ht).lt_
  have S6 := (S1).farR (w' := W2) (r := w.heap.size) (by rw [← e2]; exact grown_set (grown_refl _ _) _ _) LA LI (.inl (by simp))
  have S7 := (S6).farR (w' := W3) (r := w.heap.size) (by rw [← e3]; exact grown_set (grown_refl _ _) _ _) LA LI (.inl (by simp))
  have S8 := (S7).farR (w' := W4) (r := w.heap.size) (by rw [← e4]; exact grown_set (grown_refl _ _) _ _) LA LI (.inl (by simp))
  clear e2 e3 e4
  exact bodyPost_ret (v := .agg #[.int .i64 12, .string ⟨#[65, 66, 67, 68]⟩, .slice A 4 c]) (by simp [results, Tryd.results14, r1, r2, r3, go_sem]) rfl ⟨A, 4, c, us, rfl, S8.mono (by simp) (by simp), by omega, l1, Be⟩
set_option maxHeartbeats 4000000 in
set_option maxRecDepth 100000 in
/-- pyramidEdges. -/
theorem implKn5 (w : World) :
    Calls Tryd.prog 15 #[] w fun e w' => ∃ A m c us, e = .returned (.agg #[.int .i64 12, .string ⟨#[65, 66, 67, 68]⟩, .slice A m c]) ∧ SS w' w.heap.size w.heap.size A m c us (knG 5) ∧ m ≤ 4 ∧ (∀ i, i < m → (us.getD i sd0).2.1 ≤ 20) ∧ Below w.heap.size w w' := by
  have c0 : Hid (Blk ((w.alloc (.cells #[.int .i64 0, .string ⟨#[]⟩, .slice none 0 0] 24)).alloc (.cells #[.string ⟨#[40, 48, 32, 49, 32, 50, 41, 40, 51, 32, 54, 32, 57, 41]⟩, .string ⟨#[40, 48, 32, 55, 32, 49, 48, 41, 40, 51, 32, 52, 32, 53, 41]⟩, .string ⟨#[40, 49, 32, 52, 32, 49, 49, 41, 40, 54, 32, 55, 32, 56, 41]⟩, .string ⟨#[40, 50, 32, 53, 32, 56, 41, 40, 57, 32, 49, 48, 32, 49, 49, 41]⟩] 9)) (w.heap.size + 1) 9 #[.string ⟨#[40, 48, 32, 49, 32, 50, 41, 40, 51, 32, 54, 32, 57, 41]⟩, .string ⟨#[40, 48, 32, 55, 32, 49, 48, 41, 40, 51, 32, 52, 32, 53, 41]⟩, .string ⟨#[40, 49, 32, 52, 32, 49, 49, 41, 40, 54, 32, 55, 32, 56, 41]⟩, .string ⟨#[40, 50, 32, 53, 32, 56, 41, 40, 57, 32, 49, 48, 32, 49, 49, 41]⟩]) := Lib.hid (by
    have := Blk.new (w.alloc (.cells #[.int .i64 0, .string ⟨#[]⟩, .slice none 0 0] 24)) 9 #[.string ⟨#[40, 48, 32, 49, 32, 50, 41, 40, 51, 32, 54, 32, 57, 41]⟩, .string ⟨#[40, 48, 32, 55, 32, 49, 48, 41, 40, 51, 32, 52, 32, 53, 41]⟩, .string ⟨#[40, 49, 32, 52, 32, 49, 49, 41, 40, 54, 32, 55, 32, 56, 41]⟩, .string ⟨#[40, 50, 32, 53, 32, 56, 41, 40, 57, 32, 49, 48, 32, 49, 49, 41]⟩]; rw [World.size_alloc] at this; exact this)
  have p0 : Hid (Blk ((w.alloc (.cells #[.int .i64 0, .string ⟨#[]⟩, .slice none 0 0] 24)).alloc (.cells #[.string ⟨#[40, 48, 32, 49, 32, 50, 41, 40, 51, 32, 54, 32, 57, 41]⟩, .string ⟨#[40, 48, 32, 55, 32, 49, 48, 41, 40, 51, 32, 52, 32, 53, 41]⟩, .string ⟨#[40, 49, 32, 52, 32, 49, 49, 41, 40, 54, 32, 55, 32, 56, 41]⟩, .string ⟨#[40, 50, 32, 53, 32, 56, 41, 40, 57, 32, 49, 48, 32, 49, 49, 41]⟩] 9)) w.heap.size 24 #[.int .i64 0, .string ⟨#[]⟩, .slice none 0 0]) := Lib.hid ((Blk.new w _ _).alloc _)
  have B0 : Hid (Below w.heap.size w ((w.alloc (.cells #[.int .i64 0, .string ⟨#[]⟩, .slice none 0 0] 24)).alloc (.cells #[.string ⟨#[40, 48, 32, 49, 32, 50, 41, 40, 51, 32, 54, 32, 57, 41]⟩, .string ⟨#[40, 48, 32, 55, 32, 49, 48, 41, 40, 51, 32, 52, 32, 53, 41]⟩, .string ⟨#[40, 49, 32, 52, 32, 49, 49, 41, 40, 54, 32, 55, 32, 56, 41]⟩, .string ⟨#[40, 50, 32, 53, 32, 56, 41, 40, 57, 32, 49, 48, 32, 49, 49, 41]⟩] 9))) := Lib.hid (((Below.refl _ w).alloc (Nat.le_refl _) _).alloc (by simp) _)
  go_enter Tryd.func15, Tryd.ntmps15
  go_wp2_with fail
  refine (implPuzzleOf 12 (w.heap.size + 1) 4 4 [⟨#[40, 48, 32, 49, 32, 50, 41, 40, 51, 32, 54, 32, 57, 41]⟩, ⟨#[40, 48, 32, 55, 32, 49, 48, 41, 40, 51, 32, 52, 32, 53, 41]⟩, ⟨#[40, 49, 32, 52, 32, 49, 49, 41, 40, 54, 32, 55, 32, 56, 41]⟩, ⟨#[40, 50, 32, 53, 32, 56, 41, 40, 57, 32, 49, 48, 32, 49, 49, 41]⟩] ((w.alloc (.cells #[.int .i64 0, .string ⟨#[]⟩, .slice none 0 0] 24)).alloc (.cells #[.string ⟨#[40, 48, 32, 49, 32, 50, 41, 40, 51, 32, 54, 32, 57, 41]⟩, .string ⟨#[40, 48, 32, 55, 32, 49, 48, 41, 40, 51, 32, 52, 32, 53, 41]⟩, .string ⟨#[40, 49, 32, 52, 32, 49, 49, 41, 40, 54, 32, 55, 32, 56, 41]⟩, .string ⟨#[40, 50, 32, 53, 32, 56, 41, 40, 57, 32, 49, 48, 32, 49, 49, 41]⟩] 9)) (by decide) (by decide) (by decide) rfl (by simp) (Lib.hid ?_) (Lib.hid ?_) ⟨#[65, 66, 67, 68]⟩).mono ?_
  · intro j hj
    rw [c0.out.cell j]
    match j, hj with
    | 0, _ => rfl
    | 1, _ => rfl
    | 2, _ => rfl
    | 3, _ => rfl
  · intro j hj
    match j, hj with
    | 0, _ => exact (by decide : (⟨#[40, 48, 32, 49, 32, 50, 41, 40, 51, 32, 54, 32, 57, 41]⟩ : ByteArray).size ≤ 200)
    | 1, _ => exact (by decide : (⟨#[40, 48, 32, 55, 32, 49, 48, 41, 40, 51, 32, 52, 32, 53, 41]⟩ : ByteArray).size ≤ 200)
    | 2, _ => exact (by decide : (⟨#[40, 49, 32, 52, 32, 49, 49, 41, 40, 54, 32, 55, 32, 56, 41]⟩ : ByteArray).size ≤ 200)
    | 3, _ => exact (by decide : (⟨#[40, 50, 32, 53, 32, 56, 41, 40, 57, 32, 49, 48, 32, 49, 49, 41]⟩ : ByteArray).size ≤ 200)
  rintro e w1 ⟨A, c, us, rfl, s1, l1, b1⟩
  have P1 := Lib.hid (p0.out.below b1 p0.out.lt)
  have B1 := btr B0.out b1
  have S1 : SS w1 (w.heap.size + 2) (w.heap.size + 2) A 4 c us (knG 5) := by have := s1; rw [show (12 : Int) = ((12 : Nat) : Int) from rfl] at *; rw [show knG 5 = rdC 12 [⟨#[40, 48, 32, 49, 32, 50, 41, 40, 51, 32, 54, 32, 57, 41]⟩, ⟨#[40, 48, 32, 55, 32, 49, 48, 41, 40, 51, 32, 52, 32, 53, 41]⟩, ⟨#[40, 49, 32, 52, 32, 49, 49, 41, 40, 54, 32, 55, 32, 56, 41]⟩, ⟨#[40, 50, 32, 53, 32, 56, 41, 40, 57, 32, 49, 48, 32, 49, 49, 41]⟩] from rd5.symm]; simpa using this
  have hs1 : w.heap.size + 2 ≤ w1.heap.size := by have := b1.size; simpa using this
  have y0 := P1.out.cell 0
  have y1 := P1.out.cell 1
  have y2 := P1.out.cell 2
  have g0 := P1.out.frozen 0
  have g1 := P1.out.frozen 1
  have g2 := P1.out.frozen 2
  go_wp2_with fail
  obtain ⟨W2, e2⟩ : ∃ W2, w1.setCell ⟨w.heap.size, 0, none⟩ (.int .i64 12) = W2 := ⟨_, rfl⟩
  obtain ⟨W3, e3⟩ : ∃ W3, W2.setCell ⟨w.heap.size, 1, none⟩ (.string ⟨#[65, 66, 67, 68]⟩) = W3 := ⟨_, rfl⟩
  obtain ⟨W4, e4⟩ : ∃ W4, W3.setCell ⟨w.heap.size, 2, none⟩ (.slice A 4 c) = W4 := ⟨_, rfl⟩
  rw [e2, e3, e4]
  have D2 : Blk W2 w.heap.size 24 #[.int .i64 12, .string ⟨#[]⟩, .slice none 0 0] := by rw [← e2]; exact P1.out.set_ 0 _
  have D3 : Blk W3 w.heap.size 24 #[.int .i64 12, .string ⟨#[65, 66, 67, 68]⟩, .slice none 0 0] := by rw [← e3]; exact D2.set_ 1 _
  have D4 : Blk W4 w.heap.size 24 #[.int .i64 12, .string ⟨#[65, 66, 67, 68]⟩, .slice A 4 c] := by rw [← e4]; exact D3.set_ 2 _
  have r1 := D4.cell 0
  have r2 := D4.cell 1
  have r3 := D4.cell 2
  have Be : Below w.heap.size w W4 := by
    rw [← e4, ← e3, ← e2]
    exact ((B1.setCell (p := ⟨w.heap.size, 0, none⟩) (Nat.le_refl _) _).setCell (p := ⟨w.heap.size, 1, none⟩) (Nat.le_refl _) _).setCell (p := ⟨w.heap.size, 2, none⟩) (Nat.le_refl _) _
  have LA := S1.lt_
  have LI := fun t ht => (S1.row t ht).lt_
  have S6 := (S1).farR (w' := W2) (r := w.heap.size) (by rw [← e2]; exact grown_set (grown_refl _ _) _ _) LA LI (.inl (by simp))
  have S7 := (S6).farR (w' := W3) (r := w.heap.size) (by rw [← e3]; exact grown_set (grown_refl _ _) _ _) LA LI (.inl (by simp))
  have S8 := (S7).farR (w' := W4) (r := w.heap.size) (by rw [← e4]; exact grown_set (grown_refl _ _) _ _) LA LI (.inl (by simp))
  clear e2 e3 e4
  exact bodyPost_ret (v := .agg #[.int .i64 12, .string ⟨#[65, 66, 67, 68]⟩, .slice A 4 c]) (by simp [results, Tryd.results15, r1, r2, r3, go_sem]) rfl ⟨A, 4, c, us, rfl, S8.mono (by simp) (by simp), by omega, l1, Be⟩
set_option maxHeartbeats 4000000 in
set_option maxRecDepth 100000 in
theorem implKP0 (w : World) :
    Calls Tryd.prog 5 #[.int .i64 0] w fun e w' => ∃ A m c us, e = .returned (.tuple #[.agg #[.int .i64 4, .string ⟨#[65, 66, 67]⟩, .slice A m c], .bool true]) ∧ SS w' w.heap.size w.heap.size A m c us (knG 0) ∧ m ≤ 4 ∧ (∀ i, i < m → (us.getD i sd0).2.1 ≤ 20) ∧ Below w.heap.size w w' := by
  have p0 : Hid (Blk ((w.alloc (.cells #[.int .i64 0, .string ⟨#[]⟩, .slice none 0 0] 24)).alloc (.cells #[.func (.func 10) #[] #[], .func (.func 11) #[] #[], .func (.func 12) #[] #[], .func (.func 13) #[] #[], .func (.func 14) #[] #[], .func (.func 15) #[] #[]] 31)) w.heap.size 24 #[.int .i64 0, .string ⟨#[]⟩, .slice none 0 0]) := Lib.hid ((Blk.new w _ _).alloc _)
  have f0 : Hid (Blk ((w.alloc (.cells #[.int .i64 0, .string ⟨#[]⟩, .slice none 0 0] 24)).alloc (.cells #[.func (.func 10) #[] #[], .func (.func 11) #[] #[], .func (.func 12) #[] #[], .func (.func 13) #[] #[], .func (.func 14) #[] #[], .func (.func 15) #[] #[]] 31)) (w.heap.size + 1) 31 #[.func (.func 10) #[] #[], .func (.func 11) #[] #[], .func (.func 12) #[] #[], .func (.func 13) #[] #[], .func (.func 14) #[] #[], .func (.func 15) #[] #[]]) := Lib.hid (by
    have := Blk.new (w.alloc (.cells #[.int .i64 0, .string ⟨#[]⟩, .slice none 0 0] 24)) 31 #[.func (.func 10) #[] #[], .func (.func 11) #[] #[], .func (.func 12) #[] #[], .func (.func 13) #[] #[], .func (.func 14) #[] #[], .func (.func 15) #[] #[]]; rw [World.size_alloc] at this; exact this)
  have B0 : Hid (Below w.heap.size w ((w.alloc (.cells #[.int .i64 0, .string ⟨#[]⟩, .slice none 0 0] 24)).alloc (.cells #[.func (.func 10) #[] #[], .func (.func 11) #[] #[], .func (.func 12) #[] #[], .func (.func 13) #[] #[], .func (.func 14) #[] #[], .func (.func 15) #[] #[]] 31))) := Lib.hid (((Below.refl _ w).alloc (Nat.le_refl _) _).alloc (by simp) _)
  have K := implKn0 ((w.alloc (.cells #[.int .i64 0, .string ⟨#[]⟩, .slice none 0 0] 24)).alloc (.cells #[.func (.func 10) #[] #[], .func (.func 11) #[] #[], .func (.func 12) #[] #[], .func (.func 13) #[] #[], .func (.func 14) #[] #[], .func (.func 15) #[] #[]] 31))
  have fk : ((w.alloc (.cells #[.int .i64 0, .string ⟨#[]⟩, .slice none 0 0] 24)).alloc (.cells #[.func (.func 10) #[] #[], .func (.func 11) #[] #[], .func (.func 12) #[] #[], .func (.func 13) #[] #[], .func (.func 14) #[] #[], .func (.func 15) #[] #[]] 31)).cell? ⟨w.heap.size + 1, 0, none⟩ = some (.func (.func 10) #[] #[]) := f0.out.cell 0
  go_enter Tryd.func5, Tryd.ntmps5
  go_wp2_with fail
  refine K.mono ?_
  rintro e w1 ⟨A, m, c, us, rfl, s1, hm, l1, b1⟩
  clear K
  have P1 := Lib.hid (p0.out.below b1 p0.out.lt)
  have B1 := btr B0.out b1
  have S1 : SS w1 (w.heap.size + 2) (w.heap.size + 2) A m c us (knG 0) := by simpa using s1
  have hs1 : w.heap.size + 2 ≤ w1.heap.size := by have := b1.size; simpa using this
  have y0 := P1.out.cell 0
  have y1 := P1.out.cell 1
  have y2 := P1.out.cell 2
  have g0 := P1.out.frozen 0
  have g1 := P1.out.frozen 1
  have g2 := P1.out.frozen 2
  go_wp2_with fail
  obtain ⟨W2, e2⟩ : ∃ W2, w1.setCell ⟨w.heap.size, 0, none⟩ (.int .i64 4) = W2 := ⟨_, rfl⟩
  obtain ⟨W3, e3⟩ : ∃ W3, W2.setCell ⟨w.heap.size, 1, none⟩ (.string ⟨#[65, 66, 67]⟩) = W3 := ⟨_, rfl⟩
  obtain ⟨W4, e4⟩ : ∃ W4, W3.setCell ⟨w.heap.size, 2, none⟩ (.slice A m c) = W4 := ⟨_, rfl⟩
  rw [e2, e3, e4]
  have D2 : Blk W2 w.heap.size 24 #[.int .i64 4, .string ⟨#[]⟩, .slice none 0 0] := by rw [← e2]; exact P1.out.set_ 0 _
  have D3 : Blk W3 w.heap.size 24 #[.int .i64 4, .string ⟨#[65, 66, 67]⟩, .slice none 0 0] := by rw [← e3]; exact D2.set_ 1 _
  have D4 : Blk W4 w.heap.size 24 #[.int .i64 4, .string ⟨#[65, 66, 67]⟩, .slice A m c] := by rw [← e4]; exact D3.set_ 2 _
  have r1 := D4.cell 0
  have r2 := D4.cell 1
  have r3 := D4.cell 2
  have Be : Below w.heap.size w W4 := by
    rw [← e4, ← e3, ← e2]
    exact ((B1.setCell (p := ⟨w.heap.size, 0, none⟩) (Nat.le_refl _) _).setCell (p := ⟨w.heap.size, 1, none⟩) (Nat.le_refl _) _).setCell (p := ⟨w.heap.size, 2, none⟩) (Nat.le_refl _) _
  have LA := S1.lt_
  have LI := fun t ht => (S1.row t ht).lt_
  have S6 := (S1).farR (w' := W2) (r := w.heap.size) (by rw [← e2]; exact grown_set (grown_refl _ _) _ _) LA LI (.inl (by simp))
  have S7 := (S6).farR (w' := W3) (r := w.heap.size) (by rw [← e3]; exact grown_set (grown_refl _ _) _ _) LA LI (.inl (by simp))
  have S8 := (S7).farR (w' := W4) (r := w.heap.size) (by rw [← e4]; exact grown_set (grown_refl _ _) _ _) LA LI (.inl (by simp))
  clear e2 e3 e4
  exact bodyPost_ret (v := .tuple #[.agg #[.int .i64 4, .string ⟨#[65, 66, 67]⟩, .slice A m c], .bool true]) (by simp [results, Tryd.results5, r1, r2, r3, go_sem]) rfl ⟨A, m, c, us, rfl, S8.mono (by simp) (by simp), by omega, l1, Be⟩
set_option maxHeartbeats 4000000 in
set_option maxRecDepth 100000 in
theorem implKP1 (w : World) :
    Calls Tryd.prog 5 #[.int .i64 1] w fun e w' => ∃ A m c us, e = .returned (.tuple #[.agg #[.int .i64 6, .string ⟨#[65, 66]⟩, .slice A m c], .bool true]) ∧ SS w' w.heap.size w.heap.size A m c us (knG 1) ∧ m ≤ 4 ∧ (∀ i, i < m → (us.getD i sd0).2.1 ≤ 20) ∧ Below w.heap.size w w' := by
  have p0 : Hid (Blk ((w.alloc (.cells #[.int .i64 0, .string ⟨#[]⟩, .slice none 0 0] 24)).alloc (.cells #[.func (.func 10) #[] #[], .func (.func 11) #[] #[], .func (.func 12) #[] #[], .func (.func 13) #[] #[], .func (.func 14) #[] #[], .func (.func 15) #[] #[]] 31)) w.heap.size 24 #[.int .i64 0, .string ⟨#[]⟩, .slice none 0 0]) := Lib.hid ((Blk.new w _ _).alloc _)
  have f0 : Hid (Blk ((w.alloc (.cells #[.int .i64 0, .string ⟨#[]⟩, .slice none 0 0] 24)).alloc (.cells #[.func (.func 10) #[] #[], .func (.func 11) #[] #[], .func (.func 12) #[] #[], .func (.func 13) #[] #[], .func (.func 14) #[] #[], .func (.func 15) #[] #[]] 31)) (w.heap.size + 1) 31 #[.func (.func 10) #[] #[], .func (.func 11) #[] #[], .func (.func 12) #[] #[], .func (.func 13) #[] #[], .func (.func 14) #[] #[], .func (.func 15) #[] #[]]) := Lib.hid (by
    have := Blk.new (w.alloc (.cells #[.int .i64 0, .string ⟨#[]⟩, .slice none 0 0] 24)) 31 #[.func (.func 10) #[] #[], .func (.func 11) #[] #[], .func (.func 12) #[] #[], .func (.func 13) #[] #[], .func (.func 14) #[] #[], .func (.func 15) #[] #[]]; rw [World.size_alloc] at this; exact this)
  have B0 : Hid (Below w.heap.size w ((w.alloc (.cells #[.int .i64 0, .string ⟨#[]⟩, .slice none 0 0] 24)).alloc (.cells #[.func (.func 10) #[] #[], .func (.func 11) #[] #[], .func (.func 12) #[] #[], .func (.func 13) #[] #[], .func (.func 14) #[] #[], .func (.func 15) #[] #[]] 31))) := Lib.hid (((Below.refl _ w).alloc (Nat.le_refl _) _).alloc (by simp) _)
  have K := implKn1 ((w.alloc (.cells #[.int .i64 0, .string ⟨#[]⟩, .slice none 0 0] 24)).alloc (.cells #[.func (.func 10) #[] #[], .func (.func 11) #[] #[], .func (.func 12) #[] #[], .func (.func 13) #[] #[], .func (.func 14) #[] #[], .func (.func 15) #[] #[]] 31))
  have fk : ((w.alloc (.cells #[.int .i64 0, .string ⟨#[]⟩, .slice none 0 0] 24)).alloc (.cells #[.func (.func 10) #[] #[], .func (.func 11) #[] #[], .func (.func 12) #[] #[], .func (.func 13) #[] #[], .func (.func 14) #[] #[], .func (.func 15) #[] #[]] 31)).cell? ⟨w.heap.size + 1, 1, none⟩ = some (.func (.func 11) #[] #[]) := f0.out.cell 1
  go_enter Tryd.func5, Tryd.ntmps5
  go_wp2_with fail
  refine K.mono ?_
  rintro e w1 ⟨A, m, c, us, rfl, s1, hm, l1, b1⟩
  clear K
  have P1 := Lib.hid (p0.out.below b1 p0.out.lt)
  have B1 := btr B0.out b1
  have S1 : SS w1 (w.heap.size + 2) (w.heap.size + 2) A m c us (knG 1) := by simpa using s1
  have hs1 : w.heap.size + 2 ≤ w1.heap.size := by have := b1.size; simpa using this
  have y0 := P1.out.cell 0
  have y1 := P1.out.cell 1
  have y2 := P1.out.cell 2
  have g0 := P1.out.frozen 0
  have g1 := P1.out.frozen 1
  have g2 := P1.out.frozen 2
  go_wp2_with fail
  obtain ⟨W2, e2⟩ : ∃ W2, w1.setCell ⟨w.heap.size, 0, none⟩ (.int .i64 6) = W2 := ⟨_, rfl⟩
  obtain ⟨W3, e3⟩ : ∃ W3, W2.setCell ⟨w.heap.size, 1, none⟩ (.string ⟨#[65, 66]⟩) = W3 := ⟨_, rfl⟩
  obtain ⟨W4, e4⟩ : ∃ W4, W3.setCell ⟨w.heap.size, 2, none⟩ (.slice A m c) = W4 := ⟨_, rfl⟩
  rw [e2, e3, e4]
  have D2 : Blk W2 w.heap.size 24 #[.int .i64 6, .string ⟨#[]⟩, .slice none 0 0] := by rw [← e2]; exact P1.out.set_ 0 _
  have D3 : Blk W3 w.heap.size 24 #[.int .i64 6, .string ⟨#[65, 66]⟩, .slice none 0 0] := by rw [← e3]; exact D2.set_ 1 _
  have D4 : Blk W4 w.heap.size 24 #[.int .i64 6, .string ⟨#[65, 66]⟩, .slice A m c] := by rw [← e4]; exact D3.set_ 2 _
  have r1 := D4.cell 0
  have r2 := D4.cell 1
  have r3 := D4.cell 2
  have Be : Below w.heap.size w W4 := by
    rw [← e4, ← e3, ← e2]
    exact ((B1.setCell (p := ⟨w.heap.size, 0, none⟩) (Nat.le_refl _) _).setCell (p := ⟨w.heap.size, 1, none⟩) (Nat.le_refl _) _).setCell (p := ⟨w.heap.size, 2, none⟩) (Nat.le_refl _) _
  have LA := S1.lt_
  have LI := fun t ht => (S1.row t ht).lt_
  have S6 := (S1).farR (w' := W2) (r := w.heap.size) (by rw [← e2]; exact grown_set (grown_refl _ _) _ _) LA LI (.inl (by simp))
  have S7 := (S6).farR (w' := W3) (r := w.heap.size) (by rw [← e3]; exact grown_set (grown_refl _ _) _ _) LA LI (.inl (by simp))
  have S8 := (S7).farR (w' := W4) (r := w.heap.size) (by rw [← e4]; exact grown_set (grown_refl _ _) _ _) LA LI (.inl (by simp))
  clear e2 e3 e4
  exact bodyPost_ret (v := .tuple #[.agg #[.int .i64 6, .string ⟨#[65, 66]⟩, .slice A m c], .bool true]) (by simp [results, Tryd.results5, r1, r2, r3, go_sem]) rfl ⟨A, m, c, us, rfl, S8.mono (by simp) (by simp), by omega, l1, Be⟩
set_option maxHeartbeats 4000000 in
set_option maxRecDepth 100000 in
theorem implKP2 (w : World) :
    Calls Tryd.prog 5 #[.int .i64 2] w fun e w' => ∃ A m c us, e = .returned (.tuple #[.agg #[.int .i64 6, .string ⟨#[65, 66]⟩, .slice A m c], .bool true]) ∧ SS w' w.heap.size w.heap.size A m c us (knG 2) ∧ m ≤ 4 ∧ (∀ i, i < m → (us.getD i sd0).2.1 ≤ 20) ∧ Below w.heap.size w w' := by
  have p0 : Hid (Blk ((w.alloc (.cells #[.int .i64 0, .string ⟨#[]⟩, .slice none 0 0] 24)).alloc (.cells #[.func (.func 10) #[] #[], .func (.func 11) #[] #[], .func (.func 12) #[] #[], .func (.func 13) #[] #[], .func (.func 14) #[] #[], .func (.func 15) #[] #[]] 31)) w.heap.size 24 #[.int .i64 0, .string ⟨#[]⟩, .slice none 0 0]) := Lib.hid ((Blk.new w _ _).alloc _)
  have f0 : Hid (Blk ((w.alloc (.cells #[.int .i64 0, .string ⟨#[]⟩, .slice none 0 0] 24)).alloc (.cells #[.func (.func 10) #[] #[], .func (.func 11) #[] #[], .func (.func 12) #[] #[], .func (.func 13) #[] #[], .func (.func 14) #[] #[], .func (.func 15) #[] #[]] 31)) (w.heap.size + 1) 31 #[.func (.func 10) #[] #[], .func (.func 11) #[] #[], .func (.func 12) #[] #[], .func (.func 13) #[] #[], .func (.func 14) #[] #[], .func (.func 15) #[] #[]]) := Lib.hid (by
    have := Blk.new (w.alloc (.cells #[.int .i64 0, .string ⟨#[]⟩, .slice none 0 0] 24)) 31 #[.func (.func 10) #[] #[], .func (.func 11) #[] #[], .func (.func 12) #[] #[], .func (.func 13) #[] #[], .func (.func 14) #[] #[], .func (.func 15) #[] #[]]; rw [World.size_alloc] at this; exact this)
  have B0 : Hid (Below w.heap.size w ((w.alloc (.cells #[.int .i64 0, .string ⟨#[]⟩, .slice none 0 0] 24)).alloc (.cells #[.func (.func 10) #[] #[], .func (.func 11) #[] #[], .func (.func 12) #[] #[], .func (.func 13) #[] #[], .func (.func 14) #[] #[], .func (.func 15) #[] #[]] 31))) := Lib.hid (((Below.refl _ w).alloc (Nat.le_refl _) _).alloc (by simp) _)
  have K := implKn2 ((w.alloc (.cells #[.int .i64 0, .string ⟨#[]⟩, .slice none 0 0] 24)).alloc (.cells #[.func (.func 10) #[] #[], .func (.func 11) #[] #[], .func (.func 12) #[] #[], .func (.func 13) #[] #[], .func (.func 14) #[] #[], .func (.func 15) #[] #[]] 31))
  have fk : ((w.alloc (.cells #[.int .i64 0, .string ⟨#[]⟩, .slice none 0 0] 24)).alloc (.cells #[.func (.func 10) #[] #[], .func (.func 11) #[] #[], .func (.func 12) #[] #[], .func (.func 13) #[] #[], .func (.func 14) #[] #[], .func (.func 15) #[] #[]] 31)).cell? ⟨w.heap.size + 1, 2, none⟩ = some (.func (.func 12) #[] #[]) := f0.out.cell 2
  go_enter Tryd.func5, Tryd.ntmps5
  go_wp2_with fail
  refine K.mono ?_
  rintro e w1 ⟨A, m, c, us, rfl, s1, hm, l1, b1⟩
  clear K
  have P1 := Lib.hid (p0.out.below b1 p0.out.lt)
  have B1 := btr B0.out b1
  have S1 : SS w1 (w.heap.size + 2) (w.heap.size + 2) A m c us (knG 2) := by simpa using s1
  have hs1 : w.heap.size + 2 ≤ w1.heap.size := by have := b1.size; simpa using this
  have y0 := P1.out.cell 0
  have y1 := P1.out.cell 1
  have y2 := P1.out.cell 2
  have g0 := P1.out.frozen 0
  have g1 := P1.out.frozen 1
  have g2 := P1.out.frozen 2
  go_wp2_with fail
  obtain ⟨W2, e2⟩ : ∃ W2, w1.setCell ⟨w.heap.size, 0, none⟩ (.int .i64 6) = W2 := ⟨_, rfl⟩
  obtain ⟨W3, e3⟩ : ∃ W3, W2.setCell ⟨w.heap.size, 1, none⟩ (.string ⟨#[65, 66]⟩) = W3 := ⟨_, rfl⟩
  obtain ⟨W4, e4⟩ : ∃ W4, W3.setCell ⟨w.heap.size, 2, none⟩ (.slice A m c) = W4 := ⟨_, rfl⟩
  rw [e2, e3, e4]
  have D2 : Blk W2 w.heap.size 24 #[.int .i64 6, .string ⟨#[]⟩, .slice none 0 0] := by rw [← e2]; exact P1.out.set_ 0 _
  have D3 : Blk W3 w.heap.size 24 #[.int .i64 6, .string ⟨#[65, 66]⟩, .slice none 0 0] := by rw [← e3]; exact D2.set_ 1 _
  have D4 : Blk W4 w.heap.size 24 #[.int .i64 6, .string ⟨#[65, 66]⟩, .slice A m c] := by rw [← e4]; exact D3.set_ 2 _
  have r1 := D4.cell 0
  have r2 := D4.cell 1
  have r3 := D4.cell 2
  have Be : Below w.heap.size w W4 := by
    rw [← e4, ← e3, ← e2]
    exact ((B1.setCell (p := ⟨w.heap.size, 0, none⟩) (Nat.le_refl _) _).setCell (p := ⟨w.heap.size, 1, none⟩) (Nat.le_refl _) _).setCell (p := ⟨w.heap.size, 2, none⟩) (Nat.le_refl _) _
  have LA := S1.lt_
  have LI := fun t ht => (S1.row t ht).lt_
  have S6 := (S1).farR (w' := W2) (r := w.heap.size) (by rw [← e2]; exact grown_set (grown_refl _ _) _ _) LA LI (.inl (by simp))
  have S7 := (S6).farR (w' := W3) (r := w.heap.size) (by rw [← e3]; exact grown_set (grown_refl _ _) _ _) LA LI (.inl (by simp))
  have S8 := (S7).farR (w' := W4) (r := w.heap.size) (by rw [← e4]; exact grown_set (grown_refl _ _) _ _) LA LI (.inl (by simp))
  clear e2 e3 e4
  exact bodyPost_ret (v := .tuple #[.agg #[.int .i64 6, .string ⟨#[65, 66]⟩, .slice A m c], .bool true]) (by simp [results, Tryd.results5, r1, r2, r3, go_sem]) rfl ⟨A, m, c, us, rfl, S8.mono (by simp) (by simp), by omega, l1, Be⟩
set_option maxHeartbeats 4000000 in
set_option maxRecDepth 100000 in
theorem implKP3 (w : World) :
    Calls Tryd.prog 5 #[.int .i64 3] w fun e w' => ∃ A m c us, e = .returned (.tuple #[.agg #[.int .i64 7, .string ⟨#[65, 66, 67]⟩, .slice A m c], .bool true]) ∧ SS w' w.heap.size w.heap.size A m c us (knG 3) ∧ m ≤ 4 ∧ (∀ i, i < m → (us.getD i sd0).2.1 ≤ 20) ∧ Below w.heap.size w w' := by
  have p0 : Hid (Blk ((w.alloc (.cells #[.int .i64 0, .string ⟨#[]⟩, .slice none 0 0] 24)).alloc (.cells #[.func (.func 10) #[] #[], .func (.func 11) #[] #[], .func (.func 12) #[] #[], .func (.func 13) #[] #[], .func (.func 14) #[] #[], .func (.func 15) #[] #[]] 31)) w.heap.size 24 #[.int .i64 0, .string ⟨#[]⟩, .slice none 0 0]) := Lib.hid ((Blk.new w _ _).alloc _)
  have f0 : Hid (Blk ((w.alloc (.cells #[.int .i64 0, .string ⟨#[]⟩, .slice none 0 0] 24)).alloc (.cells #[.func (.func 10) #[] #[], .func (.func 11) #[] #[], .func (.func 12) #[] #[], .func (.func 13) #[] #[], .func (.func 14) #[] #[], .func (.func 15) #[] #[]] 31)) (w.heap.size + 1) 31 #[.func (.func 10) #[] #[], .func (.func 11) #[] #[], .func (.func 12) #[] #[], .func (.func 13) #[] #[], .func (.func 14) #[] #[], .func (.func 15) #[] #[]]) := Lib.hid (by
    have := Blk.new (w.alloc (.cells #[.int .i64 0, .string ⟨#[]⟩, .slice none 0 0] 24)) 31 #[.func (.func 10) #[] #[], .func (.func 11) #[] #[], .func (.func 12) #[] #[], .func (.func 13) #[] #[], .func (.func 14) #[] #[], .func (.func 15) #[] #[]]; rw [World.size_alloc] at this; exact this)
  have B0 : Hid (Below w.heap.size w ((w.alloc (.cells #[.int .i64 0, .string ⟨#[]⟩, .slice none 0 0] 24)).alloc (.cells #[.func (.func 10) #[] #[], .func (.func 11) #[] #[], .func (.func 12) #[] #[], .func (.func 13) #[] #[], .func (.func 14) #[] #[], .func (.func 15) #[] #[]] 31))) := Lib.hid (((Below.refl _ w).alloc (Nat.le_refl _) _).alloc (by simp) _)
  have K := implKn3 ((w.alloc (.cells #[.int .i64 0, .string ⟨#[]⟩, .slice none 0 0] 24)).alloc (.cells #[.func (.func 10) #[] #[], .func (.func 11) #[] #[], .func (.func 12) #[] #[], .func (.func 13) #[] #[], .func (.func 14) #[] #[], .func (.func 15) #[] #[]] 31))
  have fk : ((w.alloc (.cells #[.int .i64 0, .string ⟨#[]⟩, .slice none 0 0] 24)).alloc (.cells #[.func (.func 10) #[] #[], .func (.func 11) #[] #[], .func (.func 12) #[] #[], .func (.func 13) #[] #[], .func (.func 14) #[] #[], .func (.func 15) #[] #[]] 31)).cell? ⟨w.heap.size + 1, 3, none⟩ = some (.func (.func 13) #[] #[]) := f0.out.cell 3
  go_enter Tryd.func5, Tryd.ntmps5
  go_wp2_with fail
  refine K.mono ?_
  rintro e w1 ⟨A, m, c, us, rfl, s1, hm, l1, b1⟩
  clear K
  have P1 := Lib.hid (p0.out.below b1 p0.out.lt)
  have B1 := btr B0.out b1
  have S1 : SS w1 (w.heap.size + 2) (w.heap.size + 2) A m c us (knG 3) := by simpa using s1
  have hs1 : w.heap.size + 2 ≤ w1.heap.size := by have := b1.size; simpa using this
  have y0 := P1.out.cell 0
  have y1 := P1.out.cell 1
  have y2 := P1.out.cell 2
  have g0 := P1.out.frozen 0
  have g1 := P1.out.frozen 1
  have g2 := P1.out.frozen 2
  go_wp2_with fail
  obtain ⟨W2, e2⟩ : ∃ W2, w1.setCell ⟨w.heap.size, 0, none⟩ (.int .i64 7) = W2 := ⟨_, rfl⟩
  obtain ⟨W3, e3⟩ : ∃ W3, W2.setCell ⟨w.heap.size, 1, none⟩ (.string ⟨#[65, 66, 67]⟩) = W3 := ⟨_, rfl⟩
  obtain ⟨W4, e4⟩ : ∃ W4, W3.setCell ⟨w.heap.size, 2, none⟩ (.slice A m c) = W4 := ⟨_, rfl⟩
  rw [e2, e3, e4]
  have D2 : Blk W2 w.heap.size 24 #[.int .i64 7, .string ⟨#[]⟩, .slice none 0 0] := by rw [← e2]; exact P1.out.set_ 0 _
  have D3 : Blk W3 w.heap.size 24 #[.int .i64 7, .string ⟨#[65, 66, 67]⟩, .slice none 0 0] := by rw [← e3]; exact D2.set_ 1 _
  have D4 : Blk W4 w.heap.size 24 #[.int .i64 7, .string ⟨#[65, 66, 67]⟩, .slice A m c] := by rw [← e4]; exact D3.set_ 2 _
  have r1 := D4.cell 0
  have r2 := D4.cell 1
  have r3 := D4.cell 2
  have Be : Below w.heap.size w W4 := by
    rw [← e4, ← e3, ← e2]
    exact ((B1.setCell (p := ⟨w.heap.size, 0, none⟩) (Nat.le_refl _) _).setCell (p := ⟨w.heap.size, 1, none⟩) (Nat.le_refl _) _).setCell (p := ⟨w.heap.size, 2, none⟩) (Nat.le_refl _) _
  have LA := S1.lt_
  have LI := fun t ht => (S1.row t ht).lt_
  have S6 := (S1).farR (w' := W2) (r := w.heap.size) (by rw [← e2]; exact grown_set (grown_refl _ _) _ _) LA LI (.inl (by simp))
  have S7 := (S6).farR (w' := W3) (r := w.heap.size) (by rw [← e3]; exact grown_set (grown_refl _ _) _ _) LA LI (.inl (by simp))
  have S8 := (S7).farR (w' := W4) (r := w.heap.size) (by rw [← e4]; exact grown_set (grown_refl _ _) _ _) LA LI (.inl (by simp))
  clear e2 e3 e4
  exact bodyPost_ret (v := .tuple #[.agg #[.int .i64 7, .string ⟨#[65, 66, 67]⟩, .slice A m c], .bool true]) (by simp [results, Tryd.results5, r1, r2, r3, go_sem]) rfl ⟨A, m, c, us, rfl, S8.mono (by simp) (by simp), by omega, l1, Be⟩
set_option maxHeartbeats 4000000 in
set_option maxRecDepth 100000 in
theorem implKP4 (w : World) :
    Calls Tryd.prog 5 #[.int .i64 4] w fun e w' => ∃ A m c us, e = .returned (.tuple #[.agg #[.int .i64 12, .string ⟨#[65, 66, 67, 68]⟩, .slice A m c], .bool true]) ∧ SS w' w.heap.size w.heap.size A m c us (knG 4) ∧ m ≤ 4 ∧ (∀ i, i < m → (us.getD i sd0).2.1 ≤ 20) ∧ Below w.heap.size w w' := by
  have p0 : Hid (Blk ((w.alloc (.cells #[.int .i64 0, .string ⟨#[]⟩, .slice none 0 0] 24)).alloc (.cells #[.func (.func 10) #[] #[], .func (.func 11) #[] #[], .func (.func 12) #[] #[], .func (.func 13) #[] #[], .func (.func 14) #[] #[], .func (.func 15) #[] #[]] 31)) w.heap.size 24 #[.int .i64 0, .string ⟨#[]⟩, .slice none 0 0]) := Lib.hid ((Blk.new w _ _).alloc _)
  have f0 : Hid (Blk ((w.alloc (.cells #[.int .i64 0, .string ⟨#[]⟩, .slice none 0 0] 24)).alloc (.cells #[.func (.func 10) #[] #[], .func (.func 11) #[] #[], .func (.func 12) #[] #[], .func (.func 13) #[] #[], .func (.func 14) #[] #[], .func (.func 15) #[] #[]] 31)) (w.heap.size + 1) 31 #[.func (.func 10) #[] #[], .func (.func 11) #[] #[], .func (.func 12) #[] #[], .func (.func 13) #[] #[], .func (.func 14) #[] #[], .func (.func 15) #[] #[]]) := Lib.hid (by
    have := Blk.new (w.alloc (.cells #[.int .i64 0, .string ⟨#[]⟩, .slice none 0 0] 24)) 31 #[.func (.func 10) #[] #[], .func (.func 11) #[] #[], .func (.func 12) #[] #[], .func (.func 13) #[] #[], .func (.func 14) #[] #[], .func (.func 15) #[] #[]]; rw [World.size_alloc] at this; exact this)
  have B0 : Hid (Below w.heap.size w ((w.alloc (.cells #[.int .i64 0, .string ⟨#[]⟩, .slice none 0 0] 24)).alloc (.cells #[.func (.func 10) #[] #[], .func (.func 11) #[] #[], .func (.func 12) #[] #[], .func (.func 13) #[] #[], .func (.func 14) #[] #[], .func (.func 15) #[] #[]] 31))) := Lib.hid (((Below.refl _ w).alloc (Nat.le_refl _) _).alloc (by simp) _)
  have K := implKn4 ((w.alloc (.cells #[.int .i64 0, .string ⟨#[]⟩, .slice none 0 0] 24)).alloc (.cells #[.func (.func 10) #[] #[], .func (.func 11) #[] #[], .func (.func 12) #[] #[], .func (.func 13) #[] #[], .func (.func 14) #[] #[], .func (.func 15) #[] #[]] 31))
  have fk : ((w.alloc (.cells #[.int .i64 0, .string ⟨#[]⟩, .slice none 0 0] 24)).alloc (.cells #[.func (.func 10) #[] #[], .func (.func 11) #[] #[], .func (.func 12) #[] #[], .func (.func 13) #[] #[], .func (.func 14) #[] #[], .func (.func 15) #[] #[]] 31)).cell? ⟨w.heap.size + 1, 4, none⟩ = some (.func (.func 14) #[] #[]) := f0.out.cell 4
  go_enter Tryd.func5, Tryd.ntmps5
  go_wp2_with fail
  refine K.mono ?_
  rintro e w1 ⟨A, m, c, us, rfl, s1, hm, l1, b1⟩
  clear K
  have P1 := Lib.hid (p0.out.below b1 p0.out.lt)
  have B1 := btr B0.out b1
  have S1 : SS w1 (w.heap.size + 2) (w.heap.size + 2) A m c us (knG 4) := by simpa using s1
  have hs1 : w.heap.size + 2 ≤ w1.heap.size := by have := b1.size; simpa using this
  have y0 := P1.out.cell 0
  have y1 := P1.out.cell 1
  have y2 := P1.out.cell 2
  have g0 := P1.out.frozen 0
  have g1 := P1.out.frozen 1
  have g2 := P1.out.frozen 2
  go_wp2_with fail
  obtain ⟨W2, e2⟩ : ∃ W2, w1.setCell ⟨w.heap.size, 0, none⟩ (.int .i64 12) = W2 := ⟨_, rfl⟩
  obtain ⟨W3, e3⟩ : ∃ W3, W2.setCell ⟨w.heap.size, 1, none⟩ (.string ⟨#[65, 66, 67, 68]⟩) = W3 := ⟨_, rfl⟩
  obtain ⟨W4, e4⟩ : ∃ W4, W3.setCell ⟨w.heap.size, 2, none⟩ (.slice A m c) = W4 := ⟨_, rfl⟩
  rw [e2, e3, e4]
  have D2 : Blk W2 w.heap.size 24 #[.int .i64 12, .string ⟨#[]⟩, .slice none 0 0] := by rw [← e2]; exact P1.out.set_ 0 _
  have D3 : Blk W3 w.heap.size 24 #[.int .i64 12, .string ⟨#[65, 66, 67, 68]⟩, .slice none 0 0] := by rw [← e3]; exact D2.set_ 1 _
  have D4 : Blk W4 w.heap.size 24 #[.int .i64 12, .string ⟨#[65, 66, 67, 68]⟩, .slice A m c] := by rw [← e4]; exact D3.set_ 2 _
  have r1 := D4.cell 0
  have r2 := D4.cell 1
  have r3 := D4.cell 2
  have Be : Below w.heap.size w W4 := by
    rw [← e4, ← e3, ← e2]
    exact ((B1.setCell (p := ⟨w.heap.size, 0, none⟩) (Nat.le_refl _) _).setCell (p := ⟨w.heap.size, 1, none⟩) (Nat.le_refl _) _).setCell (p := ⟨w.heap.size, 2, none⟩) (Nat.le_refl _) _
  have LA := S1.lt_
  have LI := fun t ht => (S1.row t ht).lt_
  have S6 := (S1).farR (w' := W2) (r := w.heap.size) (by rw [← e2]; exact grown_set (grown_refl _ _) _ _) LA LI (.inl (by simp))
  have S7 := (S6).farR (w' := W3) (r := w.heap.size) (by rw [← e3]; exact grown_set (grown_refl _ _) _ _) LA LI (.inl (by simp))
  have S8 := (S7).farR (w' := W4) (r := w.heap.size) (by rw [← e4]; exact grown_set (grown_refl _ _) _ _) LA LI (.inl (by simp))
  clear e2 e3 e4
  exact bodyPost_ret (v := .tuple #[.agg #[.int .i64 12, .string ⟨#[65, 66, 67, 68]⟩, .slice A m c], .bool true]) (by simp [results, Tryd.results5, r1, r2, r3, go_sem]) rfl ⟨A, m, c, us, rfl, S8.mono (by simp) (by simp), by omega, l1, Be⟩
set_option maxHeartbeats 4000000 in
set_option maxRecDepth 100000 in
theorem implKP5 (w : World) :
    Calls Tryd.prog 5 #[.int .i64 5] w fun e w' => ∃ A m c us, e = .returned (.tuple #[.agg #[.int .i64 12, .string ⟨#[65, 66, 67, 68]⟩, .slice A m c], .bool true]) ∧ SS w' w.heap.size w.heap.size A m c us (knG 5) ∧ m ≤ 4 ∧ (∀ i, i < m → (us.getD i sd0).2.1 ≤ 20) ∧ Below w.heap.size w w' := by
  have p0 : Hid (Blk ((w.alloc (.cells #[.int .i64 0, .string ⟨#[]⟩, .slice none 0 0] 24)).alloc (.cells #[.func (.func 10) #[] #[], .func (.func 11) #[] #[], .func (.func 12) #[] #[], .func (.func 13) #[] #[], .func (.func 14) #[] #[], .func (.func 15) #[] #[]] 31)) w.heap.size 24 #[.int .i64 0, .string ⟨#[]⟩, .slice none 0 0]) := Lib.hid ((Blk.new w _ _).alloc _)
  have f0 : Hid (Blk ((w.alloc (.cells #[.int .i64 0, .string ⟨#[]⟩, .slice none 0 0] 24)).alloc (.cells #[.func (.func 10) #[] #[], .func (.func 11) #[] #[], .func (.func 12) #[] #[], .func (.func 13) #[] #[], .func (.func 14) #[] #[], .func (.func 15) #[] #[]] 31)) (w.heap.size + 1) 31 #[.func (.func 10) #[] #[], .func (.func 11) #[] #[], .func (.func 12) #[] #[], .func (.func 13) #[] #[], .func (.func 14) #[] #[], .func (.func 15) #[] #[]]) := Lib.hid (by
    have := Blk.new (w.alloc (.cells #[.int .i64 0, .string ⟨#[]⟩, .slice none 0 0] 24)) 31 #[.func (.func 10) #[] #[], .func (.func 11) #[] #[], .func (.func 12) #[] #[], .func (.func 13) #[] #[], .func (.func 14) #[] #[], .func (.func 15) #[] #[]]; rw [World.size_alloc] at this; exact this)
  have B0 : Hid (Below w.heap.size w ((w.alloc (.cells #[.int .i64 0, .string ⟨#[]⟩, .slice none 0 0] 24)).alloc (.cells #[.func (.func 10) #[] #[], .func (.func 11) #[] #[], .func (.func 12) #[] #[], .func (.func 13) #[] #[], .func (.func 14) #[] #[], .func (.func 15) #[] #[]] 31))) := Lib.hid (((Below.refl _ w).alloc (Nat.le_refl _) _).alloc (by simp) _)
  have K := implKn5 ((w.alloc (.cells #[.int .i64 0, .string ⟨#[]⟩, .slice none 0 0] 24)).alloc (.cells #[.func (.func 10) #[] #[], .func (.func 11) #[] #[], .func (.func 12) #[] #[], .func (.func 13) #[] #[], .func (.func 14) #[] #[], .func (.func 15) #[] #[]] 31))
  have fk : ((w.alloc (.cells #[.int .i64 0, .string ⟨#[]⟩, .slice none 0 0] 24)).alloc (.cells #[.func (.func 10) #[] #[], .func (.func 11) #[] #[], .func (.func 12) #[] #[], .func (.func 13) #[] #[], .func (.func 14) #[] #[], .func (.func 15) #[] #[]] 31)).cell? ⟨w.heap.size + 1, 5, none⟩ = some (.func (.func 15) #[] #[]) := f0.out.cell 5
  go_enter Tryd.func5, Tryd.ntmps5
  go_wp2_with fail
  refine K.mono ?_
  rintro e w1 ⟨A, m, c, us, rfl, s1, hm, l1, b1⟩
  clear K
  have P1 := Lib.hid (p0.out.below b1 p0.out.lt)
  have B1 := btr B0.out b1
  have S1 : SS w1 (w.heap.size + 2) (w.heap.size + 2) A m c us (knG 5) := by simpa using s1
  have hs1 : w.heap.size + 2 ≤ w1.heap.size := by have := b1.size; simpa using this
  have y0 := P1.out.cell 0
  have y1 := P1.out.cell 1
  have y2 := P1.out.cell 2
  have g0 := P1.out.frozen 0
  have g1 := P1.out.frozen 1
  have g2 := P1.out.frozen 2
  go_wp2_with fail
  obtain ⟨W2, e2⟩ : ∃ W2, w1.setCell ⟨w.heap.size, 0, none⟩ (.int .i64 12) = W2 := ⟨_, rfl⟩
  obtain ⟨W3, e3⟩ : ∃ W3, W2.setCell ⟨w.heap.size, 1, none⟩ (.string ⟨#[65, 66, 67, 68]⟩) = W3 := ⟨_, rfl⟩
  obtain ⟨W4, e4⟩ : ∃ W4, W3.setCell ⟨w.heap.size, 2, none⟩ (.slice A m c) = W4 := ⟨_, rfl⟩
  rw [e2, e3, e4]
  have D2 : Blk W2 w.heap.size 24 #[.int .i64 12, .string ⟨#[]⟩, .slice none 0 0] := by rw [← e2]; exact P1.out.set_ 0 _
  have D3 : Blk W3 w.heap.size 24 #[.int .i64 12, .string ⟨#[65, 66, 67, 68]⟩, .slice none 0 0] := by rw [← e3]; exact D2.set_ 1 _
  have D4 : Blk W4 w.heap.size 24 #[.int .i64 12, .string ⟨#[65, 66, 67, 68]⟩, .slice A m c] := by rw [← e4]; exact D3.set_ 2 _
  have r1 := D4.cell 0
  have r2 := D4.cell 1
  have r3 := D4.cell 2
  have Be : Below w.heap.size w W4 := by
    rw [← e4, ← e3, ← e2]
    exact ((B1.setCell (p := ⟨w.heap.size, 0, none⟩) (Nat.le_refl _) _).setCell (p := ⟨w.heap.size, 1, none⟩) (Nat.le_refl _) _).setCell (p := ⟨w.heap.size, 2, none⟩) (Nat.le_refl _) _
  have LA := S1.lt_
  have LI := fun t ht => (S1.row t ht).lt_
  have S6 := (S1).farR (w' := W2) (r := w.heap.size) (by rw [← e2]; exact grown_set (grown_refl _ _) _ _) LA LI (.inl (by simp))
  have S7 := (S6).farR (w' := W3) (r := w.heap.size) (by rw [← e3]; exact grown_set (grown_refl _ _) _ _) LA LI (.inl (by simp))
  have S8 := (S7).farR (w' := W4) (r := w.heap.size) (by rw [← e4]; exact grown_set (grown_refl _ _) _ _) LA LI (.inl (by simp))
  clear e2 e3 e4
  exact bodyPost_ret (v := .tuple #[.agg #[.int .i64 12, .string ⟨#[65, 66, 67, 68]⟩, .slice A m c], .bool true]) (by simp [results, Tryd.results5, r1, r2, r3, go_sem]) rfl ⟨A, m, c, us, rfl, S8.mono (by simp) (by simp), by omega, l1, Be⟩
set_option maxHeartbeats 4000000 in
set_option maxRecDepth 100000 in
theorem implKPX (k : Int) (w : World) (h : k < 0 ∨ 6 ≤ k) :
    Calls Tryd.prog 5 #[.int .i64 k] w fun e w' => ∃ A m c us, e = .returned (.tuple #[.agg #[.int .i64 0, .string ⟨#[]⟩, .slice A m c], .bool false]) ∧ SS w' w.heap.size w.heap.size A m c us (knG 9) ∧ m ≤ 4 ∧ (∀ i, i < m → (us.getD i sd0).2.1 ≤ 20) ∧ Below w.heap.size w w' := by
  have p0 : Hid (Blk ((w.alloc (.cells #[.int .i64 0, .string ⟨#[]⟩, .slice none 0 0] 24)).alloc (.cells #[.func (.func 10) #[] #[], .func (.func 11) #[] #[], .func (.func 12) #[] #[], .func (.func 13) #[] #[], .func (.func 14) #[] #[], .func (.func 15) #[] #[]] 31)) w.heap.size 24 #[.int .i64 0, .string ⟨#[]⟩, .slice none 0 0]) := Lib.hid ((Blk.new w _ _).alloc _)
  have B0 : Below w.heap.size w ((w.alloc (.cells #[.int .i64 0, .string ⟨#[]⟩, .slice none 0 0] 24)).alloc (.cells #[.func (.func 10) #[] #[], .func (.func 11) #[] #[], .func (.func 12) #[] #[], .func (.func 13) #[] #[], .func (.func 14) #[] #[], .func (.func 15) #[] #[]] 31)) := ((Below.refl _ w).alloc (Nat.le_refl _) _).alloc (by simp) _
  obtain ⟨W1, eW⟩ : ∃ W1, ((w.alloc (.cells #[.int .i64 0, .string ⟨#[]⟩, .slice none 0 0] 24)).alloc (.cells #[.func (.func 10) #[] #[], .func (.func 11) #[] #[], .func (.func 12) #[] #[], .func (.func 13) #[] #[], .func (.func 14) #[] #[], .func (.func 15) #[] #[]] 31)) = W1 := ⟨_, rfl⟩
  rw [eW] at p0 B0
  have y0 := p0.out.cell 0
  have y1 := p0.out.cell 1
  have y2 := p0.out.cell 2
  have g0 := p0.out.frozen 0
  have g1 := p0.out.frozen 1
  have g2 := p0.out.frozen 2
  have Q2 : ∀ (W : World), Blk W w.heap.size 24 #[.int .i64 0, .string ⟨#[]⟩, .slice none 0 0] → Below w.heap.size w W → ∃ W4, ((W.setCell ⟨w.heap.size, 0, none⟩ (.int .i64 0)).setCell ⟨w.heap.size, 1, none⟩ (.string ⟨#[]⟩)).setCell ⟨w.heap.size, 2, none⟩ (.slice none 0 0) = W4 ∧ Blk W4 w.heap.size 24 #[.int .i64 0, .string ⟨#[]⟩, .slice none 0 0] ∧ Below w.heap.size w W4 := fun W a b =>
    ⟨_, rfl, ((a.set_ 0 (.int .i64 0)).set_ 1 (.string ⟨#[]⟩)).set_ 2 (.slice none 0 0), ((b.setCell (p := ⟨w.heap.size, 0, none⟩) (Nat.le_refl _) _).setCell (p := ⟨w.heap.size, 1, none⟩) (Nat.le_refl _) _).setCell (p := ⟨w.heap.size, 2, none⟩) (Nat.le_refl _) _⟩
  obtain ⟨W4, e4, D4, Be⟩ := Q2 W1 p0.out B0
  have r1 := D4.cell 0
  have r2 := D4.cell 1
  have r3 := D4.cell 2
  rcases h with h | h
  · have d0 : decide (k < 0) = true := decide_eq_true h
    go_enter Tryd.func5, Tryd.ntmps5
    go_wp2_with fail
    try rw [eW]
    go_wp2_with fail
    try rw [e4]
    exact bodyPost_ret (v := .tuple #[.agg #[.int .i64 0, .string ⟨#[]⟩, .slice none 0 0], .bool false]) (by simp [results, Tryd.results5, r1, r2, r3, go_sem]) rfl ⟨none, 0, 0, [], rfl, SS.nil_, by omega, fun i hi => absurd hi (by omega), Be⟩
  · have d0 : decide (k < 0) = false := by simp; omega
    have d1 : decide ((6 : Int) ≤ k) = true := by simp; omega
    go_enter Tryd.func5, Tryd.ntmps5
    go_wp2_with fail
    try rw [eW]
    go_wp2_with fail
    try rw [e4]
    exact bodyPost_ret (v := .tuple #[.agg #[.int .i64 0, .string ⟨#[]⟩, .slice none 0 0], .bool false]) (by simp [results, Tryd.results5, r1, r2, r3, go_sem]) rfl ⟨none, 0, 0, [], rfl, SS.nil_, by omega, fun i hi => absurd hi (by omega), Be⟩
/-- KnownPuzzle. -/
theorem implKnownPuzzle (k : Int) (w : World) :
    Calls Tryd.prog 5 #[.int .i64 k] w fun e w' => ∃ A m c us, e = .returned (.tuple #[.agg #[.int .i64 (knN k), .string (knS k), .slice A m c], .bool (knB k)]) ∧ SS w' w.heap.size w.heap.size A m c us (knG k) ∧ m ≤ 4 ∧ (∀ i, i < m → (us.getD i sd0).2.1 ≤ 20) ∧ Below w.heap.size w w' := by
  by_cases h0 : k = 0
  · subst h0; exact implKP0 w
  by_cases h1 : k = 1
  · subst h1; exact implKP1 w
  by_cases h2 : k = 2
  · subst h2; exact implKP2 w
  by_cases h3 : k = 3
  · subst h3; exact implKP3 w
  by_cases h4 : k = 4
  · subst h4; exact implKP4 w
  by_cases h5 : k = 5
  · subst h5; exact implKP5 w
  have e1 : knN k = 0 := by simp [knN, h0, h1, h2, h3, h4, h5]
  have e2 : knS k = ⟨#[]⟩ := by simp [knS, h0, h1, h2, h3, h4, h5]
  have e3 : knG k = knG 9 := by simp [knG, h0, h1, h2, h3, h4, h5]
  have e4 : knB k = false := by simp [knB]; omega
  rw [e1, e2, e3, e4]; exact implKPX k w (by omega)
end Go.Proofs.YtkjokchhffjidaaDoor

/- The walk of the law FnExactKnownPuzzle: it returns true at every input, and writes nothing that was there. No condition. -/
namespace Go.Proofs.YtkjokchhffjidaaDoor
open Go.RowKit

set_option maxHeartbeats 8000000 in
set_option maxRecDepth 100000 in
theorem lawKnownPuzzle (k : Int) (w : World) :
    Calls Tryd.prog 3 #[.int .i64 k] w fun e w' => e = .returned (.bool true) ∧ Below w.heap.size w w' := by
  obtain ⟨z, s, b, gs, KS, KI⟩ : ∃ (z : Int) (s : ByteArray) (b : Bool) (gs : List (List Int)), (∀ (w : World), Calls Tryd.prog 4 #[.int .i64 k] w fun e w' => ∃ A m c us, e = .returned (.tuple #[.agg #[.int .i64 z, .string s, .slice A m c], .bool b]) ∧ SS w' w.heap.size w.heap.size A m c us gs ∧ m ≤ 4 ∧ (∀ i, i < m → (us.getD i sd0).2.1 ≤ 20) ∧ Below w.heap.size w w') ∧ (∀ (w : World), Calls Tryd.prog 5 #[.int .i64 k] w fun e w' => ∃ A m c us, e = .returned (.tuple #[.agg #[.int .i64 z, .string s, .slice A m c], .bool b]) ∧ SS w' w.heap.size w.heap.size A m c us gs ∧ m ≤ 4 ∧ (∀ i, i < m → (us.getD i sd0).2.1 ≤ 20) ∧ Below w.heap.size w w') := ⟨knN k, knS k, knB k, knG k, fun w => specKnownPuzzle k w, fun w => implKnownPuzzle k w⟩
  have ne0 : (b != b) = false := by simp
  go_enter Tryd.func3, Tryd.ntmps3
  go_wp2_with fail
  refine (KS w).mono ?_
  rintro e w1 ⟨A1, m1, c1, us1, rfl, s1, hm1, l1, b1⟩
  have B1 : Hid (Below w.heap.size w w1) := Lib.hid b1
  have Z1 : Hid (w.heap.size ≤ w1.heap.size) := Lib.hid b1.size
  clear b1
  have X1 := Lib.hid s1
  have LX := Lib.hid l1
  have OX : Hid (∀ k, (Value.slice A1 m1 c1).ownBlock = some k → w.heap.size ≤ k ∧ k < w1.heap.size) := Lib.hid s1.lt_
  have IX : Hid (∀ t, t < m1 → ∀ k, (sval (us1.getD t sd0)).ownBlock = some k → w.heap.size ≤ k ∧ k < w1.heap.size) := Lib.hid fun t ht => (s1.row t ht).lt_
  have YX : Hid (∀ i, i < m1 → (gs.getD i []).length ≤ 1048576) := Lib.hid fun j hj => by have h1 := s1.rr.lens j hj; have h2 := l1 j hj; omega
  clear s1 l1
  have ba1 : Below w1.heap.size w1 (w1.alloc (.cells #[.int .i64 z, .string s, .slice A1 m1 c1] 24)) := (Below.refl _ _).alloc (Nat.le_refl _) _
  obtain ⟨V1, hV1⟩ : ∃ V1, w1.alloc (.cells #[.int .i64 z, .string s, .slice A1 m1 c1] 24) = V1 := ⟨_, rfl⟩
  rw [hV1] at ba1
  have zV1 : Hid (V1.heap.size = w1.heap.size + 1) := Lib.hid (by rw [← hV1]; simp)
  have BXv : Hid (Blk V1 w1.heap.size 24 #[.int .i64 z, .string s, .slice A1 m1 c1]) := Lib.hid (hV1 ▸ Blk.new w1 _ _)
  have BX_n0 := BXv.out.cell 0
  have BX_n1 := BXv.out.cell 1
  have BX_n2 := BXv.out.cell 2
  have Xv1 := Lib.hid (X1.out.up ba1)
  clear X1
  have BV1 : Hid (Below w.heap.size w V1) := Lib.hid (btr B1.out ba1)
  go_wp2_with fail
  try rw [hV1]
  clear hV1 ba1 BX_n0 BX_n1 BX_n2
  refine (KI V1).mono ?_
  rintro e w2 ⟨A2, m2, c2, us2, rfl, s2, hm2, l2, b2⟩
  have B2 : Hid (Below w.heap.size w w2) := Lib.hid (btr BV1.out b2)
  have Z2 : Hid (V1.heap.size ≤ w2.heap.size) := Lib.hid b2.size
  have X2 := Lib.hid (Xv1.out.up b2)
  clear Xv1
  have BX2 := Lib.hid (BXv.out.up b2)
  clear BXv
  clear b2
  have G2 := Lib.hid s2
  have LG := Lib.hid l2
  have OG : Hid (∀ k, (Value.slice A2 m2 c2).ownBlock = some k → V1.heap.size ≤ k ∧ k < w2.heap.size) := Lib.hid s2.lt_
  have IG : Hid (∀ t, t < m2 → ∀ k, (sval (us2.getD t sd0)).ownBlock = some k → V1.heap.size ≤ k ∧ k < w2.heap.size) := Lib.hid fun t ht => (s2.row t ht).lt_
  have YG : Hid (∀ i, i < m2 → (gs.getD i []).length ≤ 1048576) := Lib.hid fun j hj => by have h1 := s2.rr.lens j hj; have h2 := l2 j hj; omega
  clear s2 l2
  have ba2 : Below w2.heap.size w2 (w2.alloc (.cells #[.int .i64 z, .string s, .slice A2 m2 c2] 24)) := (Below.refl _ _).alloc (Nat.le_refl _) _
  obtain ⟨V2, hV2⟩ : ∃ V2, w2.alloc (.cells #[.int .i64 z, .string s, .slice A2 m2 c2] 24) = V2 := ⟨_, rfl⟩
  rw [hV2] at ba2
  have zV2 : Hid (V2.heap.size = w2.heap.size + 1) := Lib.hid (by rw [← hV2]; simp)
  have BGv : Hid (Blk V2 w2.heap.size 24 #[.int .i64 z, .string s, .slice A2 m2 c2]) := Lib.hid (hV2 ▸ Blk.new w2 _ _)
  have BG_n0 := BGv.out.cell 0
  have BG_n1 := BGv.out.cell 1
  have BG_n2 := BGv.out.cell 2
  have Xv2 := Lib.hid (X2.out.up ba2)
  clear X2
  have BXv2 := Lib.hid (BX2.out.up ba2)
  clear BX2
  have Gv2 := Lib.hid (G2.out.up ba2)
  clear G2
  have BV2 : Hid (Below w.heap.size w V2) := Lib.hid (btr B2.out ba2)
  have BX_n0 := BXv2.out.cell 0
  have BX_n1 := BXv2.out.cell 1
  have BX_n2 := BXv2.out.cell 2
  go_wp2_with fail
  try rw [hV2]
  clear hV2 ba2 BG_n0 BG_n1 BG_n2 BX_n0 BX_n1 BX_n2
  refine (eqPz z s A2 A1 m2 c2 m1 c1 us2 us1 gs V2 Gv2.out.rr Xv2.out.rr (by omega) YG).mono ?_
  rintro e w3 ⟨rfl, b3⟩
  have B3 : Hid (Below w.heap.size w w3) := Lib.hid (btr BV2.out b3)
  have Z3 : Hid (V2.heap.size ≤ w3.heap.size) := Lib.hid b3.size
  have X3 := Lib.hid (Xv2.out.up b3)
  clear Xv2
  have BX3 := Lib.hid (BXv2.out.up b3)
  clear BXv2
  have G3 := Lib.hid (Gv2.out.up b3)
  clear Gv2
  have BG3 := Lib.hid (BGv.out.up b3)
  clear BGv
  clear b3
  have hT : Hid (tot us2 m2 ≤ 1048576) := Lib.hid (by have h1 := tot_le_mul (vs := us2) (n := m2) (m := 20) LG.out; omega)
  have BX_0 := BX3.out.cell 0
  have BX_1 := BX3.out.cell 1
  have BX_2 := BX3.out.cell 2
  have BG_0 := BG3.out.cell 0
  have BG_1 := BG3.out.cell 1
  have BG_2 := BG3.out.cell 2
  go_wp2_with fail
  refine (markPz z s A2 m2 c2 _ _ us2 gs w3 G3.out (by omega) hT).mono ?_
  rintro e w4 ⟨rfl, s4, o4⟩
  clear BX_0 BX_1 BX_2
  clear BG_0 BG_1 BG_2
  have Z4 : Hid (w3.heap.size ≤ w4.heap.size) := Lib.hid o4.size
  have B4 : Hid (Below w.heap.size w w4) := Lib.hid (B3.out.trans (o4.below B3.out.size (fun t ht k e => by have h2 := IG.out t ht k e; have := Z1.out; have := Z2.out; have := Z3.out; have := zV1.out; have := zV2.out; omega)))
  have BX4 : Hid (Blk w4 _ _ _) := Lib.hid ((o4.block _ BX3.out.lt (fun t ht e => by have h2 := IG.out t ht _ e; have := Z1.out; have := Z2.out; have := Z3.out; have := zV1.out; have := zV2.out; omega)).trans BX3.out)
  clear BX3
  have BG4 : Hid (Blk w4 _ _ _) := Lib.hid ((o4.block _ BG3.out.lt (fun t ht e => by have h2 := IG.out t ht _ e; have := Z1.out; have := Z2.out; have := Z3.out; have := zV1.out; have := zV2.out; omega)).trans BG3.out)
  clear BG3
  have X4 := Lib.hid (X3.out.only2 o4 (fun k hk t ht e => by have h1 := OX.out k hk; have h2 := IG.out t ht k e; have := Z1.out; have := Z2.out; have := Z3.out; have := zV1.out; have := zV2.out; omega) (fun s hs k hk t ht e => by have h1 := IX.out s hs k hk; have h2 := IG.out t ht k e; have := Z1.out; have := Z2.out; have := Z3.out; have := zV1.out; have := zV2.out; omega))
  clear X3
  have G4 := Lib.hid s4
  clear G3 s4 o4
  obtain ⟨T, eT⟩ : ∃ T, tot us2 m2 = T := ⟨_, rfl⟩
  have HT := hT.out
  rw [eT] at HT
  have ET := Lib.hid eT
  rw [eT]
  clear eT
  have d0 : decide ((1 + (T : Int)) < 0) = false := by simp; omega
  have d1 : ((1 + (T : Int)) != (1 + (T : Int))) = false := by simp
  have BX_0 := BX4.out.cell 0
  have BX_1 := BX4.out.cell 1
  have BX_2 := BX4.out.cell 2
  have BG_0 := BG4.out.cell 0
  have BG_1 := BG4.out.cell 1
  have BG_2 := BG4.out.cell 2
  go_wp2_with fail
  refine (heldPz z s A2 m2 c2 _ _ us2 w4 G4.out (by omega) hT).mono ?_
  rintro e w5 ⟨rfl, b5⟩
  clear BX_0 BX_1 BX_2
  clear BG_0 BG_1 BG_2
  have B5 : Hid (Below w.heap.size w w5) := Lib.hid (btr B4.out b5)
  have Z5 : Hid (w4.heap.size ≤ w5.heap.size) := Lib.hid b5.size
  have X5 := Lib.hid (X4.out.up b5)
  clear X4
  have BX5 := Lib.hid (BX4.out.up b5)
  clear BX4
  have G5 := Lib.hid (G4.out.up b5)
  clear G4
  have BG5 := Lib.hid (BG4.out.up b5)
  clear BG4
  clear b5
  rw [ET.out]
  have BX_0 := BX5.out.cell 0
  have BX_1 := BX5.out.cell 1
  have BX_2 := BX5.out.cell 2
  have BG_0 := BG5.out.cell 0
  have BG_1 := BG5.out.cell 1
  have BG_2 := BG5.out.cell 2
  go_wp2_with fail
  refine (KI w5).mono ?_
  rintro e w6 ⟨A6, m6, c6, us6, rfl, s6, hm6, l6, b6⟩
  clear BX_0 BX_1 BX_2
  clear BG_0 BG_1 BG_2
  have B6 : Hid (Below w.heap.size w w6) := Lib.hid (btr B5.out b6)
  have Z6 : Hid (w5.heap.size ≤ w6.heap.size) := Lib.hid b6.size
  have X6 := Lib.hid (X5.out.up b6)
  clear X5
  have BX6 := Lib.hid (BX5.out.up b6)
  clear BX5
  have G6 := Lib.hid (G5.out.up b6)
  clear G5
  have BG6 := Lib.hid (BG5.out.up b6)
  clear BG5
  clear b6
  have H6 := Lib.hid s6
  have LH := Lib.hid l6
  have OH : Hid (∀ k, (Value.slice A6 m6 c6).ownBlock = some k → w5.heap.size ≤ k ∧ k < w6.heap.size) := Lib.hid s6.lt_
  have IH : Hid (∀ t, t < m6 → ∀ k, (sval (us6.getD t sd0)).ownBlock = some k → w5.heap.size ≤ k ∧ k < w6.heap.size) := Lib.hid fun t ht => (s6.row t ht).lt_
  have YH : Hid (∀ i, i < m6 → (gs.getD i []).length ≤ 1048576) := Lib.hid fun j hj => by have h1 := s6.rr.lens j hj; have h2 := l6 j hj; omega
  clear s6 l6
  have ba3 : Below w6.heap.size w6 (w6.alloc (.cells #[.int .i64 z, .string s, .slice A6 m6 c6] 24)) := (Below.refl _ _).alloc (Nat.le_refl _) _
  obtain ⟨V3, hV3⟩ : ∃ V3, w6.alloc (.cells #[.int .i64 z, .string s, .slice A6 m6 c6] 24) = V3 := ⟨_, rfl⟩
  rw [hV3] at ba3
  have zV3 : Hid (V3.heap.size = w6.heap.size + 1) := Lib.hid (by rw [← hV3]; simp)
  have BHv : Hid (Blk V3 w6.heap.size 24 #[.int .i64 z, .string s, .slice A6 m6 c6]) := Lib.hid (hV3 ▸ Blk.new w6 _ _)
  have BH_n0 := BHv.out.cell 0
  have BH_n1 := BHv.out.cell 1
  have BH_n2 := BHv.out.cell 2
  have Xv3 := Lib.hid (X6.out.up ba3)
  clear X6
  have BXv3 := Lib.hid (BX6.out.up ba3)
  clear BX6
  have Gv3 := Lib.hid (G6.out.up ba3)
  clear G6
  have BGv3 := Lib.hid (BG6.out.up ba3)
  clear BG6
  have Hv3 := Lib.hid (H6.out.up ba3)
  clear H6
  have BV3 : Hid (Below w.heap.size w V3) := Lib.hid (btr B6.out ba3)
  have BX_n0 := BXv3.out.cell 0
  have BX_n1 := BXv3.out.cell 1
  have BX_n2 := BXv3.out.cell 2
  have BG_n0 := BGv3.out.cell 0
  have BG_n1 := BGv3.out.cell 1
  have BG_n2 := BGv3.out.cell 2
  go_wp2_with fail
  try rw [hV3]
  clear hV3 ba3 BH_n0 BH_n1 BH_n2 BX_n0 BX_n1 BX_n2 BG_n0 BG_n1 BG_n2
  refine (eqPz z s A6 A1 m6 c6 m1 c1 us6 us1 gs V3 Hv3.out.rr Xv3.out.rr (by omega) YH).mono ?_
  rintro e w7 ⟨rfl, b7⟩
  have B7 : Hid (Below w.heap.size w w7) := Lib.hid (btr BV3.out b7)
  have Z7 : Hid (V3.heap.size ≤ w7.heap.size) := Lib.hid b7.size
  have X7 := Lib.hid (Xv3.out.up b7)
  clear Xv3
  have BX7 := Lib.hid (BXv3.out.up b7)
  clear BXv3
  have G7 := Lib.hid (Gv3.out.up b7)
  clear Gv3
  have BG7 := Lib.hid (BGv3.out.up b7)
  clear BGv3
  have H7 := Lib.hid (Hv3.out.up b7)
  clear Hv3
  have BH7 := Lib.hid (BHv.out.up b7)
  clear BHv
  clear b7
  have BX_0 := BX7.out.cell 0
  have BX_1 := BX7.out.cell 1
  have BX_2 := BX7.out.cell 2
  have BG_0 := BG7.out.cell 0
  have BG_1 := BG7.out.cell 1
  have BG_2 := BG7.out.cell 2
  have BH_0 := BH7.out.cell 0
  have BH_1 := BH7.out.cell 1
  have BH_2 := BH7.out.cell 2
  go_wp2_with fail
  refine (heldPz z s A2 m2 c2 _ _ us2 w7 G7.out (by omega) hT).mono ?_
  rintro e w8 ⟨rfl, b8⟩
  clear BX_0 BX_1 BX_2
  clear BG_0 BG_1 BG_2
  clear BH_0 BH_1 BH_2
  have B8 : Hid (Below w.heap.size w w8) := Lib.hid (btr B7.out b8)
  have Z8 : Hid (w7.heap.size ≤ w8.heap.size) := Lib.hid b8.size
  have X8 := Lib.hid (X7.out.up b8)
  clear X7
  have BX8 := Lib.hid (BX7.out.up b8)
  clear BX7
  have G8 := Lib.hid (G7.out.up b8)
  clear G7
  have BG8 := Lib.hid (BG7.out.up b8)
  clear BG7
  have H8 := Lib.hid (H7.out.up b8)
  clear H7
  have BH8 := Lib.hid (BH7.out.up b8)
  clear BH7
  clear b8
  rw [ET.out]
  have BX_0 := BX8.out.cell 0
  have BX_1 := BX8.out.cell 1
  have BX_2 := BX8.out.cell 2
  have BG_0 := BG8.out.cell 0
  have BG_1 := BG8.out.cell 1
  have BG_2 := BG8.out.cell 2
  have BH_0 := BH8.out.cell 0
  have BH_1 := BH8.out.cell 1
  have BH_2 := BH8.out.cell 2
  go_wp2_with fail
  go_ret
  exact ⟨rfl, B8.out⟩
end Go.Proofs.YtkjokchhffjidaaDoor
