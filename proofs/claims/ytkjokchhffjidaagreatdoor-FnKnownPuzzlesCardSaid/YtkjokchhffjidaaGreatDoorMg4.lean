/- Part 4 of the texts: KnB, KnC, OrM, Gen, GrpM. No condition of its own: each text tells its own. -/
import Derived.Test.YtkjokchhffjidaaGreatDoorMg3
import Derived.Test.YtkjokchhffjidaaGreatDoorMg1
import Derived.Test.YtkjokchhffjidaaGreatDoorMg2
set_option linter.unusedVariables false
set_option linter.unusedSimpArgs false

/- The model's KnownPuzzle. No condition. -/
namespace Go.Proofs.YtkjokchhffjidaaGreatDoor
open Go.RowKit

set_option maxHeartbeats 4000000 in
set_option maxRecDepth 100000 in
theorem specKn0 (w : World) :
    Calls Tryz.prog 8 #[.int .i64 0] w fun e w' => ∃ A m c us, e = .returned (.tuple #[.agg #[.int .i64 4, .string ⟨#[65, 66, 67]⟩, .slice A m c], .bool true]) ∧ SS w' w.heap.size w.heap.size A m c us (knG 0) ∧ m ≤ 4 ∧ (∀ i, i < m → (us.getD i sd0).2.1 ≤ 20) ∧ Below w.heap.size w w' := by
  have c0 : Hid (Blk ((w.alloc (.cells #[.int .i64 0, .string ⟨#[]⟩, .slice none 0 0] 30)).alloc (.cells #[.string ⟨#[40, 48, 32, 49, 41]⟩, .string ⟨#[40, 49, 32, 50, 41]⟩, .string ⟨#[40, 50, 32, 51, 41]⟩] 9)) (w.heap.size + 1) 9 #[.string ⟨#[40, 48, 32, 49, 41]⟩, .string ⟨#[40, 49, 32, 50, 41]⟩, .string ⟨#[40, 50, 32, 51, 41]⟩]) := Lib.hid (by
    have := Blk.new (w.alloc (.cells #[.int .i64 0, .string ⟨#[]⟩, .slice none 0 0] 30)) 9 #[.string ⟨#[40, 48, 32, 49, 41]⟩, .string ⟨#[40, 49, 32, 50, 41]⟩, .string ⟨#[40, 50, 32, 51, 41]⟩]; rw [World.size_alloc] at this; exact this)
  have p0 : Hid (Blk ((w.alloc (.cells #[.int .i64 0, .string ⟨#[]⟩, .slice none 0 0] 30)).alloc (.cells #[.string ⟨#[40, 48, 32, 49, 41]⟩, .string ⟨#[40, 49, 32, 50, 41]⟩, .string ⟨#[40, 50, 32, 51, 41]⟩] 9)) w.heap.size 30 #[.int .i64 0, .string ⟨#[]⟩, .slice none 0 0]) := Lib.hid ((Blk.new w _ _).alloc _)
  have B0 : Hid (Below w.heap.size w ((w.alloc (.cells #[.int .i64 0, .string ⟨#[]⟩, .slice none 0 0] 30)).alloc (.cells #[.string ⟨#[40, 48, 32, 49, 41]⟩, .string ⟨#[40, 49, 32, 50, 41]⟩, .string ⟨#[40, 50, 32, 51, 41]⟩] 9))) := Lib.hid (((Below.refl _ w).alloc (Nat.le_refl _) _).alloc (by simp) _)
  go_enter Tryz.func8, Tryz.ntmps8
  go_wp2_with fail
  refine (specPuzzleOf 4 (w.heap.size + 1) 3 3 [⟨#[40, 48, 32, 49, 41]⟩, ⟨#[40, 49, 32, 50, 41]⟩, ⟨#[40, 50, 32, 51, 41]⟩] ((w.alloc (.cells #[.int .i64 0, .string ⟨#[]⟩, .slice none 0 0] 30)).alloc (.cells #[.string ⟨#[40, 48, 32, 49, 41]⟩, .string ⟨#[40, 49, 32, 50, 41]⟩, .string ⟨#[40, 50, 32, 51, 41]⟩] 9)) (by decide) (by decide) (by decide) rfl (by simp) (Lib.hid ?_) (Lib.hid ?_) ⟨#[65, 66, 67]⟩ (Lib.hid (by first | rfl | decide))).mono ?_
  · intro j hj
    rw [c0.out.cell j]
    match j, hj with
    | 0, _ => rfl
    | 1, _ => rfl
    | 2, _ => rfl
  · intro j hj
    match j, hj with
    | 0, _ => exact (by decide : (⟨#[40, 48, 32, 49, 41]⟩ : ByteArray).size ≤ 200)
    | 1, _ => exact (by decide : (⟨#[40, 49, 32, 50, 41]⟩ : ByteArray).size ≤ 200)
    | 2, _ => exact (by decide : (⟨#[40, 50, 32, 51, 41]⟩ : ByteArray).size ≤ 200)
  rintro e w1 ⟨A, c, us, rfl, s1, l1, b1⟩
  have P1 := Lib.hid (p0.out.below b1 p0.out.lt)
  have B1 := btr B0.out b1
  have S1 : SS w1 (w.heap.size + 2) (w.heap.size + 2) A 3 c us (knG 0) := by have := s1; rw [show (4 : Int) = ((4 : Nat) : Int) from rfl] at *; rw [show knG 0 = rdC 4 [⟨#[40, 48, 32, 49, 41]⟩, ⟨#[40, 49, 32, 50, 41]⟩, ⟨#[40, 50, 32, 51, 41]⟩] from rd0.symm]; simpa using this
  have hs1 : w.heap.size + 2 ≤ w1.heap.size := by have := b1.size; simpa using this
  have y0 := P1.out.cell 0
  have y1 := P1.out.cell 1
  have y2 := P1.out.cell 2
  have g0 := P1.out.frozen 0
  have g1 := P1.out.frozen 1
  have g2 := P1.out.frozen 2
  go_wp2_with fail
  obtain ⟨W2, e2⟩ : ∃ W2, w1.setCell ⟨w.heap.size, 0, none⟩ (.int .i64 4) = W2 := ⟨_, rfl⟩
  obtain ⟨W3, e3⟩ : ∃ W3, W2.setCell ⟨w.heap.size, 1, none⟩ (.string ⟨#[65, 66, 67]⟩) = W3 := ⟨_, rfl⟩
  obtain ⟨W4, e4⟩ : ∃ W4, W3.setCell ⟨w.heap.size, 2, none⟩ (.slice A 3 c) = W4 := ⟨_, rfl⟩
  rw [e2, e3, e4]
  have D2 : Blk W2 w.heap.size 30 #[.int .i64 4, .string ⟨#[]⟩, .slice none 0 0] := by rw [← e2]; exact P1.out.set_ 0 _
  have D3 : Blk W3 w.heap.size 30 #[.int .i64 4, .string ⟨#[65, 66, 67]⟩, .slice none 0 0] := by rw [← e3]; exact D2.set_ 1 _
  have D4 : Blk W4 w.heap.size 30 #[.int .i64 4, .string ⟨#[65, 66, 67]⟩, .slice A 3 c] := by rw [← e4]; exact D3.set_ 2 _
  have r1 := D4.cell 0
  have r2 := D4.cell 1
  have r3 := D4.cell 2
  have Be : Below w.heap.size w W4 := by
    rw [← e4, ← e3, ← e2]
    exact ((B1.setCell (p := ⟨w.heap.size, 0, none⟩) (Nat.le_refl _) _).setCell (p := ⟨w.heap.size, 1, none⟩) (Nat.le_refl _) _).setCell (p := ⟨w.heap.size, 2, none⟩) (Nat.le_refl _) _
  have LA := S1.lt_
  have LI := fun t ht => (S1.row t ht).lt_
  have S6 := (S1).farR (w' := W2) (r := w.heap.size) (by rw [← e2]; exact grown_set (grown_refl _ _) _ _) LA LI (.inl (by simp))
  have S7 := (S6).farR (w' := W3) (r := w.heap.size) (by rw [← e3]; exact grown_set (grown_refl _ _) _ _) LA LI (.inl (by simp))
  have S8 := (S7).farR (w' := W4) (r := w.heap.size) (by rw [← e4]; exact grown_set (grown_refl _ _) _ _) LA LI (.inl (by simp))
  clear e2 e3 e4
  exact bodyPost_ret (v := .tuple #[.agg #[.int .i64 4, .string ⟨#[65, 66, 67]⟩, .slice A 3 c], .bool true]) (by simp [results, Tryz.results8, r1, r2, r3, go_sem]) rfl ⟨A, 3, c, us, rfl, S8.mono (by simp) (by simp), by omega, l1, Be⟩
set_option maxHeartbeats 4000000 in
set_option maxRecDepth 100000 in
theorem specKn1 (w : World) :
    Calls Tryz.prog 8 #[.int .i64 1] w fun e w' => ∃ A m c us, e = .returned (.tuple #[.agg #[.int .i64 6, .string ⟨#[65, 66]⟩, .slice A m c], .bool true]) ∧ SS w' w.heap.size w.heap.size A m c us (knG 1) ∧ m ≤ 4 ∧ (∀ i, i < m → (us.getD i sd0).2.1 ≤ 20) ∧ Below w.heap.size w w' := by
  have c0 : Hid (Blk ((w.alloc (.cells #[.int .i64 0, .string ⟨#[]⟩, .slice none 0 0] 30)).alloc (.cells #[.string ⟨#[40, 48, 32, 49, 32, 50, 32, 51, 32, 52, 32, 53, 41]⟩, .string ⟨#[40, 48, 32, 50, 41]⟩] 9)) (w.heap.size + 1) 9 #[.string ⟨#[40, 48, 32, 49, 32, 50, 32, 51, 32, 52, 32, 53, 41]⟩, .string ⟨#[40, 48, 32, 50, 41]⟩]) := Lib.hid (by
    have := Blk.new (w.alloc (.cells #[.int .i64 0, .string ⟨#[]⟩, .slice none 0 0] 30)) 9 #[.string ⟨#[40, 48, 32, 49, 32, 50, 32, 51, 32, 52, 32, 53, 41]⟩, .string ⟨#[40, 48, 32, 50, 41]⟩]; rw [World.size_alloc] at this; exact this)
  have p0 : Hid (Blk ((w.alloc (.cells #[.int .i64 0, .string ⟨#[]⟩, .slice none 0 0] 30)).alloc (.cells #[.string ⟨#[40, 48, 32, 49, 32, 50, 32, 51, 32, 52, 32, 53, 41]⟩, .string ⟨#[40, 48, 32, 50, 41]⟩] 9)) w.heap.size 30 #[.int .i64 0, .string ⟨#[]⟩, .slice none 0 0]) := Lib.hid ((Blk.new w _ _).alloc _)
  have B0 : Hid (Below w.heap.size w ((w.alloc (.cells #[.int .i64 0, .string ⟨#[]⟩, .slice none 0 0] 30)).alloc (.cells #[.string ⟨#[40, 48, 32, 49, 32, 50, 32, 51, 32, 52, 32, 53, 41]⟩, .string ⟨#[40, 48, 32, 50, 41]⟩] 9))) := Lib.hid (((Below.refl _ w).alloc (Nat.le_refl _) _).alloc (by simp) _)
  go_enter Tryz.func8, Tryz.ntmps8
  go_wp2_with fail
  refine (specPuzzleOf 6 (w.heap.size + 1) 2 2 [⟨#[40, 48, 32, 49, 32, 50, 32, 51, 32, 52, 32, 53, 41]⟩, ⟨#[40, 48, 32, 50, 41]⟩] ((w.alloc (.cells #[.int .i64 0, .string ⟨#[]⟩, .slice none 0 0] 30)).alloc (.cells #[.string ⟨#[40, 48, 32, 49, 32, 50, 32, 51, 32, 52, 32, 53, 41]⟩, .string ⟨#[40, 48, 32, 50, 41]⟩] 9)) (by decide) (by decide) (by decide) rfl (by simp) (Lib.hid ?_) (Lib.hid ?_) ⟨#[65, 66]⟩ (Lib.hid (by first | rfl | decide))).mono ?_
  · intro j hj
    rw [c0.out.cell j]
    match j, hj with
    | 0, _ => rfl
    | 1, _ => rfl
  · intro j hj
    match j, hj with
    | 0, _ => exact (by decide : (⟨#[40, 48, 32, 49, 32, 50, 32, 51, 32, 52, 32, 53, 41]⟩ : ByteArray).size ≤ 200)
    | 1, _ => exact (by decide : (⟨#[40, 48, 32, 50, 41]⟩ : ByteArray).size ≤ 200)
  rintro e w1 ⟨A, c, us, rfl, s1, l1, b1⟩
  have P1 := Lib.hid (p0.out.below b1 p0.out.lt)
  have B1 := btr B0.out b1
  have S1 : SS w1 (w.heap.size + 2) (w.heap.size + 2) A 2 c us (knG 1) := by have := s1; rw [show (6 : Int) = ((6 : Nat) : Int) from rfl] at *; rw [show knG 1 = rdC 6 [⟨#[40, 48, 32, 49, 32, 50, 32, 51, 32, 52, 32, 53, 41]⟩, ⟨#[40, 48, 32, 50, 41]⟩] from rd1.symm]; simpa using this
  have hs1 : w.heap.size + 2 ≤ w1.heap.size := by have := b1.size; simpa using this
  have y0 := P1.out.cell 0
  have y1 := P1.out.cell 1
  have y2 := P1.out.cell 2
  have g0 := P1.out.frozen 0
  have g1 := P1.out.frozen 1
  have g2 := P1.out.frozen 2
  go_wp2_with fail
  obtain ⟨W2, e2⟩ : ∃ W2, w1.setCell ⟨w.heap.size, 0, none⟩ (.int .i64 6) = W2 := ⟨_, rfl⟩
  obtain ⟨W3, e3⟩ : ∃ W3, W2.setCell ⟨w.heap.size, 1, none⟩ (.string ⟨#[65, 66]⟩) = W3 := ⟨_, rfl⟩
  obtain ⟨W4, e4⟩ : ∃ W4, W3.setCell ⟨w.heap.size, 2, none⟩ (.slice A 2 c) = W4 := ⟨_, rfl⟩
  rw [e2, e3, e4]
  have D2 : Blk W2 w.heap.size 30 #[.int .i64 6, .string ⟨#[]⟩, .slice none 0 0] := by rw [← e2]; exact P1.out.set_ 0 _
  have D3 : Blk W3 w.heap.size 30 #[.int .i64 6, .string ⟨#[65, 66]⟩, .slice none 0 0] := by rw [← e3]; exact D2.set_ 1 _
  have D4 : Blk W4 w.heap.size 30 #[.int .i64 6, .string ⟨#[65, 66]⟩, .slice A 2 c] := by rw [← e4]; exact D3.set_ 2 _
  have r1 := D4.cell 0
  have r2 := D4.cell 1
  have r3 := D4.cell 2
  have Be : Below w.heap.size w W4 := by
    rw [← e4, ← e3, ← e2]
    exact ((B1.setCell (p := ⟨w.heap.size, 0, none⟩) (Nat.le_refl _) _).setCell (p := ⟨w.heap.size, 1, none⟩) (Nat.le_refl _) _).setCell (p := ⟨w.heap.size, 2, none⟩) (Nat.le_refl _) _
  have LA := S1.lt_
  have LI := fun t ht => (S1.row t ht).lt_
  have S6 := (S1).farR (w' := W2) (r := w.heap.size) (by rw [← e2]; exact grown_set (grown_refl _ _) _ _) LA LI (.inl (by simp))
  have S7 := (S6).farR (w' := W3) (r := w.heap.size) (by rw [← e3]; exact grown_set (grown_refl _ _) _ _) LA LI (.inl (by simp))
  have S8 := (S7).farR (w' := W4) (r := w.heap.size) (by rw [← e4]; exact grown_set (grown_refl _ _) _ _) LA LI (.inl (by simp))
  clear e2 e3 e4
  exact bodyPost_ret (v := .tuple #[.agg #[.int .i64 6, .string ⟨#[65, 66]⟩, .slice A 2 c], .bool true]) (by simp [results, Tryz.results8, r1, r2, r3, go_sem]) rfl ⟨A, 2, c, us, rfl, S8.mono (by simp) (by simp), by omega, l1, Be⟩
set_option maxHeartbeats 4000000 in
set_option maxRecDepth 100000 in
theorem specKn2 (w : World) :
    Calls Tryz.prog 8 #[.int .i64 2] w fun e w' => ∃ A m c us, e = .returned (.tuple #[.agg #[.int .i64 6, .string ⟨#[65, 66]⟩, .slice A m c], .bool true]) ∧ SS w' w.heap.size w.heap.size A m c us (knG 2) ∧ m ≤ 4 ∧ (∀ i, i < m → (us.getD i sd0).2.1 ≤ 20) ∧ Below w.heap.size w w' := by
  have c0 : Hid (Blk ((w.alloc (.cells #[.int .i64 0, .string ⟨#[]⟩, .slice none 0 0] 30)).alloc (.cells #[.string ⟨#[40, 48, 32, 49, 32, 50, 32, 51, 41]⟩, .string ⟨#[40, 50, 32, 51, 32, 52, 32, 53, 41]⟩] 9)) (w.heap.size + 1) 9 #[.string ⟨#[40, 48, 32, 49, 32, 50, 32, 51, 41]⟩, .string ⟨#[40, 50, 32, 51, 32, 52, 32, 53, 41]⟩]) := Lib.hid (by
    have := Blk.new (w.alloc (.cells #[.int .i64 0, .string ⟨#[]⟩, .slice none 0 0] 30)) 9 #[.string ⟨#[40, 48, 32, 49, 32, 50, 32, 51, 41]⟩, .string ⟨#[40, 50, 32, 51, 32, 52, 32, 53, 41]⟩]; rw [World.size_alloc] at this; exact this)
  have p0 : Hid (Blk ((w.alloc (.cells #[.int .i64 0, .string ⟨#[]⟩, .slice none 0 0] 30)).alloc (.cells #[.string ⟨#[40, 48, 32, 49, 32, 50, 32, 51, 41]⟩, .string ⟨#[40, 50, 32, 51, 32, 52, 32, 53, 41]⟩] 9)) w.heap.size 30 #[.int .i64 0, .string ⟨#[]⟩, .slice none 0 0]) := Lib.hid ((Blk.new w _ _).alloc _)
  have B0 : Hid (Below w.heap.size w ((w.alloc (.cells #[.int .i64 0, .string ⟨#[]⟩, .slice none 0 0] 30)).alloc (.cells #[.string ⟨#[40, 48, 32, 49, 32, 50, 32, 51, 41]⟩, .string ⟨#[40, 50, 32, 51, 32, 52, 32, 53, 41]⟩] 9))) := Lib.hid (((Below.refl _ w).alloc (Nat.le_refl _) _).alloc (by simp) _)
  go_enter Tryz.func8, Tryz.ntmps8
  go_wp2_with fail
  refine (specPuzzleOf 6 (w.heap.size + 1) 2 2 [⟨#[40, 48, 32, 49, 32, 50, 32, 51, 41]⟩, ⟨#[40, 50, 32, 51, 32, 52, 32, 53, 41]⟩] ((w.alloc (.cells #[.int .i64 0, .string ⟨#[]⟩, .slice none 0 0] 30)).alloc (.cells #[.string ⟨#[40, 48, 32, 49, 32, 50, 32, 51, 41]⟩, .string ⟨#[40, 50, 32, 51, 32, 52, 32, 53, 41]⟩] 9)) (by decide) (by decide) (by decide) rfl (by simp) (Lib.hid ?_) (Lib.hid ?_) ⟨#[65, 66]⟩ (Lib.hid (by first | rfl | decide))).mono ?_
  · intro j hj
    rw [c0.out.cell j]
    match j, hj with
    | 0, _ => rfl
    | 1, _ => rfl
  · intro j hj
    match j, hj with
    | 0, _ => exact (by decide : (⟨#[40, 48, 32, 49, 32, 50, 32, 51, 41]⟩ : ByteArray).size ≤ 200)
    | 1, _ => exact (by decide : (⟨#[40, 50, 32, 51, 32, 52, 32, 53, 41]⟩ : ByteArray).size ≤ 200)
  rintro e w1 ⟨A, c, us, rfl, s1, l1, b1⟩
  have P1 := Lib.hid (p0.out.below b1 p0.out.lt)
  have B1 := btr B0.out b1
  have S1 : SS w1 (w.heap.size + 2) (w.heap.size + 2) A 2 c us (knG 2) := by have := s1; rw [show (6 : Int) = ((6 : Nat) : Int) from rfl] at *; rw [show knG 2 = rdC 6 [⟨#[40, 48, 32, 49, 32, 50, 32, 51, 41]⟩, ⟨#[40, 50, 32, 51, 32, 52, 32, 53, 41]⟩] from rd2.symm]; simpa using this
  have hs1 : w.heap.size + 2 ≤ w1.heap.size := by have := b1.size; simpa using this
  have y0 := P1.out.cell 0
  have y1 := P1.out.cell 1
  have y2 := P1.out.cell 2
  have g0 := P1.out.frozen 0
  have g1 := P1.out.frozen 1
  have g2 := P1.out.frozen 2
  go_wp2_with fail
  obtain ⟨W2, e2⟩ : ∃ W2, w1.setCell ⟨w.heap.size, 0, none⟩ (.int .i64 6) = W2 := ⟨_, rfl⟩
  obtain ⟨W3, e3⟩ : ∃ W3, W2.setCell ⟨w.heap.size, 1, none⟩ (.string ⟨#[65, 66]⟩) = W3 := ⟨_, rfl⟩
  obtain ⟨W4, e4⟩ : ∃ W4, W3.setCell ⟨w.heap.size, 2, none⟩ (.slice A 2 c) = W4 := ⟨_, rfl⟩
  rw [e2, e3, e4]
  have D2 : Blk W2 w.heap.size 30 #[.int .i64 6, .string ⟨#[]⟩, .slice none 0 0] := by rw [← e2]; exact P1.out.set_ 0 _
  have D3 : Blk W3 w.heap.size 30 #[.int .i64 6, .string ⟨#[65, 66]⟩, .slice none 0 0] := by rw [← e3]; exact D2.set_ 1 _
  have D4 : Blk W4 w.heap.size 30 #[.int .i64 6, .string ⟨#[65, 66]⟩, .slice A 2 c] := by rw [← e4]; exact D3.set_ 2 _
  have r1 := D4.cell 0
  have r2 := D4.cell 1
  have r3 := D4.cell 2
  have Be : Below w.heap.size w W4 := by
    rw [← e4, ← e3, ← e2]
    exact ((B1.setCell (p := ⟨w.heap.size, 0, none⟩) (Nat.le_refl _) _).setCell (p := ⟨w.heap.size, 1, none⟩) (Nat.le_refl _) _).setCell (p := ⟨w.heap.size, 2, none⟩) (Nat.le_refl _) _
  have LA := S1.lt_
  have LI := fun t ht => (S1.row t ht).lt_
  have S6 := (S1).farR (w' := W2) (r := w.heap.size) (by rw [← e2]; exact grown_set (grown_refl _ _) _ _) LA LI (.inl (by simp))
  have S7 := (S6).farR (w' := W3) (r := w.heap.size) (by rw [← e3]; exact grown_set (grown_refl _ _) _ _) LA LI (.inl (by simp))
  have S8 := (S7).farR (w' := W4) (r := w.heap.size) (by rw [← e4]; exact grown_set (grown_refl _ _) _ _) LA LI (.inl (by simp))
  clear e2 e3 e4
  exact bodyPost_ret (v := .tuple #[.agg #[.int .i64 6, .string ⟨#[65, 66]⟩, .slice A 2 c], .bool true]) (by simp [results, Tryz.results8, r1, r2, r3, go_sem]) rfl ⟨A, 2, c, us, rfl, S8.mono (by simp) (by simp), by omega, l1, Be⟩
set_option maxHeartbeats 4000000 in
set_option maxRecDepth 100000 in
theorem specKn3 (w : World) :
    Calls Tryz.prog 8 #[.int .i64 3] w fun e w' => ∃ A m c us, e = .returned (.tuple #[.agg #[.int .i64 7, .string ⟨#[65, 66, 67]⟩, .slice A m c], .bool true]) ∧ SS w' w.heap.size w.heap.size A m c us (knG 3) ∧ m ≤ 4 ∧ (∀ i, i < m → (us.getD i sd0).2.1 ≤ 20) ∧ Below w.heap.size w w' := by
  have c0 : Hid (Blk ((w.alloc (.cells #[.int .i64 0, .string ⟨#[]⟩, .slice none 0 0] 30)).alloc (.cells #[.string ⟨#[40, 48, 32, 49, 32, 50, 32, 51, 41]⟩, .string ⟨#[40, 49, 32, 50, 32, 54, 32, 53, 41]⟩, .string ⟨#[40, 48, 32, 52, 32, 53, 32, 49, 41]⟩] 9)) (w.heap.size + 1) 9 #[.string ⟨#[40, 48, 32, 49, 32, 50, 32, 51, 41]⟩, .string ⟨#[40, 49, 32, 50, 32, 54, 32, 53, 41]⟩, .string ⟨#[40, 48, 32, 52, 32, 53, 32, 49, 41]⟩]) := Lib.hid (by
    have := Blk.new (w.alloc (.cells #[.int .i64 0, .string ⟨#[]⟩, .slice none 0 0] 30)) 9 #[.string ⟨#[40, 48, 32, 49, 32, 50, 32, 51, 41]⟩, .string ⟨#[40, 49, 32, 50, 32, 54, 32, 53, 41]⟩, .string ⟨#[40, 48, 32, 52, 32, 53, 32, 49, 41]⟩]; rw [World.size_alloc] at this; exact this)
  have p0 : Hid (Blk ((w.alloc (.cells #[.int .i64 0, .string ⟨#[]⟩, .slice none 0 0] 30)).alloc (.cells #[.string ⟨#[40, 48, 32, 49, 32, 50, 32, 51, 41]⟩, .string ⟨#[40, 49, 32, 50, 32, 54, 32, 53, 41]⟩, .string ⟨#[40, 48, 32, 52, 32, 53, 32, 49, 41]⟩] 9)) w.heap.size 30 #[.int .i64 0, .string ⟨#[]⟩, .slice none 0 0]) := Lib.hid ((Blk.new w _ _).alloc _)
  have B0 : Hid (Below w.heap.size w ((w.alloc (.cells #[.int .i64 0, .string ⟨#[]⟩, .slice none 0 0] 30)).alloc (.cells #[.string ⟨#[40, 48, 32, 49, 32, 50, 32, 51, 41]⟩, .string ⟨#[40, 49, 32, 50, 32, 54, 32, 53, 41]⟩, .string ⟨#[40, 48, 32, 52, 32, 53, 32, 49, 41]⟩] 9))) := Lib.hid (((Below.refl _ w).alloc (Nat.le_refl _) _).alloc (by simp) _)
  go_enter Tryz.func8, Tryz.ntmps8
  go_wp2_with fail
  refine (specPuzzleOf 7 (w.heap.size + 1) 3 3 [⟨#[40, 48, 32, 49, 32, 50, 32, 51, 41]⟩, ⟨#[40, 49, 32, 50, 32, 54, 32, 53, 41]⟩, ⟨#[40, 48, 32, 52, 32, 53, 32, 49, 41]⟩] ((w.alloc (.cells #[.int .i64 0, .string ⟨#[]⟩, .slice none 0 0] 30)).alloc (.cells #[.string ⟨#[40, 48, 32, 49, 32, 50, 32, 51, 41]⟩, .string ⟨#[40, 49, 32, 50, 32, 54, 32, 53, 41]⟩, .string ⟨#[40, 48, 32, 52, 32, 53, 32, 49, 41]⟩] 9)) (by decide) (by decide) (by decide) rfl (by simp) (Lib.hid ?_) (Lib.hid ?_) ⟨#[65, 66, 67]⟩ (Lib.hid (by first | rfl | decide))).mono ?_
  · intro j hj
    rw [c0.out.cell j]
    match j, hj with
    | 0, _ => rfl
    | 1, _ => rfl
    | 2, _ => rfl
  · intro j hj
    match j, hj with
    | 0, _ => exact (by decide : (⟨#[40, 48, 32, 49, 32, 50, 32, 51, 41]⟩ : ByteArray).size ≤ 200)
    | 1, _ => exact (by decide : (⟨#[40, 49, 32, 50, 32, 54, 32, 53, 41]⟩ : ByteArray).size ≤ 200)
    | 2, _ => exact (by decide : (⟨#[40, 48, 32, 52, 32, 53, 32, 49, 41]⟩ : ByteArray).size ≤ 200)
  rintro e w1 ⟨A, c, us, rfl, s1, l1, b1⟩
  have P1 := Lib.hid (p0.out.below b1 p0.out.lt)
  have B1 := btr B0.out b1
  have S1 : SS w1 (w.heap.size + 2) (w.heap.size + 2) A 3 c us (knG 3) := by have := s1; rw [show (7 : Int) = ((7 : Nat) : Int) from rfl] at *; rw [show knG 3 = rdC 7 [⟨#[40, 48, 32, 49, 32, 50, 32, 51, 41]⟩, ⟨#[40, 49, 32, 50, 32, 54, 32, 53, 41]⟩, ⟨#[40, 48, 32, 52, 32, 53, 32, 49, 41]⟩] from rd3.symm]; simpa using this
  have hs1 : w.heap.size + 2 ≤ w1.heap.size := by have := b1.size; simpa using this
  have y0 := P1.out.cell 0
  have y1 := P1.out.cell 1
  have y2 := P1.out.cell 2
  have g0 := P1.out.frozen 0
  have g1 := P1.out.frozen 1
  have g2 := P1.out.frozen 2
  go_wp2_with fail
  obtain ⟨W2, e2⟩ : ∃ W2, w1.setCell ⟨w.heap.size, 0, none⟩ (.int .i64 7) = W2 := ⟨_, rfl⟩
  obtain ⟨W3, e3⟩ : ∃ W3, W2.setCell ⟨w.heap.size, 1, none⟩ (.string ⟨#[65, 66, 67]⟩) = W3 := ⟨_, rfl⟩
  obtain ⟨W4, e4⟩ : ∃ W4, W3.setCell ⟨w.heap.size, 2, none⟩ (.slice A 3 c) = W4 := ⟨_, rfl⟩
  rw [e2, e3, e4]
  have D2 : Blk W2 w.heap.size 30 #[.int .i64 7, .string ⟨#[]⟩, .slice none 0 0] := by rw [← e2]; exact P1.out.set_ 0 _
  have D3 : Blk W3 w.heap.size 30 #[.int .i64 7, .string ⟨#[65, 66, 67]⟩, .slice none 0 0] := by rw [← e3]; exact D2.set_ 1 _
  have D4 : Blk W4 w.heap.size 30 #[.int .i64 7, .string ⟨#[65, 66, 67]⟩, .slice A 3 c] := by rw [← e4]; exact D3.set_ 2 _
  have r1 := D4.cell 0
  have r2 := D4.cell 1
  have r3 := D4.cell 2
  have Be : Below w.heap.size w W4 := by
    rw [← e4, ← e3, ← e2]
    exact ((B1.setCell (p := ⟨w.heap.size, 0, none⟩) (Nat.le_refl _) _).setCell (p := ⟨w.heap.size, 1, none⟩) (Nat.le_refl _) _).setCell (p := ⟨w.heap.size, 2, none⟩) (Nat.le_refl _) _
  have LA := S1.lt_
  have LI := fun t ht => (S1.row t ht).lt_
  have S6 := (S1).farR (w' := W2) (r := w.heap.size) (by rw [← e2]; exact grown_set (grown_refl _ _) _ _) LA LI (.inl (by simp))
  have S7 := (S6).farR (w' := W3) (r := w.heap.size) (by rw [← e3]; exact grown_set (grown_refl _ _) _ _) LA LI (.inl (by simp))
  have S8 := (S7).farR (w' := W4) (r := w.heap.size) (by rw [← e4]; exact grown_set (grown_refl _ _) _ _) LA LI (.inl (by simp))
  clear e2 e3 e4
  exact bodyPost_ret (v := .tuple #[.agg #[.int .i64 7, .string ⟨#[65, 66, 67]⟩, .slice A 3 c], .bool true]) (by simp [results, Tryz.results8, r1, r2, r3, go_sem]) rfl ⟨A, 3, c, us, rfl, S8.mono (by simp) (by simp), by omega, l1, Be⟩
set_option maxHeartbeats 4000000 in
set_option maxRecDepth 100000 in
theorem specKn4 (w : World) :
    Calls Tryz.prog 8 #[.int .i64 4] w fun e w' => ∃ A m c us, e = .returned (.tuple #[.agg #[.int .i64 12, .string ⟨#[65, 66, 67, 68]⟩, .slice A m c], .bool true]) ∧ SS w' w.heap.size w.heap.size A m c us (knG 4) ∧ m ≤ 4 ∧ (∀ i, i < m → (us.getD i sd0).2.1 ≤ 20) ∧ Below w.heap.size w w' := by
  have c0 : Hid (Blk ((w.alloc (.cells #[.int .i64 0, .string ⟨#[]⟩, .slice none 0 0] 30)).alloc (.cells #[.string ⟨#[40, 48, 32, 49, 41, 40, 52, 32, 53, 41]⟩, .string ⟨#[40, 49, 32, 50, 41, 40, 54, 32, 55, 41]⟩, .string ⟨#[40, 50, 32, 51, 41, 40, 56, 32, 57, 41]⟩, .string ⟨#[40, 48, 32, 51, 41, 40, 49, 48, 32, 49, 49, 41]⟩] 9)) (w.heap.size + 1) 9 #[.string ⟨#[40, 48, 32, 49, 41, 40, 52, 32, 53, 41]⟩, .string ⟨#[40, 49, 32, 50, 41, 40, 54, 32, 55, 41]⟩, .string ⟨#[40, 50, 32, 51, 41, 40, 56, 32, 57, 41]⟩, .string ⟨#[40, 48, 32, 51, 41, 40, 49, 48, 32, 49, 49, 41]⟩]) := Lib.hid (by
    have := Blk.new (w.alloc (.cells #[.int .i64 0, .string ⟨#[]⟩, .slice none 0 0] 30)) 9 #[.string ⟨#[40, 48, 32, 49, 41, 40, 52, 32, 53, 41]⟩, .string ⟨#[40, 49, 32, 50, 41, 40, 54, 32, 55, 41]⟩, .string ⟨#[40, 50, 32, 51, 41, 40, 56, 32, 57, 41]⟩, .string ⟨#[40, 48, 32, 51, 41, 40, 49, 48, 32, 49, 49, 41]⟩]; rw [World.size_alloc] at this; exact this)
  have p0 : Hid (Blk ((w.alloc (.cells #[.int .i64 0, .string ⟨#[]⟩, .slice none 0 0] 30)).alloc (.cells #[.string ⟨#[40, 48, 32, 49, 41, 40, 52, 32, 53, 41]⟩, .string ⟨#[40, 49, 32, 50, 41, 40, 54, 32, 55, 41]⟩, .string ⟨#[40, 50, 32, 51, 41, 40, 56, 32, 57, 41]⟩, .string ⟨#[40, 48, 32, 51, 41, 40, 49, 48, 32, 49, 49, 41]⟩] 9)) w.heap.size 30 #[.int .i64 0, .string ⟨#[]⟩, .slice none 0 0]) := Lib.hid ((Blk.new w _ _).alloc _)
  have B0 : Hid (Below w.heap.size w ((w.alloc (.cells #[.int .i64 0, .string ⟨#[]⟩, .slice none 0 0] 30)).alloc (.cells #[.string ⟨#[40, 48, 32, 49, 41, 40, 52, 32, 53, 41]⟩, .string ⟨#[40, 49, 32, 50, 41, 40, 54, 32, 55, 41]⟩, .string ⟨#[40, 50, 32, 51, 41, 40, 56, 32, 57, 41]⟩, .string ⟨#[40, 48, 32, 51, 41, 40, 49, 48, 32, 49, 49, 41]⟩] 9))) := Lib.hid (((Below.refl _ w).alloc (Nat.le_refl _) _).alloc (by simp) _)
  go_enter Tryz.func8, Tryz.ntmps8
  go_wp2_with fail
  refine (specPuzzleOf 12 (w.heap.size + 1) 4 4 [⟨#[40, 48, 32, 49, 41, 40, 52, 32, 53, 41]⟩, ⟨#[40, 49, 32, 50, 41, 40, 54, 32, 55, 41]⟩, ⟨#[40, 50, 32, 51, 41, 40, 56, 32, 57, 41]⟩, ⟨#[40, 48, 32, 51, 41, 40, 49, 48, 32, 49, 49, 41]⟩] ((w.alloc (.cells #[.int .i64 0, .string ⟨#[]⟩, .slice none 0 0] 30)).alloc (.cells #[.string ⟨#[40, 48, 32, 49, 41, 40, 52, 32, 53, 41]⟩, .string ⟨#[40, 49, 32, 50, 41, 40, 54, 32, 55, 41]⟩, .string ⟨#[40, 50, 32, 51, 41, 40, 56, 32, 57, 41]⟩, .string ⟨#[40, 48, 32, 51, 41, 40, 49, 48, 32, 49, 49, 41]⟩] 9)) (by decide) (by decide) (by decide) rfl (by simp) (Lib.hid ?_) (Lib.hid ?_) ⟨#[65, 66, 67, 68]⟩ (Lib.hid (by first | rfl | decide))).mono ?_
  · intro j hj
    rw [c0.out.cell j]
    match j, hj with
    | 0, _ => rfl
    | 1, _ => rfl
    | 2, _ => rfl
    | 3, _ => rfl
  · intro j hj
    match j, hj with
    | 0, _ => exact (by decide : (⟨#[40, 48, 32, 49, 41, 40, 52, 32, 53, 41]⟩ : ByteArray).size ≤ 200)
    | 1, _ => exact (by decide : (⟨#[40, 49, 32, 50, 41, 40, 54, 32, 55, 41]⟩ : ByteArray).size ≤ 200)
    | 2, _ => exact (by decide : (⟨#[40, 50, 32, 51, 41, 40, 56, 32, 57, 41]⟩ : ByteArray).size ≤ 200)
    | 3, _ => exact (by decide : (⟨#[40, 48, 32, 51, 41, 40, 49, 48, 32, 49, 49, 41]⟩ : ByteArray).size ≤ 200)
  rintro e w1 ⟨A, c, us, rfl, s1, l1, b1⟩
  have P1 := Lib.hid (p0.out.below b1 p0.out.lt)
  have B1 := btr B0.out b1
  have S1 : SS w1 (w.heap.size + 2) (w.heap.size + 2) A 4 c us (knG 4) := by have := s1; rw [show (12 : Int) = ((12 : Nat) : Int) from rfl] at *; rw [show knG 4 = rdC 12 [⟨#[40, 48, 32, 49, 41, 40, 52, 32, 53, 41]⟩, ⟨#[40, 49, 32, 50, 41, 40, 54, 32, 55, 41]⟩, ⟨#[40, 50, 32, 51, 41, 40, 56, 32, 57, 41]⟩, ⟨#[40, 48, 32, 51, 41, 40, 49, 48, 32, 49, 49, 41]⟩] from rd4.symm]; simpa using this
  have hs1 : w.heap.size + 2 ≤ w1.heap.size := by have := b1.size; simpa using this
  have y0 := P1.out.cell 0
  have y1 := P1.out.cell 1
  have y2 := P1.out.cell 2
  have g0 := P1.out.frozen 0
  have g1 := P1.out.frozen 1
  have g2 := P1.out.frozen 2
  go_wp2_with fail
  obtain ⟨W2, e2⟩ : ∃ W2, w1.setCell ⟨w.heap.size, 0, none⟩ (.int .i64 12) = W2 := ⟨_, rfl⟩
  obtain ⟨W3, e3⟩ : ∃ W3, W2.setCell ⟨w.heap.size, 1, none⟩ (.string ⟨#[65, 66, 67, 68]⟩) = W3 := ⟨_, rfl⟩
  obtain ⟨W4, e4⟩ : ∃ W4, W3.setCell ⟨w.heap.size, 2, none⟩ (.slice A 4 c) = W4 := ⟨_, rfl⟩
  rw [e2, e3, e4]
  have D2 : Blk W2 w.heap.size 30 #[.int .i64 12, .string ⟨#[]⟩, .slice none 0 0] := by rw [← e2]; exact P1.out.set_ 0 _
  have D3 : Blk W3 w.heap.size 30 #[.int .i64 12, .string ⟨#[65, 66, 67, 68]⟩, .slice none 0 0] := by rw [← e3]; exact D2.set_ 1 _
  have D4 : Blk W4 w.heap.size 30 #[.int .i64 12, .string ⟨#[65, 66, 67, 68]⟩, .slice A 4 c] := by rw [← e4]; exact D3.set_ 2 _
  have r1 := D4.cell 0
  have r2 := D4.cell 1
  have r3 := D4.cell 2
  have Be : Below w.heap.size w W4 := by
    rw [← e4, ← e3, ← e2]
    exact ((B1.setCell (p := ⟨w.heap.size, 0, none⟩) (Nat.le_refl _) _).setCell (p := ⟨w.heap.size, 1, none⟩) (Nat.le_refl _) _).setCell (p := ⟨w.heap.size, 2, none⟩) (Nat.le_refl _) _
  have LA := S1.lt_
  have LI := fun t ht => (S1.row t ht).lt_
  have S6 := (S1).farR (w' := W2) (r := w.heap.size) (by rw [← e2]; exact grown_set (grown_refl _ _) _ _) LA LI (.inl (by simp))
  have S7 := (S6).farR (w' := W3) (r := w.heap.size) (by rw [← e3]; exact grown_set (grown_refl _ _) _ _) LA LI (.inl (by simp))
  have S8 := (S7).farR (w' := W4) (r := w.heap.size) (by rw [← e4]; exact grown_set (grown_refl _ _) _ _) LA LI (.inl (by simp))
  clear e2 e3 e4
  exact bodyPost_ret (v := .tuple #[.agg #[.int .i64 12, .string ⟨#[65, 66, 67, 68]⟩, .slice A 4 c], .bool true]) (by simp [results, Tryz.results8, r1, r2, r3, go_sem]) rfl ⟨A, 4, c, us, rfl, S8.mono (by simp) (by simp), by omega, l1, Be⟩
set_option maxHeartbeats 4000000 in
set_option maxRecDepth 100000 in
theorem specKn5 (w : World) :
    Calls Tryz.prog 8 #[.int .i64 5] w fun e w' => ∃ A m c us, e = .returned (.tuple #[.agg #[.int .i64 12, .string ⟨#[65, 66, 67, 68]⟩, .slice A m c], .bool true]) ∧ SS w' w.heap.size w.heap.size A m c us (knG 5) ∧ m ≤ 4 ∧ (∀ i, i < m → (us.getD i sd0).2.1 ≤ 20) ∧ Below w.heap.size w w' := by
  have c0 : Hid (Blk ((w.alloc (.cells #[.int .i64 0, .string ⟨#[]⟩, .slice none 0 0] 30)).alloc (.cells #[.string ⟨#[40, 48, 32, 49, 32, 50, 41, 40, 51, 32, 54, 32, 57, 41]⟩, .string ⟨#[40, 48, 32, 55, 32, 49, 48, 41, 40, 51, 32, 52, 32, 53, 41]⟩, .string ⟨#[40, 49, 32, 52, 32, 49, 49, 41, 40, 54, 32, 55, 32, 56, 41]⟩, .string ⟨#[40, 50, 32, 53, 32, 56, 41, 40, 57, 32, 49, 48, 32, 49, 49, 41]⟩] 9)) (w.heap.size + 1) 9 #[.string ⟨#[40, 48, 32, 49, 32, 50, 41, 40, 51, 32, 54, 32, 57, 41]⟩, .string ⟨#[40, 48, 32, 55, 32, 49, 48, 41, 40, 51, 32, 52, 32, 53, 41]⟩, .string ⟨#[40, 49, 32, 52, 32, 49, 49, 41, 40, 54, 32, 55, 32, 56, 41]⟩, .string ⟨#[40, 50, 32, 53, 32, 56, 41, 40, 57, 32, 49, 48, 32, 49, 49, 41]⟩]) := Lib.hid (by
    have := Blk.new (w.alloc (.cells #[.int .i64 0, .string ⟨#[]⟩, .slice none 0 0] 30)) 9 #[.string ⟨#[40, 48, 32, 49, 32, 50, 41, 40, 51, 32, 54, 32, 57, 41]⟩, .string ⟨#[40, 48, 32, 55, 32, 49, 48, 41, 40, 51, 32, 52, 32, 53, 41]⟩, .string ⟨#[40, 49, 32, 52, 32, 49, 49, 41, 40, 54, 32, 55, 32, 56, 41]⟩, .string ⟨#[40, 50, 32, 53, 32, 56, 41, 40, 57, 32, 49, 48, 32, 49, 49, 41]⟩]; rw [World.size_alloc] at this; exact this)
  have p0 : Hid (Blk ((w.alloc (.cells #[.int .i64 0, .string ⟨#[]⟩, .slice none 0 0] 30)).alloc (.cells #[.string ⟨#[40, 48, 32, 49, 32, 50, 41, 40, 51, 32, 54, 32, 57, 41]⟩, .string ⟨#[40, 48, 32, 55, 32, 49, 48, 41, 40, 51, 32, 52, 32, 53, 41]⟩, .string ⟨#[40, 49, 32, 52, 32, 49, 49, 41, 40, 54, 32, 55, 32, 56, 41]⟩, .string ⟨#[40, 50, 32, 53, 32, 56, 41, 40, 57, 32, 49, 48, 32, 49, 49, 41]⟩] 9)) w.heap.size 30 #[.int .i64 0, .string ⟨#[]⟩, .slice none 0 0]) := Lib.hid ((Blk.new w _ _).alloc _)
  have B0 : Hid (Below w.heap.size w ((w.alloc (.cells #[.int .i64 0, .string ⟨#[]⟩, .slice none 0 0] 30)).alloc (.cells #[.string ⟨#[40, 48, 32, 49, 32, 50, 41, 40, 51, 32, 54, 32, 57, 41]⟩, .string ⟨#[40, 48, 32, 55, 32, 49, 48, 41, 40, 51, 32, 52, 32, 53, 41]⟩, .string ⟨#[40, 49, 32, 52, 32, 49, 49, 41, 40, 54, 32, 55, 32, 56, 41]⟩, .string ⟨#[40, 50, 32, 53, 32, 56, 41, 40, 57, 32, 49, 48, 32, 49, 49, 41]⟩] 9))) := Lib.hid (((Below.refl _ w).alloc (Nat.le_refl _) _).alloc (by simp) _)
  go_enter Tryz.func8, Tryz.ntmps8
  go_wp2_with fail
  refine (specPuzzleOf 12 (w.heap.size + 1) 4 4 [⟨#[40, 48, 32, 49, 32, 50, 41, 40, 51, 32, 54, 32, 57, 41]⟩, ⟨#[40, 48, 32, 55, 32, 49, 48, 41, 40, 51, 32, 52, 32, 53, 41]⟩, ⟨#[40, 49, 32, 52, 32, 49, 49, 41, 40, 54, 32, 55, 32, 56, 41]⟩, ⟨#[40, 50, 32, 53, 32, 56, 41, 40, 57, 32, 49, 48, 32, 49, 49, 41]⟩] ((w.alloc (.cells #[.int .i64 0, .string ⟨#[]⟩, .slice none 0 0] 30)).alloc (.cells #[.string ⟨#[40, 48, 32, 49, 32, 50, 41, 40, 51, 32, 54, 32, 57, 41]⟩, .string ⟨#[40, 48, 32, 55, 32, 49, 48, 41, 40, 51, 32, 52, 32, 53, 41]⟩, .string ⟨#[40, 49, 32, 52, 32, 49, 49, 41, 40, 54, 32, 55, 32, 56, 41]⟩, .string ⟨#[40, 50, 32, 53, 32, 56, 41, 40, 57, 32, 49, 48, 32, 49, 49, 41]⟩] 9)) (by decide) (by decide) (by decide) rfl (by simp) (Lib.hid ?_) (Lib.hid ?_) ⟨#[65, 66, 67, 68]⟩ (Lib.hid (by first | rfl | decide))).mono ?_
  · intro j hj
    rw [c0.out.cell j]
    match j, hj with
    | 0, _ => rfl
    | 1, _ => rfl
    | 2, _ => rfl
    | 3, _ => rfl
  · intro j hj
    match j, hj with
    | 0, _ => exact (by decide : (⟨#[40, 48, 32, 49, 32, 50, 41, 40, 51, 32, 54, 32, 57, 41]⟩ : ByteArray).size ≤ 200)
    | 1, _ => exact (by decide : (⟨#[40, 48, 32, 55, 32, 49, 48, 41, 40, 51, 32, 52, 32, 53, 41]⟩ : ByteArray).size ≤ 200)
    | 2, _ => exact (by decide : (⟨#[40, 49, 32, 52, 32, 49, 49, 41, 40, 54, 32, 55, 32, 56, 41]⟩ : ByteArray).size ≤ 200)
    | 3, _ => exact (by decide : (⟨#[40, 50, 32, 53, 32, 56, 41, 40, 57, 32, 49, 48, 32, 49, 49, 41]⟩ : ByteArray).size ≤ 200)
  rintro e w1 ⟨A, c, us, rfl, s1, l1, b1⟩
  have P1 := Lib.hid (p0.out.below b1 p0.out.lt)
  have B1 := btr B0.out b1
  have S1 : SS w1 (w.heap.size + 2) (w.heap.size + 2) A 4 c us (knG 5) := by have := s1; rw [show (12 : Int) = ((12 : Nat) : Int) from rfl] at *; rw [show knG 5 = rdC 12 [⟨#[40, 48, 32, 49, 32, 50, 41, 40, 51, 32, 54, 32, 57, 41]⟩, ⟨#[40, 48, 32, 55, 32, 49, 48, 41, 40, 51, 32, 52, 32, 53, 41]⟩, ⟨#[40, 49, 32, 52, 32, 49, 49, 41, 40, 54, 32, 55, 32, 56, 41]⟩, ⟨#[40, 50, 32, 53, 32, 56, 41, 40, 57, 32, 49, 48, 32, 49, 49, 41]⟩] from rd5.symm]; simpa using this
  have hs1 : w.heap.size + 2 ≤ w1.heap.size := by have := b1.size; simpa using this
  have y0 := P1.out.cell 0
  have y1 := P1.out.cell 1
  have y2 := P1.out.cell 2
  have g0 := P1.out.frozen 0
  have g1 := P1.out.frozen 1
  have g2 := P1.out.frozen 2
  go_wp2_with fail
  obtain ⟨W2, e2⟩ : ∃ W2, w1.setCell ⟨w.heap.size, 0, none⟩ (.int .i64 12) = W2 := ⟨_, rfl⟩
  obtain ⟨W3, e3⟩ : ∃ W3, W2.setCell ⟨w.heap.size, 1, none⟩ (.string ⟨#[65, 66, 67, 68]⟩) = W3 := ⟨_, rfl⟩
  obtain ⟨W4, e4⟩ : ∃ W4, W3.setCell ⟨w.heap.size, 2, none⟩ (.slice A 4 c) = W4 := ⟨_, rfl⟩
  rw [e2, e3, e4]
  have D2 : Blk W2 w.heap.size 30 #[.int .i64 12, .string ⟨#[]⟩, .slice none 0 0] := by rw [← e2]; exact P1.out.set_ 0 _
  have D3 : Blk W3 w.heap.size 30 #[.int .i64 12, .string ⟨#[65, 66, 67, 68]⟩, .slice none 0 0] := by rw [← e3]; exact D2.set_ 1 _
  have D4 : Blk W4 w.heap.size 30 #[.int .i64 12, .string ⟨#[65, 66, 67, 68]⟩, .slice A 4 c] := by rw [← e4]; exact D3.set_ 2 _
  have r1 := D4.cell 0
  have r2 := D4.cell 1
  have r3 := D4.cell 2
  have Be : Below w.heap.size w W4 := by
    rw [← e4, ← e3, ← e2]
    exact ((B1.setCell (p := ⟨w.heap.size, 0, none⟩) (Nat.le_refl _) _).setCell (p := ⟨w.heap.size, 1, none⟩) (Nat.le_refl _) _).setCell (p := ⟨w.heap.size, 2, none⟩) (Nat.le_refl _) _
  have LA := S1.lt_
  have LI := fun t ht => (S1.row t ht).lt_
  have S6 := (S1).farR (w' := W2) (r := w.heap.size) (by rw [← e2]; exact grown_set (grown_refl _ _) _ _) LA LI (.inl (by simp))
  have S7 := (S6).farR (w' := W3) (r := w.heap.size) (by rw [← e3]; exact grown_set (grown_refl _ _) _ _) LA LI (.inl (by simp))
  have S8 := (S7).farR (w' := W4) (r := w.heap.size) (by rw [← e4]; exact grown_set (grown_refl _ _) _ _) LA LI (.inl (by simp))
  clear e2 e3 e4
  exact bodyPost_ret (v := .tuple #[.agg #[.int .i64 12, .string ⟨#[65, 66, 67, 68]⟩, .slice A 4 c], .bool true]) (by simp [results, Tryz.results8, r1, r2, r3, go_sem]) rfl ⟨A, 4, c, us, rfl, S8.mono (by simp) (by simp), by omega, l1, Be⟩
set_option maxHeartbeats 4000000 in
set_option maxRecDepth 100000 in
theorem specKnX (k : Int) (w : World) (h0 : k ≠ 0) (h1 : k ≠ 1) (h2 : k ≠ 2) (h3 : k ≠ 3) (h4 : k ≠ 4) (h5 : k ≠ 5) :
    Calls Tryz.prog 8 #[.int .i64 k] w fun e w' => ∃ A m c us, e = .returned (.tuple #[.agg #[.int .i64 0, .string ⟨#[]⟩, .slice A m c], .bool false]) ∧ SS w' w.heap.size w.heap.size A m c us (knG 9) ∧ m ≤ 4 ∧ (∀ i, i < m → (us.getD i sd0).2.1 ≤ 20) ∧ Below w.heap.size w w' := by
  have P1 : Hid (Blk (w.alloc (.cells #[.int .i64 0, .string ⟨#[]⟩, .slice none 0 0] 30)) w.heap.size 30 #[.int .i64 0, .string ⟨#[]⟩, .slice none 0 0]) := Lib.hid (Blk.new w _ _)
  have B1 : Below w.heap.size w (w.alloc (.cells #[.int .i64 0, .string ⟨#[]⟩, .slice none 0 0] 30)) := (Below.refl _ w).alloc (Nat.le_refl _) _
  have d0 : decide (k = 0) = false := by simp [h0]
  have d1 : decide (k = 1) = false := by simp [h1]
  have d2 : decide (k = 2) = false := by simp [h2]
  have d3 : decide (k = 3) = false := by simp [h3]
  have d4 : decide (k = 4) = false := by simp [h4]
  have d5 : decide (k = 5) = false := by simp [h5]
  go_enter Tryz.func8, Tryz.ntmps8
  have y0 := P1.out.cell 0
  have y1 := P1.out.cell 1
  have y2 := P1.out.cell 2
  have g0 := P1.out.frozen 0
  have g1 := P1.out.frozen 1
  have g2 := P1.out.frozen 2
  go_wp2_with fail
  exact bodyPost_ret (v := .tuple #[.agg #[.int .i64 0, .string ⟨#[]⟩, .slice none 0 0], .bool false]) (by simp [results, Tryz.results8, y0, y1, y2, go_sem]) rfl ⟨none, 0, 0, [], rfl, SS.nil_, by omega, fun i hi => absurd hi (by omega), B1⟩
/-- The model's KnownPuzzle. -/
theorem specKnownPuzzle (k : Int) (w : World) :
    Calls Tryz.prog 8 #[.int .i64 k] w fun e w' => ∃ A m c us, e = .returned (.tuple #[.agg #[.int .i64 (knN k), .string (knS k), .slice A m c], .bool (knB k)]) ∧ SS w' w.heap.size w.heap.size A m c us (knG k) ∧ m ≤ 4 ∧ (∀ i, i < m → (us.getD i sd0).2.1 ≤ 20) ∧ Below w.heap.size w w' := by
  by_cases h0 : k = 0
  · subst h0; exact specKn0 w
  by_cases h1 : k = 1
  · subst h1; exact specKn1 w
  by_cases h2 : k = 2
  · subst h2; exact specKn2 w
  by_cases h3 : k = 3
  · subst h3; exact specKn3 w
  by_cases h4 : k = 4
  · subst h4; exact specKn4 w
  by_cases h5 : k = 5
  · subst h5; exact specKn5 w
  have e1 : knN k = 0 := by simp [knN, h0, h1, h2, h3, h4, h5]
  have e2 : knS k = ⟨#[]⟩ := by simp [knS, h0, h1, h2, h3, h4, h5]
  have e3 : knG k = knG 9 := by simp [knG, h0, h1, h2, h3, h4, h5]
  have e4 : knB k = false := by simp [knB]; omega
  rw [e1, e2, e3, e4]; exact specKnX k w h0 h1 h2 h3 h4 h5
end Go.Proofs.YtkjokchhffjidaaGreatDoor

/- The program's known puzzles. No condition. -/
namespace Go.Proofs.YtkjokchhffjidaaGreatDoor
open Go.RowKit

set_option maxHeartbeats 4000000 in
set_option maxRecDepth 100000 in
/-- puzzleOf at m texts in block b. -/
theorem implPuzzleOf (n : Nat) (b m c : Nat) (ss : List ByteArray) (w : World) (h1 : 1 ≤ n) (h2 : n ≤ 20) (hm : m ≤ 8) (hl : ss.length = m) (hb : b < w.heap.size)
    (hc : Hid (∀ j, j < m → w.cell? ⟨b, j, none⟩ = some (.string (ss.getD j ⟨#[]⟩)))) (hz200 : Hid (∀ j, j < m → (ss.getD j ⟨#[]⟩).size ≤ 200)) (nm : ByteArray) :
    Calls Tryz.prog 31 #[.int .i64 (n : Int), .string nm, .slice (some ⟨b, 0, none⟩) m c] w fun e w' => ∃ A' c' us, e = .returned (.agg #[.int .i64 (n : Int), .string nm, .slice A' m c']) ∧ SS w' w.heap.size w.heap.size A' m c' us (rdC n ss) ∧ (∀ i, i < m → (us.getD i sd0).2.1 ≤ 20) ∧ Below w.heap.size w w' := by
  have hcc := hc
  go_enter Tryz.func31, Tryz.ntmps31
  go_wp2_with fail
  obtain ⟨V, hV⟩ : ∃ V, (w.alloc (.cells #[.int .i64 0, .string ⟨#[]⟩, .slice none 0 0] 30)).alloc (.cells #[.int .i64 (n : Int), .string nm, .slice none 0 0] 30) = V := ⟨_, rfl⟩
  have hz : V.heap.size = w.heap.size + 2 := by rw [← hV]; simp
  have b0 : Hid (Blk V w.heap.size 30 #[.int .i64 0, .string ⟨#[]⟩, .slice none 0 0]) := Lib.hid (by rw [← hV]; exact (Blk.new w _ _).alloc _)
  have b1 : Hid (Blk V (w.heap.size + 1) 30 #[.int .i64 (n : Int), .string nm, .slice none 0 0]) := Lib.hid (by
    rw [← hV]; have := Blk.new (w.alloc (.cells #[.int .i64 0, .string ⟨#[]⟩, .slice none 0 0] 30)) 30 #[.int .i64 (n : Int), .string nm, .slice none 0 0]
    rw [World.size_alloc] at this; exact this)
  have BV : Hid (Below w.heap.size w V) := Lib.hid (by rw [← hV]; exact ((Below.refl _ w).alloc (Nat.le_refl _) _).alloc (by simp) _)
  rw [hV]
  clear hV
  go_loopg [17] m (fun gg iv wr => ∃ (k : Nat) (us : List SV) (A : Option Addr) (c' : Nat), k ≤ m ∧ m - k ≤ gg ∧ iv = .int .i64 (k : Nat) ∧ Blk wr w.heap.size 30 #[.int .i64 0, .string ⟨#[]⟩, .slice none 0 0] ∧ Blk wr (w.heap.size + 1) 30 #[.int .i64 (n : Int), .string nm, .slice A k c'] ∧ SS wr V.heap.size V.heap.size A k c' us (rdC n (ss.take k)) ∧ (∀ i, i < k → (us.getD i sd0).2.1 ≤ 20) ∧ Below w.heap.size w wr)
  case atStart => exact ⟨0, [], none, 0, Nat.zero_le _, by omega, rfl, b0.out, b1.out, by simpa [rdC] using (SS.nil_ (w := V)), fun i hi => absurd hi (by omega), BV.out⟩
  case round =>
    obtain ⟨k, us, A, c', hk, hgk, rfl, p0, p1, ss5, ln5, bel⟩ := hrel
    have P0 := Lib.hid p0
    have P1 := Lib.hid p1
    have Ss := Lib.hid ss5
    have Ln := Lib.hid ln5
    have Bel := Lib.hid bel
    have x0 := p1.cell 0
    have x1 := p1.cell 1
    have x2 := p1.cell 2
    have hwz : V.heap.size ≤ wr.heap.size := by have := p1.lt; omega
    clear p0 p1 ss5 ln5 bel
    by_cases hkm : k < m
    · obtain ⟨sk, hsk⟩ : ∃ sk, ss.getD k ⟨#[]⟩ = sk := ⟨_, rfl⟩
      have hss : sk.size ≤ 200 := by rw [← hsk]; exact hz200.out k hkm
      have hcell : wr.cell? ⟨b, k, none⟩ = some (.string sk) := by
        rw [Bel.out.cell (p := ⟨b, k, none⟩) hb, ← hsk]; exact hcc.out k hkm
      have q1 : (0 : Int) ≤ k := by omega
      have q2 : (k : Int) < m := by omega
      go_wp2_with fail
      refine (implParseCycles (n : Int) sk wr (by omega) (by omega)).mono ?_
      rintro e w2 ⟨A2, m2, c2, rfl, s2, hm2, b2⟩
      obtain ⟨ys, hys⟩ : ∃ ys, (cycO (n : Int) sk).getD [] = ys := ⟨_, rfl⟩
      rw [hys] at s2
      have LI : Hid (∀ t, t < k → ∀ j, (sval (us.getD t sd0)).ownBlock = some j → V.heap.size ≤ j ∧ j < wr.heap.size) := Lib.hid fun t ht => (Ss.out.row t ht).lt_
      have L2 := s2.lt_
      have D5 := Lib.hid (show ∀ t, t < k → (sval (us.getD t sd0)).ownBlock = none ∨ (sval (us.getD t sd0)).ownBlock ≠ (Value.slice A2 m2 c2).ownBlock from fun t ht => by
        rcases e9 : (sval (us.getD t sd0)).ownBlock with _ | z
        · exact .inl rfl
        · exact .inr fun e8 => by have := (LI.out t ht z e9).2; have := (L2 z e8.symm).1; omega)
      have P0' := Lib.hid (P0.out.below b2 P0.out.lt)
      have P1' := Lib.hid (P1.out.below b2 P1.out.lt)
      have Ss2 := Lib.hid (Ss.out.up b2)
      have Sl2 : Hid (Slc w2 V.heap.size A2 m2 c2 ys) := Lib.hid (s2.mono (by omega))
      have Bel2 := Lib.hid (btr Bel.out b2)
      have hwz2 : V.heap.size ≤ w2.heap.size := by have := b2.size; omega
      clear x0 x1 x2 s2 L2
      have x0 := P1'.out.cell 0
      have x1 := P1'.out.cell 1
      have x2 := P1'.out.cell 2
      go_wp2_with (first
        | (at_builtin
           refine wpList_app2 rfl _ _ rfl rfl (Ss2.out.alloc _) w2.heap.size A2 m2 c2 ys rfl (by rw [World.cell?_alloc_at _ _ _ _ rfl]; rfl) ((Sl2.out).alloc _) D5.out (by omega) (by simp; omega) ?_
           intro A7 c7 w7 ss7 g7
           have LO : ∀ j, (Value.slice A k c').ownBlock = some j → V.heap.size ≤ j := fun j hj => (Ss2.out.lt_ j hj).1
           have P07 := Lib.hid ((P0'.out.alloc (.cells #[.slice A2 m2 c2] 48)).grown g7 (fun e => by have := LO _ e.symm; omega))
           have P17 := Lib.hid ((P1'.out.alloc (.cells #[.slice A2 m2 c2] 48)).grown g7 (fun e => by have := LO _ e.symm; omega))
           have Bel7 : Hid (Below w.heap.size w w7) := Lib.hid ((Bel2.out.alloc Bel2.out.size (.cells #[.slice A2 m2 c2] 48)).grown g7 (by simp; omega) (fun j hj => by have := LO j hj; omega))
           have z0 := P17.out.cell 0
           have z1 := P17.out.cell 1
           have z2 := P17.out.cell 2
           have f2 := P17.out.frozen 2))
      have S7 : Hid (SS w7 V.heap.size V.heap.size A7 (k + 1) c7 (us ++ [(A2, m2, c2)]) (rdC n (ss.take k) ++ [ys])) := Lib.hid ss7
      have LA7 := S7.out.lt_
      have LI7 : ∀ t, t < k + 1 → ∀ j, (sval ((us ++ [((A2, m2, c2) : SV)]).getD t sd0)).ownBlock = some j → V.heap.size ≤ j ∧ j < w7.heap.size := fun t ht => (S7.out.row t ht).lt_
      have S8 := Lib.hid (S7.out.farR (w' := w7.setCell ⟨w.heap.size + 1, 2, none⟩ (.slice A7 (k + 1) c7)) (r := w.heap.size + 1) (grown_set (grown_refl _ _) _ _) LA7 LI7 (.inl (by omega)))
      have Q0 : Blk (w7.setCell ⟨w.heap.size + 1, 2, none⟩ (.slice A7 (k + 1) c7)) w.heap.size 30 #[.int .i64 0, .string ⟨#[]⟩, .slice none 0 0] := (Below.heap_setCell _ _ _ _ (by show w.heap.size ≠ w.heap.size + 1; omega)).trans P07.out
      have Q1 : Blk (w7.setCell ⟨w.heap.size + 1, 2, none⟩ (.slice A7 (k + 1) c7)) (w.heap.size + 1) 30 #[.int .i64 (n : Int), .string nm, .slice A7 (k + 1) c7] := P17.out.set_ 2 _
      have Bel8 : Below w.heap.size w (w7.setCell ⟨w.heap.size + 1, 2, none⟩ (.slice A7 (k + 1) c7)) := Bel7.out.setCell (p := ⟨w.heap.size + 1, 2, none⟩) (by show w.heap.size ≤ w.heap.size + 1; omega) _
      have Ln8 : ∀ i, i < k + 1 → ((us ++ [((A2, m2, c2) : SV)]).getD i sd0).2.1 ≤ 20 := fun i hi => by
        by_cases e9 : i < k
        · rw [getD_app _ _ _ _ (by rw [Ss2.out.lv]; exact e9)]; exact Ln.out i e9
        · rw [getD_snoc _ _ _ _ (by rw [Ss2.out.lv]; omega)]; exact hm2
      clear ss7 g7
      go_roundg (m - (k + 1))
      case rel => exact ⟨k + 1, _, A7, c7, by omega, by omega, by go_num, Q0, Q1, by rw [rdC_snoc (by omega), hsk, hys]; exact S8.out, Ln8, Bel8⟩
      case measure => omega
    · obtain rfl : k = m := by omega
      have y0 := P0.out.cell 0
      have y1 := P0.out.cell 1
      have y2 := P0.out.cell 2
      have g0 := P0.out.frozen 0
      have g1 := P0.out.frozen 1
      have g2 := P0.out.frozen 2
      go_wp2_with fail
      obtain ⟨W2, e2⟩ : ∃ W2, wr.setCell ⟨w.heap.size, 0, none⟩ (.int .i64 (n : Int)) = W2 := ⟨_, rfl⟩
      obtain ⟨W3, e3⟩ : ∃ W3, W2.setCell ⟨w.heap.size, 1, none⟩ (.string nm) = W3 := ⟨_, rfl⟩
      obtain ⟨W4, e4⟩ : ∃ W4, W3.setCell ⟨w.heap.size, 2, none⟩ (.slice A k c') = W4 := ⟨_, rfl⟩
      rw [e2, e3, e4]
      have LA : ∀ j, (Value.slice A k c').ownBlock = some j → V.heap.size ≤ j ∧ j < wr.heap.size := Ss.out.lt_
      have LI : ∀ t, t < k → ∀ j, (sval (us.getD t sd0)).ownBlock = some j → V.heap.size ≤ j ∧ j < wr.heap.size := fun t ht => (Ss.out.row t ht).lt_
      have S6 : SS W2 V.heap.size V.heap.size A k c' us (rdC n (ss.take k)) := by rw [← e2]; exact Ss.out.farR (r := w.heap.size) (grown_set (grown_refl _ _) _ _) LA LI (.inl (by omega))
      have S7 : SS W3 V.heap.size V.heap.size A k c' us (rdC n (ss.take k)) := by rw [← e3]; exact S6.farR (r := w.heap.size) (grown_set (grown_refl _ _) _ _) LA LI (.inl (by omega))
      have S8 : SS W4 V.heap.size V.heap.size A k c' us (rdC n (ss.take k)) := by rw [← e4]; exact S7.farR (r := w.heap.size) (grown_set (grown_refl _ _) _ _) LA LI (.inl (by omega))
      have D2 : Blk W2 w.heap.size 30 #[.int .i64 (n : Int), .string ⟨#[]⟩, .slice none 0 0] := by rw [← e2]; exact P0.out.set_ 0 _
      have D3 : Blk W3 w.heap.size 30 #[.int .i64 (n : Int), .string nm, .slice none 0 0] := by rw [← e3]; exact D2.set_ 1 _
      have D4 : Blk W4 w.heap.size 30 #[.int .i64 (n : Int), .string nm, .slice A k c'] := by rw [← e4]; exact D3.set_ 2 _
      have r1 := D4.cell 0
      have r2 := D4.cell 1
      have r3 := D4.cell 2
      have Be : Below w.heap.size w W4 := by
        rw [← e4, ← e3, ← e2]
        exact ((Bel.out.setCell (p := ⟨w.heap.size, 0, none⟩) (Nat.le_refl _) _).setCell (p := ⟨w.heap.size, 1, none⟩) (Nat.le_refl _) _).setCell (p := ⟨w.heap.size, 2, none⟩) (Nat.le_refl _) _
      clear e2 e3 e4
      have ek : ss.take k = ss := List.take_of_length_le (by omega)
      rw [ek] at S8
      exact bodyPost_ret (v := .agg #[.int .i64 (n : Int), .string nm, .slice A k c']) (by simp [results, Tryz.results31, r1, r2, r3, go_sem]) rfl ⟨A, c', us, rfl, S8.mono (by omega) (by omega), Ln.out, Be⟩
set_option maxHeartbeats 4000000 in
set_option maxRecDepth 100000 in
/-- rowOfFour. -/
theorem implKn0 (w : World) :
    Calls Tryz.prog 15 #[] w fun e w' => ∃ A m c us, e = .returned (.agg #[.int .i64 4, .string ⟨#[65, 66, 67]⟩, .slice A m c]) ∧ SS w' w.heap.size w.heap.size A m c us (knG 0) ∧ m ≤ 4 ∧ (∀ i, i < m → (us.getD i sd0).2.1 ≤ 20) ∧ Below w.heap.size w w' := by
  have c0 : Hid (Blk ((w.alloc (.cells #[.int .i64 0, .string ⟨#[]⟩, .slice none 0 0] 30)).alloc (.cells #[.string ⟨#[40, 48, 32, 49, 41]⟩, .string ⟨#[40, 49, 32, 50, 41]⟩, .string ⟨#[40, 50, 32, 51, 41]⟩] 9)) (w.heap.size + 1) 9 #[.string ⟨#[40, 48, 32, 49, 41]⟩, .string ⟨#[40, 49, 32, 50, 41]⟩, .string ⟨#[40, 50, 32, 51, 41]⟩]) := Lib.hid (by
    have := Blk.new (w.alloc (.cells #[.int .i64 0, .string ⟨#[]⟩, .slice none 0 0] 30)) 9 #[.string ⟨#[40, 48, 32, 49, 41]⟩, .string ⟨#[40, 49, 32, 50, 41]⟩, .string ⟨#[40, 50, 32, 51, 41]⟩]; rw [World.size_alloc] at this; exact this)
  have p0 : Hid (Blk ((w.alloc (.cells #[.int .i64 0, .string ⟨#[]⟩, .slice none 0 0] 30)).alloc (.cells #[.string ⟨#[40, 48, 32, 49, 41]⟩, .string ⟨#[40, 49, 32, 50, 41]⟩, .string ⟨#[40, 50, 32, 51, 41]⟩] 9)) w.heap.size 30 #[.int .i64 0, .string ⟨#[]⟩, .slice none 0 0]) := Lib.hid ((Blk.new w _ _).alloc _)
  have B0 : Hid (Below w.heap.size w ((w.alloc (.cells #[.int .i64 0, .string ⟨#[]⟩, .slice none 0 0] 30)).alloc (.cells #[.string ⟨#[40, 48, 32, 49, 41]⟩, .string ⟨#[40, 49, 32, 50, 41]⟩, .string ⟨#[40, 50, 32, 51, 41]⟩] 9))) := Lib.hid (((Below.refl _ w).alloc (Nat.le_refl _) _).alloc (by simp) _)
  go_enter Tryz.func15, Tryz.ntmps15
  go_wp2_with fail
  refine (implPuzzleOf 4 (w.heap.size + 1) 3 3 [⟨#[40, 48, 32, 49, 41]⟩, ⟨#[40, 49, 32, 50, 41]⟩, ⟨#[40, 50, 32, 51, 41]⟩] ((w.alloc (.cells #[.int .i64 0, .string ⟨#[]⟩, .slice none 0 0] 30)).alloc (.cells #[.string ⟨#[40, 48, 32, 49, 41]⟩, .string ⟨#[40, 49, 32, 50, 41]⟩, .string ⟨#[40, 50, 32, 51, 41]⟩] 9)) (by decide) (by decide) (by decide) rfl (by simp) (Lib.hid ?_) (Lib.hid ?_) ⟨#[65, 66, 67]⟩).mono ?_
  · intro j hj
    rw [c0.out.cell j]
    match j, hj with
    | 0, _ => rfl
    | 1, _ => rfl
    | 2, _ => rfl
  · intro j hj
    match j, hj with
    | 0, _ => exact (by decide : (⟨#[40, 48, 32, 49, 41]⟩ : ByteArray).size ≤ 200)
    | 1, _ => exact (by decide : (⟨#[40, 49, 32, 50, 41]⟩ : ByteArray).size ≤ 200)
    | 2, _ => exact (by decide : (⟨#[40, 50, 32, 51, 41]⟩ : ByteArray).size ≤ 200)
  rintro e w1 ⟨A, c, us, rfl, s1, l1, b1⟩
  have P1 := Lib.hid (p0.out.below b1 p0.out.lt)
  have B1 := btr B0.out b1
  have S1 : SS w1 (w.heap.size + 2) (w.heap.size + 2) A 3 c us (knG 0) := by have := s1; rw [show (4 : Int) = ((4 : Nat) : Int) from rfl] at *; rw [show knG 0 = rdC 4 [⟨#[40, 48, 32, 49, 41]⟩, ⟨#[40, 49, 32, 50, 41]⟩, ⟨#[40, 50, 32, 51, 41]⟩] from rd0.symm]; simpa using this
  have hs1 : w.heap.size + 2 ≤ w1.heap.size := by have := b1.size; simpa using this
  have y0 := P1.out.cell 0
  have y1 := P1.out.cell 1
  have y2 := P1.out.cell 2
  have g0 := P1.out.frozen 0
  have g1 := P1.out.frozen 1
  have g2 := P1.out.frozen 2
  go_wp2_with fail
  obtain ⟨W2, e2⟩ : ∃ W2, w1.setCell ⟨w.heap.size, 0, none⟩ (.int .i64 4) = W2 := ⟨_, rfl⟩
  obtain ⟨W3, e3⟩ : ∃ W3, W2.setCell ⟨w.heap.size, 1, none⟩ (.string ⟨#[65, 66, 67]⟩) = W3 := ⟨_, rfl⟩
  obtain ⟨W4, e4⟩ : ∃ W4, W3.setCell ⟨w.heap.size, 2, none⟩ (.slice A 3 c) = W4 := ⟨_, rfl⟩
  rw [e2, e3, e4]
  have D2 : Blk W2 w.heap.size 30 #[.int .i64 4, .string ⟨#[]⟩, .slice none 0 0] := by rw [← e2]; exact P1.out.set_ 0 _
  have D3 : Blk W3 w.heap.size 30 #[.int .i64 4, .string ⟨#[65, 66, 67]⟩, .slice none 0 0] := by rw [← e3]; exact D2.set_ 1 _
  have D4 : Blk W4 w.heap.size 30 #[.int .i64 4, .string ⟨#[65, 66, 67]⟩, .slice A 3 c] := by rw [← e4]; exact D3.set_ 2 _
  have r1 := D4.cell 0
  have r2 := D4.cell 1
  have r3 := D4.cell 2
  have Be : Below w.heap.size w W4 := by
    rw [← e4, ← e3, ← e2]
    exact ((B1.setCell (p := ⟨w.heap.size, 0, none⟩) (Nat.le_refl _) _).setCell (p := ⟨w.heap.size, 1, none⟩) (Nat.le_refl _) _).setCell (p := ⟨w.heap.size, 2, none⟩) (Nat.le_refl _) _
  have LA := S1.lt_
  have LI := fun t ht => (S1.row t ht).lt_
  have S6 := (S1).farR (w' := W2) (r := w.heap.size) (by rw [← e2]; exact grown_set (grown_refl _ _) _ _) LA LI (.inl (by simp))
  have S7 := (S6).farR (w' := W3) (r := w.heap.size) (by rw [← e3]; exact grown_set (grown_refl _ _) _ _) LA LI (.inl (by simp))
  have S8 := (S7).farR (w' := W4) (r := w.heap.size) (by rw [← e4]; exact grown_set (grown_refl _ _) _ _) LA LI (.inl (by simp))
  clear e2 e3 e4
  exact bodyPost_ret (v := .agg #[.int .i64 4, .string ⟨#[65, 66, 67]⟩, .slice A 3 c]) (by simp [results, Tryz.results15, r1, r2, r3, go_sem]) rfl ⟨A, 3, c, us, rfl, S8.mono (by simp) (by simp), by omega, l1, Be⟩
set_option maxHeartbeats 4000000 in
set_option maxRecDepth 100000 in
/-- spinner. -/
theorem implKn1 (w : World) :
    Calls Tryz.prog 16 #[] w fun e w' => ∃ A m c us, e = .returned (.agg #[.int .i64 6, .string ⟨#[65, 66]⟩, .slice A m c]) ∧ SS w' w.heap.size w.heap.size A m c us (knG 1) ∧ m ≤ 4 ∧ (∀ i, i < m → (us.getD i sd0).2.1 ≤ 20) ∧ Below w.heap.size w w' := by
  have c0 : Hid (Blk ((w.alloc (.cells #[.int .i64 0, .string ⟨#[]⟩, .slice none 0 0] 30)).alloc (.cells #[.string ⟨#[40, 48, 32, 49, 32, 50, 32, 51, 32, 52, 32, 53, 41]⟩, .string ⟨#[40, 48, 32, 50, 41]⟩] 9)) (w.heap.size + 1) 9 #[.string ⟨#[40, 48, 32, 49, 32, 50, 32, 51, 32, 52, 32, 53, 41]⟩, .string ⟨#[40, 48, 32, 50, 41]⟩]) := Lib.hid (by
    have := Blk.new (w.alloc (.cells #[.int .i64 0, .string ⟨#[]⟩, .slice none 0 0] 30)) 9 #[.string ⟨#[40, 48, 32, 49, 32, 50, 32, 51, 32, 52, 32, 53, 41]⟩, .string ⟨#[40, 48, 32, 50, 41]⟩]; rw [World.size_alloc] at this; exact this)
  have p0 : Hid (Blk ((w.alloc (.cells #[.int .i64 0, .string ⟨#[]⟩, .slice none 0 0] 30)).alloc (.cells #[.string ⟨#[40, 48, 32, 49, 32, 50, 32, 51, 32, 52, 32, 53, 41]⟩, .string ⟨#[40, 48, 32, 50, 41]⟩] 9)) w.heap.size 30 #[.int .i64 0, .string ⟨#[]⟩, .slice none 0 0]) := Lib.hid ((Blk.new w _ _).alloc _)
  have B0 : Hid (Below w.heap.size w ((w.alloc (.cells #[.int .i64 0, .string ⟨#[]⟩, .slice none 0 0] 30)).alloc (.cells #[.string ⟨#[40, 48, 32, 49, 32, 50, 32, 51, 32, 52, 32, 53, 41]⟩, .string ⟨#[40, 48, 32, 50, 41]⟩] 9))) := Lib.hid (((Below.refl _ w).alloc (Nat.le_refl _) _).alloc (by simp) _)
  go_enter Tryz.func16, Tryz.ntmps16
  go_wp2_with fail
  refine (implPuzzleOf 6 (w.heap.size + 1) 2 2 [⟨#[40, 48, 32, 49, 32, 50, 32, 51, 32, 52, 32, 53, 41]⟩, ⟨#[40, 48, 32, 50, 41]⟩] ((w.alloc (.cells #[.int .i64 0, .string ⟨#[]⟩, .slice none 0 0] 30)).alloc (.cells #[.string ⟨#[40, 48, 32, 49, 32, 50, 32, 51, 32, 52, 32, 53, 41]⟩, .string ⟨#[40, 48, 32, 50, 41]⟩] 9)) (by decide) (by decide) (by decide) rfl (by simp) (Lib.hid ?_) (Lib.hid ?_) ⟨#[65, 66]⟩).mono ?_
  · intro j hj
    rw [c0.out.cell j]
    match j, hj with
    | 0, _ => rfl
    | 1, _ => rfl
  · intro j hj
    match j, hj with
    | 0, _ => exact (by decide : (⟨#[40, 48, 32, 49, 32, 50, 32, 51, 32, 52, 32, 53, 41]⟩ : ByteArray).size ≤ 200)
    | 1, _ => exact (by decide : (⟨#[40, 48, 32, 50, 41]⟩ : ByteArray).size ≤ 200)
  rintro e w1 ⟨A, c, us, rfl, s1, l1, b1⟩
  have P1 := Lib.hid (p0.out.below b1 p0.out.lt)
  have B1 := btr B0.out b1
  have S1 : SS w1 (w.heap.size + 2) (w.heap.size + 2) A 2 c us (knG 1) := by have := s1; rw [show (6 : Int) = ((6 : Nat) : Int) from rfl] at *; rw [show knG 1 = rdC 6 [⟨#[40, 48, 32, 49, 32, 50, 32, 51, 32, 52, 32, 53, 41]⟩, ⟨#[40, 48, 32, 50, 41]⟩] from rd1.symm]; simpa using this
  have hs1 : w.heap.size + 2 ≤ w1.heap.size := by have := b1.size; simpa using this
  have y0 := P1.out.cell 0
  have y1 := P1.out.cell 1
  have y2 := P1.out.cell 2
  have g0 := P1.out.frozen 0
  have g1 := P1.out.frozen 1
  have g2 := P1.out.frozen 2
  go_wp2_with fail
  obtain ⟨W2, e2⟩ : ∃ W2, w1.setCell ⟨w.heap.size, 0, none⟩ (.int .i64 6) = W2 := ⟨_, rfl⟩
  obtain ⟨W3, e3⟩ : ∃ W3, W2.setCell ⟨w.heap.size, 1, none⟩ (.string ⟨#[65, 66]⟩) = W3 := ⟨_, rfl⟩
  obtain ⟨W4, e4⟩ : ∃ W4, W3.setCell ⟨w.heap.size, 2, none⟩ (.slice A 2 c) = W4 := ⟨_, rfl⟩
  rw [e2, e3, e4]
  have D2 : Blk W2 w.heap.size 30 #[.int .i64 6, .string ⟨#[]⟩, .slice none 0 0] := by rw [← e2]; exact P1.out.set_ 0 _
  have D3 : Blk W3 w.heap.size 30 #[.int .i64 6, .string ⟨#[65, 66]⟩, .slice none 0 0] := by rw [← e3]; exact D2.set_ 1 _
  have D4 : Blk W4 w.heap.size 30 #[.int .i64 6, .string ⟨#[65, 66]⟩, .slice A 2 c] := by rw [← e4]; exact D3.set_ 2 _
  have r1 := D4.cell 0
  have r2 := D4.cell 1
  have r3 := D4.cell 2
  have Be : Below w.heap.size w W4 := by
    rw [← e4, ← e3, ← e2]
    exact ((B1.setCell (p := ⟨w.heap.size, 0, none⟩) (Nat.le_refl _) _).setCell (p := ⟨w.heap.size, 1, none⟩) (Nat.le_refl _) _).setCell (p := ⟨w.heap.size, 2, none⟩) (Nat.le_refl _) _
  have LA := S1.lt_
  have LI := fun t ht => (S1.row t ht).lt_
  have S6 := (S1).farR (w' := W2) (r := w.heap.size) (by rw [← e2]; exact grown_set (grown_refl _ _) _ _) LA LI (.inl (by simp))
  have S7 := (S6).farR (w' := W3) (r := w.heap.size) (by rw [← e3]; exact grown_set (grown_refl _ _) _ _) LA LI (.inl (by simp))
  have S8 := (S7).farR (w' := W4) (r := w.heap.size) (by rw [← e4]; exact grown_set (grown_refl _ _) _ _) LA LI (.inl (by simp))
  clear e2 e3 e4
  exact bodyPost_ret (v := .agg #[.int .i64 6, .string ⟨#[65, 66]⟩, .slice A 2 c]) (by simp [results, Tryz.results16, r1, r2, r3, go_sem]) rfl ⟨A, 2, c, us, rfl, S8.mono (by simp) (by simp), by omega, l1, Be⟩
set_option maxHeartbeats 4000000 in
set_option maxRecDepth 100000 in
/-- twoRings. -/
theorem implKn2 (w : World) :
    Calls Tryz.prog 17 #[] w fun e w' => ∃ A m c us, e = .returned (.agg #[.int .i64 6, .string ⟨#[65, 66]⟩, .slice A m c]) ∧ SS w' w.heap.size w.heap.size A m c us (knG 2) ∧ m ≤ 4 ∧ (∀ i, i < m → (us.getD i sd0).2.1 ≤ 20) ∧ Below w.heap.size w w' := by
  have c0 : Hid (Blk ((w.alloc (.cells #[.int .i64 0, .string ⟨#[]⟩, .slice none 0 0] 30)).alloc (.cells #[.string ⟨#[40, 48, 32, 49, 32, 50, 32, 51, 41]⟩, .string ⟨#[40, 50, 32, 51, 32, 52, 32, 53, 41]⟩] 9)) (w.heap.size + 1) 9 #[.string ⟨#[40, 48, 32, 49, 32, 50, 32, 51, 41]⟩, .string ⟨#[40, 50, 32, 51, 32, 52, 32, 53, 41]⟩]) := Lib.hid (by
    have := Blk.new (w.alloc (.cells #[.int .i64 0, .string ⟨#[]⟩, .slice none 0 0] 30)) 9 #[.string ⟨#[40, 48, 32, 49, 32, 50, 32, 51, 41]⟩, .string ⟨#[40, 50, 32, 51, 32, 52, 32, 53, 41]⟩]; rw [World.size_alloc] at this; exact this)
  have p0 : Hid (Blk ((w.alloc (.cells #[.int .i64 0, .string ⟨#[]⟩, .slice none 0 0] 30)).alloc (.cells #[.string ⟨#[40, 48, 32, 49, 32, 50, 32, 51, 41]⟩, .string ⟨#[40, 50, 32, 51, 32, 52, 32, 53, 41]⟩] 9)) w.heap.size 30 #[.int .i64 0, .string ⟨#[]⟩, .slice none 0 0]) := Lib.hid ((Blk.new w _ _).alloc _)
  have B0 : Hid (Below w.heap.size w ((w.alloc (.cells #[.int .i64 0, .string ⟨#[]⟩, .slice none 0 0] 30)).alloc (.cells #[.string ⟨#[40, 48, 32, 49, 32, 50, 32, 51, 41]⟩, .string ⟨#[40, 50, 32, 51, 32, 52, 32, 53, 41]⟩] 9))) := Lib.hid (((Below.refl _ w).alloc (Nat.le_refl _) _).alloc (by simp) _)
  go_enter Tryz.func17, Tryz.ntmps17
  go_wp2_with fail
  refine (implPuzzleOf 6 (w.heap.size + 1) 2 2 [⟨#[40, 48, 32, 49, 32, 50, 32, 51, 41]⟩, ⟨#[40, 50, 32, 51, 32, 52, 32, 53, 41]⟩] ((w.alloc (.cells #[.int .i64 0, .string ⟨#[]⟩, .slice none 0 0] 30)).alloc (.cells #[.string ⟨#[40, 48, 32, 49, 32, 50, 32, 51, 41]⟩, .string ⟨#[40, 50, 32, 51, 32, 52, 32, 53, 41]⟩] 9)) (by decide) (by decide) (by decide) rfl (by simp) (Lib.hid ?_) (Lib.hid ?_) ⟨#[65, 66]⟩).mono ?_
  · intro j hj
    rw [c0.out.cell j]
    match j, hj with
    | 0, _ => rfl
    | 1, _ => rfl
  · intro j hj
    match j, hj with
    | 0, _ => exact (by decide : (⟨#[40, 48, 32, 49, 32, 50, 32, 51, 41]⟩ : ByteArray).size ≤ 200)
    | 1, _ => exact (by decide : (⟨#[40, 50, 32, 51, 32, 52, 32, 53, 41]⟩ : ByteArray).size ≤ 200)
  rintro e w1 ⟨A, c, us, rfl, s1, l1, b1⟩
  have P1 := Lib.hid (p0.out.below b1 p0.out.lt)
  have B1 := btr B0.out b1
  have S1 : SS w1 (w.heap.size + 2) (w.heap.size + 2) A 2 c us (knG 2) := by have := s1; rw [show (6 : Int) = ((6 : Nat) : Int) from rfl] at *; rw [show knG 2 = rdC 6 [⟨#[40, 48, 32, 49, 32, 50, 32, 51, 41]⟩, ⟨#[40, 50, 32, 51, 32, 52, 32, 53, 41]⟩] from rd2.symm]; simpa using this
  have hs1 : w.heap.size + 2 ≤ w1.heap.size := by have := b1.size; simpa using this
  have y0 := P1.out.cell 0
  have y1 := P1.out.cell 1
  have y2 := P1.out.cell 2
  have g0 := P1.out.frozen 0
  have g1 := P1.out.frozen 1
  have g2 := P1.out.frozen 2
  go_wp2_with fail
  obtain ⟨W2, e2⟩ : ∃ W2, w1.setCell ⟨w.heap.size, 0, none⟩ (.int .i64 6) = W2 := ⟨_, rfl⟩
  obtain ⟨W3, e3⟩ : ∃ W3, W2.setCell ⟨w.heap.size, 1, none⟩ (.string ⟨#[65, 66]⟩) = W3 := ⟨_, rfl⟩
  obtain ⟨W4, e4⟩ : ∃ W4, W3.setCell ⟨w.heap.size, 2, none⟩ (.slice A 2 c) = W4 := ⟨_, rfl⟩
  rw [e2, e3, e4]
  have D2 : Blk W2 w.heap.size 30 #[.int .i64 6, .string ⟨#[]⟩, .slice none 0 0] := by rw [← e2]; exact P1.out.set_ 0 _
  have D3 : Blk W3 w.heap.size 30 #[.int .i64 6, .string ⟨#[65, 66]⟩, .slice none 0 0] := by rw [← e3]; exact D2.set_ 1 _
  have D4 : Blk W4 w.heap.size 30 #[.int .i64 6, .string ⟨#[65, 66]⟩, .slice A 2 c] := by rw [← e4]; exact D3.set_ 2 _
  have r1 := D4.cell 0
  have r2 := D4.cell 1
  have r3 := D4.cell 2
  have Be : Below w.heap.size w W4 := by
    rw [← e4, ← e3, ← e2]
    exact ((B1.setCell (p := ⟨w.heap.size, 0, none⟩) (Nat.le_refl _) _).setCell (p := ⟨w.heap.size, 1, none⟩) (Nat.le_refl _) _).setCell (p := ⟨w.heap.size, 2, none⟩) (Nat.le_refl _) _
  have LA := S1.lt_
  have LI := fun t ht => (S1.row t ht).lt_
  have S6 := (S1).farR (w' := W2) (r := w.heap.size) (by rw [← e2]; exact grown_set (grown_refl _ _) _ _) LA LI (.inl (by simp))
  have S7 := (S6).farR (w' := W3) (r := w.heap.size) (by rw [← e3]; exact grown_set (grown_refl _ _) _ _) LA LI (.inl (by simp))
  have S8 := (S7).farR (w' := W4) (r := w.heap.size) (by rw [← e4]; exact grown_set (grown_refl _ _) _ _) LA LI (.inl (by simp))
  clear e2 e3 e4
  exact bodyPost_ret (v := .agg #[.int .i64 6, .string ⟨#[65, 66]⟩, .slice A 2 c]) (by simp [results, Tryz.results17, r1, r2, r3, go_sem]) rfl ⟨A, 2, c, us, rfl, S8.mono (by simp) (by simp), by omega, l1, Be⟩
set_option maxHeartbeats 4000000 in
set_option maxRecDepth 100000 in
/-- cubeCorners. -/
theorem implKn3 (w : World) :
    Calls Tryz.prog 18 #[] w fun e w' => ∃ A m c us, e = .returned (.agg #[.int .i64 7, .string ⟨#[65, 66, 67]⟩, .slice A m c]) ∧ SS w' w.heap.size w.heap.size A m c us (knG 3) ∧ m ≤ 4 ∧ (∀ i, i < m → (us.getD i sd0).2.1 ≤ 20) ∧ Below w.heap.size w w' := by
  have c0 : Hid (Blk ((w.alloc (.cells #[.int .i64 0, .string ⟨#[]⟩, .slice none 0 0] 30)).alloc (.cells #[.string ⟨#[40, 48, 32, 49, 32, 50, 32, 51, 41]⟩, .string ⟨#[40, 49, 32, 50, 32, 54, 32, 53, 41]⟩, .string ⟨#[40, 48, 32, 52, 32, 53, 32, 49, 41]⟩] 9)) (w.heap.size + 1) 9 #[.string ⟨#[40, 48, 32, 49, 32, 50, 32, 51, 41]⟩, .string ⟨#[40, 49, 32, 50, 32, 54, 32, 53, 41]⟩, .string ⟨#[40, 48, 32, 52, 32, 53, 32, 49, 41]⟩]) := Lib.hid (by
    have := Blk.new (w.alloc (.cells #[.int .i64 0, .string ⟨#[]⟩, .slice none 0 0] 30)) 9 #[.string ⟨#[40, 48, 32, 49, 32, 50, 32, 51, 41]⟩, .string ⟨#[40, 49, 32, 50, 32, 54, 32, 53, 41]⟩, .string ⟨#[40, 48, 32, 52, 32, 53, 32, 49, 41]⟩]; rw [World.size_alloc] at this; exact this)
  have p0 : Hid (Blk ((w.alloc (.cells #[.int .i64 0, .string ⟨#[]⟩, .slice none 0 0] 30)).alloc (.cells #[.string ⟨#[40, 48, 32, 49, 32, 50, 32, 51, 41]⟩, .string ⟨#[40, 49, 32, 50, 32, 54, 32, 53, 41]⟩, .string ⟨#[40, 48, 32, 52, 32, 53, 32, 49, 41]⟩] 9)) w.heap.size 30 #[.int .i64 0, .string ⟨#[]⟩, .slice none 0 0]) := Lib.hid ((Blk.new w _ _).alloc _)
  have B0 : Hid (Below w.heap.size w ((w.alloc (.cells #[.int .i64 0, .string ⟨#[]⟩, .slice none 0 0] 30)).alloc (.cells #[.string ⟨#[40, 48, 32, 49, 32, 50, 32, 51, 41]⟩, .string ⟨#[40, 49, 32, 50, 32, 54, 32, 53, 41]⟩, .string ⟨#[40, 48, 32, 52, 32, 53, 32, 49, 41]⟩] 9))) := Lib.hid (((Below.refl _ w).alloc (Nat.le_refl _) _).alloc (by simp) _)
  go_enter Tryz.func18, Tryz.ntmps18
  go_wp2_with fail
  refine (implPuzzleOf 7 (w.heap.size + 1) 3 3 [⟨#[40, 48, 32, 49, 32, 50, 32, 51, 41]⟩, ⟨#[40, 49, 32, 50, 32, 54, 32, 53, 41]⟩, ⟨#[40, 48, 32, 52, 32, 53, 32, 49, 41]⟩] ((w.alloc (.cells #[.int .i64 0, .string ⟨#[]⟩, .slice none 0 0] 30)).alloc (.cells #[.string ⟨#[40, 48, 32, 49, 32, 50, 32, 51, 41]⟩, .string ⟨#[40, 49, 32, 50, 32, 54, 32, 53, 41]⟩, .string ⟨#[40, 48, 32, 52, 32, 53, 32, 49, 41]⟩] 9)) (by decide) (by decide) (by decide) rfl (by simp) (Lib.hid ?_) (Lib.hid ?_) ⟨#[65, 66, 67]⟩).mono ?_
  · intro j hj
    rw [c0.out.cell j]
    match j, hj with
    | 0, _ => rfl
    | 1, _ => rfl
    | 2, _ => rfl
  · intro j hj
    match j, hj with
    | 0, _ => exact (by decide : (⟨#[40, 48, 32, 49, 32, 50, 32, 51, 41]⟩ : ByteArray).size ≤ 200)
    | 1, _ => exact (by decide : (⟨#[40, 49, 32, 50, 32, 54, 32, 53, 41]⟩ : ByteArray).size ≤ 200)
    | 2, _ => exact (by decide : (⟨#[40, 48, 32, 52, 32, 53, 32, 49, 41]⟩ : ByteArray).size ≤ 200)
  rintro e w1 ⟨A, c, us, rfl, s1, l1, b1⟩
  have P1 := Lib.hid (p0.out.below b1 p0.out.lt)
  have B1 := btr B0.out b1
  have S1 : SS w1 (w.heap.size + 2) (w.heap.size + 2) A 3 c us (knG 3) := by have := s1; rw [show (7 : Int) = ((7 : Nat) : Int) from rfl] at *; rw [show knG 3 = rdC 7 [⟨#[40, 48, 32, 49, 32, 50, 32, 51, 41]⟩, ⟨#[40, 49, 32, 50, 32, 54, 32, 53, 41]⟩, ⟨#[40, 48, 32, 52, 32, 53, 32, 49, 41]⟩] from rd3.symm]; simpa using this
  have hs1 : w.heap.size + 2 ≤ w1.heap.size := by have := b1.size; simpa using this
  have y0 := P1.out.cell 0
  have y1 := P1.out.cell 1
  have y2 := P1.out.cell 2
  have g0 := P1.out.frozen 0
  have g1 := P1.out.frozen 1
  have g2 := P1.out.frozen 2
  go_wp2_with fail
  obtain ⟨W2, e2⟩ : ∃ W2, w1.setCell ⟨w.heap.size, 0, none⟩ (.int .i64 7) = W2 := ⟨_, rfl⟩
  obtain ⟨W3, e3⟩ : ∃ W3, W2.setCell ⟨w.heap.size, 1, none⟩ (.string ⟨#[65, 66, 67]⟩) = W3 := ⟨_, rfl⟩
  obtain ⟨W4, e4⟩ : ∃ W4, W3.setCell ⟨w.heap.size, 2, none⟩ (.slice A 3 c) = W4 := ⟨_, rfl⟩
  rw [e2, e3, e4]
  have D2 : Blk W2 w.heap.size 30 #[.int .i64 7, .string ⟨#[]⟩, .slice none 0 0] := by rw [← e2]; exact P1.out.set_ 0 _
  have D3 : Blk W3 w.heap.size 30 #[.int .i64 7, .string ⟨#[65, 66, 67]⟩, .slice none 0 0] := by rw [← e3]; exact D2.set_ 1 _
  have D4 : Blk W4 w.heap.size 30 #[.int .i64 7, .string ⟨#[65, 66, 67]⟩, .slice A 3 c] := by rw [← e4]; exact D3.set_ 2 _
  have r1 := D4.cell 0
  have r2 := D4.cell 1
  have r3 := D4.cell 2
  have Be : Below w.heap.size w W4 := by
    rw [← e4, ← e3, ← e2]
    exact ((B1.setCell (p := ⟨w.heap.size, 0, none⟩) (Nat.le_refl _) _).setCell (p := ⟨w.heap.size, 1, none⟩) (Nat.le_refl _) _).setCell (p := ⟨w.heap.size, 2, none⟩) (Nat.le_refl _) _
  have LA := S1.lt_
  have LI := fun t ht => (S1.row t ht).lt_
  have S6 := (S1).farR (w' := W2) (r := w.heap.size) (by rw [← e2]; exact grown_set (grown_refl _ _) _ _) LA LI (.inl (by simp))
  have S7 := (S6).farR (w' := W3) (r := w.heap.size) (by rw [← e3]; exact grown_set (grown_refl _ _) _ _) LA LI (.inl (by simp))
  have S8 := (S7).farR (w' := W4) (r := w.heap.size) (by rw [← e4]; exact grown_set (grown_refl _ _) _ _) LA LI (.inl (by simp))
  clear e2 e3 e4
  exact bodyPost_ret (v := .agg #[.int .i64 7, .string ⟨#[65, 66, 67]⟩, .slice A 3 c]) (by simp [results, Tryz.results18, r1, r2, r3, go_sem]) rfl ⟨A, 3, c, us, rfl, S8.mono (by simp) (by simp), by omega, l1, Be⟩
set_option maxHeartbeats 4000000 in
set_option maxRecDepth 100000 in
/-- plate. -/
theorem implKn4 (w : World) :
    Calls Tryz.prog 19 #[] w fun e w' => ∃ A m c us, e = .returned (.agg #[.int .i64 12, .string ⟨#[65, 66, 67, 68]⟩, .slice A m c]) ∧ SS w' w.heap.size w.heap.size A m c us (knG 4) ∧ m ≤ 4 ∧ (∀ i, i < m → (us.getD i sd0).2.1 ≤ 20) ∧ Below w.heap.size w w' := by
  have c0 : Hid (Blk ((w.alloc (.cells #[.int .i64 0, .string ⟨#[]⟩, .slice none 0 0] 30)).alloc (.cells #[.string ⟨#[40, 48, 32, 49, 41, 40, 52, 32, 53, 41]⟩, .string ⟨#[40, 49, 32, 50, 41, 40, 54, 32, 55, 41]⟩, .string ⟨#[40, 50, 32, 51, 41, 40, 56, 32, 57, 41]⟩, .string ⟨#[40, 48, 32, 51, 41, 40, 49, 48, 32, 49, 49, 41]⟩] 9)) (w.heap.size + 1) 9 #[.string ⟨#[40, 48, 32, 49, 41, 40, 52, 32, 53, 41]⟩, .string ⟨#[40, 49, 32, 50, 41, 40, 54, 32, 55, 41]⟩, .string ⟨#[40, 50, 32, 51, 41, 40, 56, 32, 57, 41]⟩, .string ⟨#[40, 48, 32, 51, 41, 40, 49, 48, 32, 49, 49, 41]⟩]) := Lib.hid (by
    have := Blk.new (w.alloc (.cells #[.int .i64 0, .string ⟨#[]⟩, .slice none 0 0] 30)) 9 #[.string ⟨#[40, 48, 32, 49, 41, 40, 52, 32, 53, 41]⟩, .string ⟨#[40, 49, 32, 50, 41, 40, 54, 32, 55, 41]⟩, .string ⟨#[40, 50, 32, 51, 41, 40, 56, 32, 57, 41]⟩, .string ⟨#[40, 48, 32, 51, 41, 40, 49, 48, 32, 49, 49, 41]⟩]; rw [World.size_alloc] at this; exact this)
  have p0 : Hid (Blk ((w.alloc (.cells #[.int .i64 0, .string ⟨#[]⟩, .slice none 0 0] 30)).alloc (.cells #[.string ⟨#[40, 48, 32, 49, 41, 40, 52, 32, 53, 41]⟩, .string ⟨#[40, 49, 32, 50, 41, 40, 54, 32, 55, 41]⟩, .string ⟨#[40, 50, 32, 51, 41, 40, 56, 32, 57, 41]⟩, .string ⟨#[40, 48, 32, 51, 41, 40, 49, 48, 32, 49, 49, 41]⟩] 9)) w.heap.size 30 #[.int .i64 0, .string ⟨#[]⟩, .slice none 0 0]) := Lib.hid ((Blk.new w _ _).alloc _)
  have B0 : Hid (Below w.heap.size w ((w.alloc (.cells #[.int .i64 0, .string ⟨#[]⟩, .slice none 0 0] 30)).alloc (.cells #[.string ⟨#[40, 48, 32, 49, 41, 40, 52, 32, 53, 41]⟩, .string ⟨#[40, 49, 32, 50, 41, 40, 54, 32, 55, 41]⟩, .string ⟨#[40, 50, 32, 51, 41, 40, 56, 32, 57, 41]⟩, .string ⟨#[40, 48, 32, 51, 41, 40, 49, 48, 32, 49, 49, 41]⟩] 9))) := Lib.hid (((Below.refl _ w).alloc (Nat.le_refl _) _).alloc (by simp) _)
  go_enter Tryz.func19, Tryz.ntmps19
  go_wp2_with fail
  refine (implPuzzleOf 12 (w.heap.size + 1) 4 4 [⟨#[40, 48, 32, 49, 41, 40, 52, 32, 53, 41]⟩, ⟨#[40, 49, 32, 50, 41, 40, 54, 32, 55, 41]⟩, ⟨#[40, 50, 32, 51, 41, 40, 56, 32, 57, 41]⟩, ⟨#[40, 48, 32, 51, 41, 40, 49, 48, 32, 49, 49, 41]⟩] ((w.alloc (.cells #[.int .i64 0, .string ⟨#[]⟩, .slice none 0 0] 30)).alloc (.cells #[.string ⟨#[40, 48, 32, 49, 41, 40, 52, 32, 53, 41]⟩, .string ⟨#[40, 49, 32, 50, 41, 40, 54, 32, 55, 41]⟩, .string ⟨#[40, 50, 32, 51, 41, 40, 56, 32, 57, 41]⟩, .string ⟨#[40, 48, 32, 51, 41, 40, 49, 48, 32, 49, 49, 41]⟩] 9)) (by decide) (by decide) (by decide) rfl (by simp) (Lib.hid ?_) (Lib.hid ?_) ⟨#[65, 66, 67, 68]⟩).mono ?_
  · intro j hj
    rw [c0.out.cell j]
    match j, hj with
    | 0, _ => rfl
    | 1, _ => rfl
    | 2, _ => rfl
    | 3, _ => rfl
  · intro j hj
    match j, hj with
    | 0, _ => exact (by decide : (⟨#[40, 48, 32, 49, 41, 40, 52, 32, 53, 41]⟩ : ByteArray).size ≤ 200)
    | 1, _ => exact (by decide : (⟨#[40, 49, 32, 50, 41, 40, 54, 32, 55, 41]⟩ : ByteArray).size ≤ 200)
    | 2, _ => exact (by decide : (⟨#[40, 50, 32, 51, 41, 40, 56, 32, 57, 41]⟩ : ByteArray).size ≤ 200)
    | 3, _ => exact (by decide : (⟨#[40, 48, 32, 51, 41, 40, 49, 48, 32, 49, 49, 41]⟩ : ByteArray).size ≤ 200)
  rintro e w1 ⟨A, c, us, rfl, s1, l1, b1⟩
  have P1 := Lib.hid (p0.out.below b1 p0.out.lt)
  have B1 := btr B0.out b1
  have S1 : SS w1 (w.heap.size + 2) (w.heap.size + 2) A 4 c us (knG 4) := by have := s1; rw [show (12 : Int) = ((12 : Nat) : Int) from rfl] at *; rw [show knG 4 = rdC 12 [⟨#[40, 48, 32, 49, 41, 40, 52, 32, 53, 41]⟩, ⟨#[40, 49, 32, 50, 41, 40, 54, 32, 55, 41]⟩, ⟨#[40, 50, 32, 51, 41, 40, 56, 32, 57, 41]⟩, ⟨#[40, 48, 32, 51, 41, 40, 49, 48, 32, 49, 49, 41]⟩] from rd4.symm]; simpa using this
  have hs1 : w.heap.size + 2 ≤ w1.heap.size := by have := b1.size; simpa using this
  have y0 := P1.out.cell 0
  have y1 := P1.out.cell 1
  have y2 := P1.out.cell 2
  have g0 := P1.out.frozen 0
  have g1 := P1.out.frozen 1
  have g2 := P1.out.frozen 2
  go_wp2_with fail
  obtain ⟨W2, e2⟩ : ∃ W2, w1.setCell ⟨w.heap.size, 0, none⟩ (.int .i64 12) = W2 := ⟨_, rfl⟩
  obtain ⟨W3, e3⟩ : ∃ W3, W2.setCell ⟨w.heap.size, 1, none⟩ (.string ⟨#[65, 66, 67, 68]⟩) = W3 := ⟨_, rfl⟩
  obtain ⟨W4, e4⟩ : ∃ W4, W3.setCell ⟨w.heap.size, 2, none⟩ (.slice A 4 c) = W4 := ⟨_, rfl⟩
  rw [e2, e3, e4]
  have D2 : Blk W2 w.heap.size 30 #[.int .i64 12, .string ⟨#[]⟩, .slice none 0 0] := by rw [← e2]; exact P1.out.set_ 0 _
  have D3 : Blk W3 w.heap.size 30 #[.int .i64 12, .string ⟨#[65, 66, 67, 68]⟩, .slice none 0 0] := by rw [← e3]; exact D2.set_ 1 _
  have D4 : Blk W4 w.heap.size 30 #[.int .i64 12, .string ⟨#[65, 66, 67, 68]⟩, .slice A 4 c] := by rw [← e4]; exact D3.set_ 2 _
  have r1 := D4.cell 0
  have r2 := D4.cell 1
  have r3 := D4.cell 2
  have Be : Below w.heap.size w W4 := by
    rw [← e4, ← e3, ← e2]
    exact ((B1.setCell (p := ⟨w.heap.size, 0, none⟩) (Nat.le_refl _) _).setCell (p := ⟨w.heap.size, 1, none⟩) (Nat.le_refl _) _).setCell (p := ⟨w.heap.size, 2, none⟩) (Nat.le_refl _) _
  have LA := S1.lt_
  have LI := fun t ht => (S1.row t ht).lt_
  have S6 := (S1).farR (w' := W2) (r := w.heap.size) (by rw [← e2]; exact grown_set (grown_refl _ _) _ _) LA LI (.inl (by simp))
  have S7 := (S6).farR (w' := W3) (r := w.heap.size) (by rw [← e3]; exact grown_set (grown_refl _ _) _ _) LA LI (.inl (by simp))
  have S8 := (S7).farR (w' := W4) (r := w.heap.size) (by rw [← e4]; exact grown_set (grown_refl _ _) _ _) LA LI (.inl (by simp))
  clear e2 e3 e4
  exact bodyPost_ret (v := .agg #[.int .i64 12, .string ⟨#[65, 66, 67, 68]⟩, .slice A 4 c]) (by simp [results, Tryz.results19, r1, r2, r3, go_sem]) rfl ⟨A, 4, c, us, rfl, S8.mono (by simp) (by simp), by omega, l1, Be⟩
set_option maxHeartbeats 4000000 in
set_option maxRecDepth 100000 in
/-- pyramidEdges. -/
theorem implKn5 (w : World) :
    Calls Tryz.prog 20 #[] w fun e w' => ∃ A m c us, e = .returned (.agg #[.int .i64 12, .string ⟨#[65, 66, 67, 68]⟩, .slice A m c]) ∧ SS w' w.heap.size w.heap.size A m c us (knG 5) ∧ m ≤ 4 ∧ (∀ i, i < m → (us.getD i sd0).2.1 ≤ 20) ∧ Below w.heap.size w w' := by
  have c0 : Hid (Blk ((w.alloc (.cells #[.int .i64 0, .string ⟨#[]⟩, .slice none 0 0] 30)).alloc (.cells #[.string ⟨#[40, 48, 32, 49, 32, 50, 41, 40, 51, 32, 54, 32, 57, 41]⟩, .string ⟨#[40, 48, 32, 55, 32, 49, 48, 41, 40, 51, 32, 52, 32, 53, 41]⟩, .string ⟨#[40, 49, 32, 52, 32, 49, 49, 41, 40, 54, 32, 55, 32, 56, 41]⟩, .string ⟨#[40, 50, 32, 53, 32, 56, 41, 40, 57, 32, 49, 48, 32, 49, 49, 41]⟩] 9)) (w.heap.size + 1) 9 #[.string ⟨#[40, 48, 32, 49, 32, 50, 41, 40, 51, 32, 54, 32, 57, 41]⟩, .string ⟨#[40, 48, 32, 55, 32, 49, 48, 41, 40, 51, 32, 52, 32, 53, 41]⟩, .string ⟨#[40, 49, 32, 52, 32, 49, 49, 41, 40, 54, 32, 55, 32, 56, 41]⟩, .string ⟨#[40, 50, 32, 53, 32, 56, 41, 40, 57, 32, 49, 48, 32, 49, 49, 41]⟩]) := Lib.hid (by
    have := Blk.new (w.alloc (.cells #[.int .i64 0, .string ⟨#[]⟩, .slice none 0 0] 30)) 9 #[.string ⟨#[40, 48, 32, 49, 32, 50, 41, 40, 51, 32, 54, 32, 57, 41]⟩, .string ⟨#[40, 48, 32, 55, 32, 49, 48, 41, 40, 51, 32, 52, 32, 53, 41]⟩, .string ⟨#[40, 49, 32, 52, 32, 49, 49, 41, 40, 54, 32, 55, 32, 56, 41]⟩, .string ⟨#[40, 50, 32, 53, 32, 56, 41, 40, 57, 32, 49, 48, 32, 49, 49, 41]⟩]; rw [World.size_alloc] at this; exact this)
  have p0 : Hid (Blk ((w.alloc (.cells #[.int .i64 0, .string ⟨#[]⟩, .slice none 0 0] 30)).alloc (.cells #[.string ⟨#[40, 48, 32, 49, 32, 50, 41, 40, 51, 32, 54, 32, 57, 41]⟩, .string ⟨#[40, 48, 32, 55, 32, 49, 48, 41, 40, 51, 32, 52, 32, 53, 41]⟩, .string ⟨#[40, 49, 32, 52, 32, 49, 49, 41, 40, 54, 32, 55, 32, 56, 41]⟩, .string ⟨#[40, 50, 32, 53, 32, 56, 41, 40, 57, 32, 49, 48, 32, 49, 49, 41]⟩] 9)) w.heap.size 30 #[.int .i64 0, .string ⟨#[]⟩, .slice none 0 0]) := Lib.hid ((Blk.new w _ _).alloc _)
  have B0 : Hid (Below w.heap.size w ((w.alloc (.cells #[.int .i64 0, .string ⟨#[]⟩, .slice none 0 0] 30)).alloc (.cells #[.string ⟨#[40, 48, 32, 49, 32, 50, 41, 40, 51, 32, 54, 32, 57, 41]⟩, .string ⟨#[40, 48, 32, 55, 32, 49, 48, 41, 40, 51, 32, 52, 32, 53, 41]⟩, .string ⟨#[40, 49, 32, 52, 32, 49, 49, 41, 40, 54, 32, 55, 32, 56, 41]⟩, .string ⟨#[40, 50, 32, 53, 32, 56, 41, 40, 57, 32, 49, 48, 32, 49, 49, 41]⟩] 9))) := Lib.hid (((Below.refl _ w).alloc (Nat.le_refl _) _).alloc (by simp) _)
  go_enter Tryz.func20, Tryz.ntmps20
  go_wp2_with fail
  refine (implPuzzleOf 12 (w.heap.size + 1) 4 4 [⟨#[40, 48, 32, 49, 32, 50, 41, 40, 51, 32, 54, 32, 57, 41]⟩, ⟨#[40, 48, 32, 55, 32, 49, 48, 41, 40, 51, 32, 52, 32, 53, 41]⟩, ⟨#[40, 49, 32, 52, 32, 49, 49, 41, 40, 54, 32, 55, 32, 56, 41]⟩, ⟨#[40, 50, 32, 53, 32, 56, 41, 40, 57, 32, 49, 48, 32, 49, 49, 41]⟩] ((w.alloc (.cells #[.int .i64 0, .string ⟨#[]⟩, .slice none 0 0] 30)).alloc (.cells #[.string ⟨#[40, 48, 32, 49, 32, 50, 41, 40, 51, 32, 54, 32, 57, 41]⟩, .string ⟨#[40, 48, 32, 55, 32, 49, 48, 41, 40, 51, 32, 52, 32, 53, 41]⟩, .string ⟨#[40, 49, 32, 52, 32, 49, 49, 41, 40, 54, 32, 55, 32, 56, 41]⟩, .string ⟨#[40, 50, 32, 53, 32, 56, 41, 40, 57, 32, 49, 48, 32, 49, 49, 41]⟩] 9)) (by decide) (by decide) (by decide) rfl (by simp) (Lib.hid ?_) (Lib.hid ?_) ⟨#[65, 66, 67, 68]⟩).mono ?_
  · intro j hj
    rw [c0.out.cell j]
    match j, hj with
    | 0, _ => rfl
    | 1, _ => rfl
    | 2, _ => rfl
    | 3, _ => rfl
  · intro j hj
    match j, hj with
    | 0, _ => exact (by decide : (⟨#[40, 48, 32, 49, 32, 50, 41, 40, 51, 32, 54, 32, 57, 41]⟩ : ByteArray).size ≤ 200)
    | 1, _ => exact (by decide : (⟨#[40, 48, 32, 55, 32, 49, 48, 41, 40, 51, 32, 52, 32, 53, 41]⟩ : ByteArray).size ≤ 200)
    | 2, _ => exact (by decide : (⟨#[40, 49, 32, 52, 32, 49, 49, 41, 40, 54, 32, 55, 32, 56, 41]⟩ : ByteArray).size ≤ 200)
    | 3, _ => exact (by decide : (⟨#[40, 50, 32, 53, 32, 56, 41, 40, 57, 32, 49, 48, 32, 49, 49, 41]⟩ : ByteArray).size ≤ 200)
  rintro e w1 ⟨A, c, us, rfl, s1, l1, b1⟩
  have P1 := Lib.hid (p0.out.below b1 p0.out.lt)
  have B1 := btr B0.out b1
  have S1 : SS w1 (w.heap.size + 2) (w.heap.size + 2) A 4 c us (knG 5) := by have := s1; rw [show (12 : Int) = ((12 : Nat) : Int) from rfl] at *; rw [show knG 5 = rdC 12 [⟨#[40, 48, 32, 49, 32, 50, 41, 40, 51, 32, 54, 32, 57, 41]⟩, ⟨#[40, 48, 32, 55, 32, 49, 48, 41, 40, 51, 32, 52, 32, 53, 41]⟩, ⟨#[40, 49, 32, 52, 32, 49, 49, 41, 40, 54, 32, 55, 32, 56, 41]⟩, ⟨#[40, 50, 32, 53, 32, 56, 41, 40, 57, 32, 49, 48, 32, 49, 49, 41]⟩] from rd5.symm]; simpa using this
  have hs1 : w.heap.size + 2 ≤ w1.heap.size := by have := b1.size; simpa using this
  have y0 := P1.out.cell 0
  have y1 := P1.out.cell 1
  have y2 := P1.out.cell 2
  have g0 := P1.out.frozen 0
  have g1 := P1.out.frozen 1
  have g2 := P1.out.frozen 2
  go_wp2_with fail
  obtain ⟨W2, e2⟩ : ∃ W2, w1.setCell ⟨w.heap.size, 0, none⟩ (.int .i64 12) = W2 := ⟨_, rfl⟩
  obtain ⟨W3, e3⟩ : ∃ W3, W2.setCell ⟨w.heap.size, 1, none⟩ (.string ⟨#[65, 66, 67, 68]⟩) = W3 := ⟨_, rfl⟩
  obtain ⟨W4, e4⟩ : ∃ W4, W3.setCell ⟨w.heap.size, 2, none⟩ (.slice A 4 c) = W4 := ⟨_, rfl⟩
  rw [e2, e3, e4]
  have D2 : Blk W2 w.heap.size 30 #[.int .i64 12, .string ⟨#[]⟩, .slice none 0 0] := by rw [← e2]; exact P1.out.set_ 0 _
  have D3 : Blk W3 w.heap.size 30 #[.int .i64 12, .string ⟨#[65, 66, 67, 68]⟩, .slice none 0 0] := by rw [← e3]; exact D2.set_ 1 _
  have D4 : Blk W4 w.heap.size 30 #[.int .i64 12, .string ⟨#[65, 66, 67, 68]⟩, .slice A 4 c] := by rw [← e4]; exact D3.set_ 2 _
  have r1 := D4.cell 0
  have r2 := D4.cell 1
  have r3 := D4.cell 2
  have Be : Below w.heap.size w W4 := by
    rw [← e4, ← e3, ← e2]
    exact ((B1.setCell (p := ⟨w.heap.size, 0, none⟩) (Nat.le_refl _) _).setCell (p := ⟨w.heap.size, 1, none⟩) (Nat.le_refl _) _).setCell (p := ⟨w.heap.size, 2, none⟩) (Nat.le_refl _) _
  have LA := S1.lt_
  have LI := fun t ht => (S1.row t ht).lt_
  have S6 := (S1).farR (w' := W2) (r := w.heap.size) (by rw [← e2]; exact grown_set (grown_refl _ _) _ _) LA LI (.inl (by simp))
  have S7 := (S6).farR (w' := W3) (r := w.heap.size) (by rw [← e3]; exact grown_set (grown_refl _ _) _ _) LA LI (.inl (by simp))
  have S8 := (S7).farR (w' := W4) (r := w.heap.size) (by rw [← e4]; exact grown_set (grown_refl _ _) _ _) LA LI (.inl (by simp))
  clear e2 e3 e4
  exact bodyPost_ret (v := .agg #[.int .i64 12, .string ⟨#[65, 66, 67, 68]⟩, .slice A 4 c]) (by simp [results, Tryz.results20, r1, r2, r3, go_sem]) rfl ⟨A, 4, c, us, rfl, S8.mono (by simp) (by simp), by omega, l1, Be⟩
set_option maxHeartbeats 4000000 in
set_option maxRecDepth 100000 in
theorem implKP0 (w : World) :
    Calls Tryz.prog 7 #[.int .i64 0] w fun e w' => ∃ A m c us, e = .returned (.tuple #[.agg #[.int .i64 4, .string ⟨#[65, 66, 67]⟩, .slice A m c], .bool true]) ∧ SS w' w.heap.size w.heap.size A m c us (knG 0) ∧ m ≤ 4 ∧ (∀ i, i < m → (us.getD i sd0).2.1 ≤ 20) ∧ Below w.heap.size w w' := by
  have p0 : Hid (Blk ((w.alloc (.cells #[.int .i64 0, .string ⟨#[]⟩, .slice none 0 0] 30)).alloc (.cells #[.func (.func 15) #[] #[], .func (.func 16) #[] #[], .func (.func 17) #[] #[], .func (.func 18) #[] #[], .func (.func 19) #[] #[], .func (.func 20) #[] #[]] 41)) w.heap.size 30 #[.int .i64 0, .string ⟨#[]⟩, .slice none 0 0]) := Lib.hid ((Blk.new w _ _).alloc _)
  have f0 : Hid (Blk ((w.alloc (.cells #[.int .i64 0, .string ⟨#[]⟩, .slice none 0 0] 30)).alloc (.cells #[.func (.func 15) #[] #[], .func (.func 16) #[] #[], .func (.func 17) #[] #[], .func (.func 18) #[] #[], .func (.func 19) #[] #[], .func (.func 20) #[] #[]] 41)) (w.heap.size + 1) 41 #[.func (.func 15) #[] #[], .func (.func 16) #[] #[], .func (.func 17) #[] #[], .func (.func 18) #[] #[], .func (.func 19) #[] #[], .func (.func 20) #[] #[]]) := Lib.hid (by
    have := Blk.new (w.alloc (.cells #[.int .i64 0, .string ⟨#[]⟩, .slice none 0 0] 30)) 41 #[.func (.func 15) #[] #[], .func (.func 16) #[] #[], .func (.func 17) #[] #[], .func (.func 18) #[] #[], .func (.func 19) #[] #[], .func (.func 20) #[] #[]]; rw [World.size_alloc] at this; exact this)
  have B0 : Hid (Below w.heap.size w ((w.alloc (.cells #[.int .i64 0, .string ⟨#[]⟩, .slice none 0 0] 30)).alloc (.cells #[.func (.func 15) #[] #[], .func (.func 16) #[] #[], .func (.func 17) #[] #[], .func (.func 18) #[] #[], .func (.func 19) #[] #[], .func (.func 20) #[] #[]] 41))) := Lib.hid (((Below.refl _ w).alloc (Nat.le_refl _) _).alloc (by simp) _)
  have K := implKn0 ((w.alloc (.cells #[.int .i64 0, .string ⟨#[]⟩, .slice none 0 0] 30)).alloc (.cells #[.func (.func 15) #[] #[], .func (.func 16) #[] #[], .func (.func 17) #[] #[], .func (.func 18) #[] #[], .func (.func 19) #[] #[], .func (.func 20) #[] #[]] 41))
  have fk : ((w.alloc (.cells #[.int .i64 0, .string ⟨#[]⟩, .slice none 0 0] 30)).alloc (.cells #[.func (.func 15) #[] #[], .func (.func 16) #[] #[], .func (.func 17) #[] #[], .func (.func 18) #[] #[], .func (.func 19) #[] #[], .func (.func 20) #[] #[]] 41)).cell? ⟨w.heap.size + 1, 0, none⟩ = some (.func (.func 15) #[] #[]) := f0.out.cell 0
  go_enter Tryz.func7, Tryz.ntmps7
  go_wp2_with fail
  refine K.mono ?_
  rintro e w1 ⟨A, m, c, us, rfl, s1, hm, l1, b1⟩
  clear K
  have P1 := Lib.hid (p0.out.below b1 p0.out.lt)
  have B1 := btr B0.out b1
  have S1 : SS w1 (w.heap.size + 2) (w.heap.size + 2) A m c us (knG 0) := by simpa using s1
  have hs1 : w.heap.size + 2 ≤ w1.heap.size := by have := b1.size; simpa using this
  have y0 := P1.out.cell 0
  have y1 := P1.out.cell 1
  have y2 := P1.out.cell 2
  have g0 := P1.out.frozen 0
  have g1 := P1.out.frozen 1
  have g2 := P1.out.frozen 2
  go_wp2_with fail
  obtain ⟨W2, e2⟩ : ∃ W2, w1.setCell ⟨w.heap.size, 0, none⟩ (.int .i64 4) = W2 := ⟨_, rfl⟩
  obtain ⟨W3, e3⟩ : ∃ W3, W2.setCell ⟨w.heap.size, 1, none⟩ (.string ⟨#[65, 66, 67]⟩) = W3 := ⟨_, rfl⟩
  obtain ⟨W4, e4⟩ : ∃ W4, W3.setCell ⟨w.heap.size, 2, none⟩ (.slice A m c) = W4 := ⟨_, rfl⟩
  rw [e2, e3, e4]
  have D2 : Blk W2 w.heap.size 30 #[.int .i64 4, .string ⟨#[]⟩, .slice none 0 0] := by rw [← e2]; exact P1.out.set_ 0 _
  have D3 : Blk W3 w.heap.size 30 #[.int .i64 4, .string ⟨#[65, 66, 67]⟩, .slice none 0 0] := by rw [← e3]; exact D2.set_ 1 _
  have D4 : Blk W4 w.heap.size 30 #[.int .i64 4, .string ⟨#[65, 66, 67]⟩, .slice A m c] := by rw [← e4]; exact D3.set_ 2 _
  have r1 := D4.cell 0
  have r2 := D4.cell 1
  have r3 := D4.cell 2
  have Be : Below w.heap.size w W4 := by
    rw [← e4, ← e3, ← e2]
    exact ((B1.setCell (p := ⟨w.heap.size, 0, none⟩) (Nat.le_refl _) _).setCell (p := ⟨w.heap.size, 1, none⟩) (Nat.le_refl _) _).setCell (p := ⟨w.heap.size, 2, none⟩) (Nat.le_refl _) _
  have LA := S1.lt_
  have LI := fun t ht => (S1.row t ht).lt_
  have S6 := (S1).farR (w' := W2) (r := w.heap.size) (by rw [← e2]; exact grown_set (grown_refl _ _) _ _) LA LI (.inl (by simp))
  have S7 := (S6).farR (w' := W3) (r := w.heap.size) (by rw [← e3]; exact grown_set (grown_refl _ _) _ _) LA LI (.inl (by simp))
  have S8 := (S7).farR (w' := W4) (r := w.heap.size) (by rw [← e4]; exact grown_set (grown_refl _ _) _ _) LA LI (.inl (by simp))
  clear e2 e3 e4
  exact bodyPost_ret (v := .tuple #[.agg #[.int .i64 4, .string ⟨#[65, 66, 67]⟩, .slice A m c], .bool true]) (by simp [results, Tryz.results7, r1, r2, r3, go_sem]) rfl ⟨A, m, c, us, rfl, S8.mono (by simp) (by simp), by omega, l1, Be⟩
set_option maxHeartbeats 4000000 in
set_option maxRecDepth 100000 in
theorem implKP1 (w : World) :
    Calls Tryz.prog 7 #[.int .i64 1] w fun e w' => ∃ A m c us, e = .returned (.tuple #[.agg #[.int .i64 6, .string ⟨#[65, 66]⟩, .slice A m c], .bool true]) ∧ SS w' w.heap.size w.heap.size A m c us (knG 1) ∧ m ≤ 4 ∧ (∀ i, i < m → (us.getD i sd0).2.1 ≤ 20) ∧ Below w.heap.size w w' := by
  have p0 : Hid (Blk ((w.alloc (.cells #[.int .i64 0, .string ⟨#[]⟩, .slice none 0 0] 30)).alloc (.cells #[.func (.func 15) #[] #[], .func (.func 16) #[] #[], .func (.func 17) #[] #[], .func (.func 18) #[] #[], .func (.func 19) #[] #[], .func (.func 20) #[] #[]] 41)) w.heap.size 30 #[.int .i64 0, .string ⟨#[]⟩, .slice none 0 0]) := Lib.hid ((Blk.new w _ _).alloc _)
  have f0 : Hid (Blk ((w.alloc (.cells #[.int .i64 0, .string ⟨#[]⟩, .slice none 0 0] 30)).alloc (.cells #[.func (.func 15) #[] #[], .func (.func 16) #[] #[], .func (.func 17) #[] #[], .func (.func 18) #[] #[], .func (.func 19) #[] #[], .func (.func 20) #[] #[]] 41)) (w.heap.size + 1) 41 #[.func (.func 15) #[] #[], .func (.func 16) #[] #[], .func (.func 17) #[] #[], .func (.func 18) #[] #[], .func (.func 19) #[] #[], .func (.func 20) #[] #[]]) := Lib.hid (by
    have := Blk.new (w.alloc (.cells #[.int .i64 0, .string ⟨#[]⟩, .slice none 0 0] 30)) 41 #[.func (.func 15) #[] #[], .func (.func 16) #[] #[], .func (.func 17) #[] #[], .func (.func 18) #[] #[], .func (.func 19) #[] #[], .func (.func 20) #[] #[]]; rw [World.size_alloc] at this; exact this)
  have B0 : Hid (Below w.heap.size w ((w.alloc (.cells #[.int .i64 0, .string ⟨#[]⟩, .slice none 0 0] 30)).alloc (.cells #[.func (.func 15) #[] #[], .func (.func 16) #[] #[], .func (.func 17) #[] #[], .func (.func 18) #[] #[], .func (.func 19) #[] #[], .func (.func 20) #[] #[]] 41))) := Lib.hid (((Below.refl _ w).alloc (Nat.le_refl _) _).alloc (by simp) _)
  have K := implKn1 ((w.alloc (.cells #[.int .i64 0, .string ⟨#[]⟩, .slice none 0 0] 30)).alloc (.cells #[.func (.func 15) #[] #[], .func (.func 16) #[] #[], .func (.func 17) #[] #[], .func (.func 18) #[] #[], .func (.func 19) #[] #[], .func (.func 20) #[] #[]] 41))
  have fk : ((w.alloc (.cells #[.int .i64 0, .string ⟨#[]⟩, .slice none 0 0] 30)).alloc (.cells #[.func (.func 15) #[] #[], .func (.func 16) #[] #[], .func (.func 17) #[] #[], .func (.func 18) #[] #[], .func (.func 19) #[] #[], .func (.func 20) #[] #[]] 41)).cell? ⟨w.heap.size + 1, 1, none⟩ = some (.func (.func 16) #[] #[]) := f0.out.cell 1
  go_enter Tryz.func7, Tryz.ntmps7
  go_wp2_with fail
  refine K.mono ?_
  rintro e w1 ⟨A, m, c, us, rfl, s1, hm, l1, b1⟩
  clear K
  have P1 := Lib.hid (p0.out.below b1 p0.out.lt)
  have B1 := btr B0.out b1
  have S1 : SS w1 (w.heap.size + 2) (w.heap.size + 2) A m c us (knG 1) := by simpa using s1
  have hs1 : w.heap.size + 2 ≤ w1.heap.size := by have := b1.size; simpa using this
  have y0 := P1.out.cell 0
  have y1 := P1.out.cell 1
  have y2 := P1.out.cell 2
  have g0 := P1.out.frozen 0
  have g1 := P1.out.frozen 1
  have g2 := P1.out.frozen 2
  go_wp2_with fail
  obtain ⟨W2, e2⟩ : ∃ W2, w1.setCell ⟨w.heap.size, 0, none⟩ (.int .i64 6) = W2 := ⟨_, rfl⟩
  obtain ⟨W3, e3⟩ : ∃ W3, W2.setCell ⟨w.heap.size, 1, none⟩ (.string ⟨#[65, 66]⟩) = W3 := ⟨_, rfl⟩
  obtain ⟨W4, e4⟩ : ∃ W4, W3.setCell ⟨w.heap.size, 2, none⟩ (.slice A m c) = W4 := ⟨_, rfl⟩
  rw [e2, e3, e4]
  have D2 : Blk W2 w.heap.size 30 #[.int .i64 6, .string ⟨#[]⟩, .slice none 0 0] := by rw [← e2]; exact P1.out.set_ 0 _
  have D3 : Blk W3 w.heap.size 30 #[.int .i64 6, .string ⟨#[65, 66]⟩, .slice none 0 0] := by rw [← e3]; exact D2.set_ 1 _
  have D4 : Blk W4 w.heap.size 30 #[.int .i64 6, .string ⟨#[65, 66]⟩, .slice A m c] := by rw [← e4]; exact D3.set_ 2 _
  have r1 := D4.cell 0
  have r2 := D4.cell 1
  have r3 := D4.cell 2
  have Be : Below w.heap.size w W4 := by
    rw [← e4, ← e3, ← e2]
    exact ((B1.setCell (p := ⟨w.heap.size, 0, none⟩) (Nat.le_refl _) _).setCell (p := ⟨w.heap.size, 1, none⟩) (Nat.le_refl _) _).setCell (p := ⟨w.heap.size, 2, none⟩) (Nat.le_refl _) _
  have LA := S1.lt_
  have LI := fun t ht => (S1.row t ht).lt_
  have S6 := (S1).farR (w' := W2) (r := w.heap.size) (by rw [← e2]; exact grown_set (grown_refl _ _) _ _) LA LI (.inl (by simp))
  have S7 := (S6).farR (w' := W3) (r := w.heap.size) (by rw [← e3]; exact grown_set (grown_refl _ _) _ _) LA LI (.inl (by simp))
  have S8 := (S7).farR (w' := W4) (r := w.heap.size) (by rw [← e4]; exact grown_set (grown_refl _ _) _ _) LA LI (.inl (by simp))
  clear e2 e3 e4
  exact bodyPost_ret (v := .tuple #[.agg #[.int .i64 6, .string ⟨#[65, 66]⟩, .slice A m c], .bool true]) (by simp [results, Tryz.results7, r1, r2, r3, go_sem]) rfl ⟨A, m, c, us, rfl, S8.mono (by simp) (by simp), by omega, l1, Be⟩
set_option maxHeartbeats 4000000 in
set_option maxRecDepth 100000 in
theorem implKP2 (w : World) :
    Calls Tryz.prog 7 #[.int .i64 2] w fun e w' => ∃ A m c us, e = .returned (.tuple #[.agg #[.int .i64 6, .string ⟨#[65, 66]⟩, .slice A m c], .bool true]) ∧ SS w' w.heap.size w.heap.size A m c us (knG 2) ∧ m ≤ 4 ∧ (∀ i, i < m → (us.getD i sd0).2.1 ≤ 20) ∧ Below w.heap.size w w' := by
  have p0 : Hid (Blk ((w.alloc (.cells #[.int .i64 0, .string ⟨#[]⟩, .slice none 0 0] 30)).alloc (.cells #[.func (.func 15) #[] #[], .func (.func 16) #[] #[], .func (.func 17) #[] #[], .func (.func 18) #[] #[], .func (.func 19) #[] #[], .func (.func 20) #[] #[]] 41)) w.heap.size 30 #[.int .i64 0, .string ⟨#[]⟩, .slice none 0 0]) := Lib.hid ((Blk.new w _ _).alloc _)
  have f0 : Hid (Blk ((w.alloc (.cells #[.int .i64 0, .string ⟨#[]⟩, .slice none 0 0] 30)).alloc (.cells #[.func (.func 15) #[] #[], .func (.func 16) #[] #[], .func (.func 17) #[] #[], .func (.func 18) #[] #[], .func (.func 19) #[] #[], .func (.func 20) #[] #[]] 41)) (w.heap.size + 1) 41 #[.func (.func 15) #[] #[], .func (.func 16) #[] #[], .func (.func 17) #[] #[], .func (.func 18) #[] #[], .func (.func 19) #[] #[], .func (.func 20) #[] #[]]) := Lib.hid (by
    have := Blk.new (w.alloc (.cells #[.int .i64 0, .string ⟨#[]⟩, .slice none 0 0] 30)) 41 #[.func (.func 15) #[] #[], .func (.func 16) #[] #[], .func (.func 17) #[] #[], .func (.func 18) #[] #[], .func (.func 19) #[] #[], .func (.func 20) #[] #[]]; rw [World.size_alloc] at this; exact this)
  have B0 : Hid (Below w.heap.size w ((w.alloc (.cells #[.int .i64 0, .string ⟨#[]⟩, .slice none 0 0] 30)).alloc (.cells #[.func (.func 15) #[] #[], .func (.func 16) #[] #[], .func (.func 17) #[] #[], .func (.func 18) #[] #[], .func (.func 19) #[] #[], .func (.func 20) #[] #[]] 41))) := Lib.hid (((Below.refl _ w).alloc (Nat.le_refl _) _).alloc (by simp) _)
  have K := implKn2 ((w.alloc (.cells #[.int .i64 0, .string ⟨#[]⟩, .slice none 0 0] 30)).alloc (.cells #[.func (.func 15) #[] #[], .func (.func 16) #[] #[], .func (.func 17) #[] #[], .func (.func 18) #[] #[], .func (.func 19) #[] #[], .func (.func 20) #[] #[]] 41))
  have fk : ((w.alloc (.cells #[.int .i64 0, .string ⟨#[]⟩, .slice none 0 0] 30)).alloc (.cells #[.func (.func 15) #[] #[], .func (.func 16) #[] #[], .func (.func 17) #[] #[], .func (.func 18) #[] #[], .func (.func 19) #[] #[], .func (.func 20) #[] #[]] 41)).cell? ⟨w.heap.size + 1, 2, none⟩ = some (.func (.func 17) #[] #[]) := f0.out.cell 2
  go_enter Tryz.func7, Tryz.ntmps7
  go_wp2_with fail
  refine K.mono ?_
  rintro e w1 ⟨A, m, c, us, rfl, s1, hm, l1, b1⟩
  clear K
  have P1 := Lib.hid (p0.out.below b1 p0.out.lt)
  have B1 := btr B0.out b1
  have S1 : SS w1 (w.heap.size + 2) (w.heap.size + 2) A m c us (knG 2) := by simpa using s1
  have hs1 : w.heap.size + 2 ≤ w1.heap.size := by have := b1.size; simpa using this
  have y0 := P1.out.cell 0
  have y1 := P1.out.cell 1
  have y2 := P1.out.cell 2
  have g0 := P1.out.frozen 0
  have g1 := P1.out.frozen 1
  have g2 := P1.out.frozen 2
  go_wp2_with fail
  obtain ⟨W2, e2⟩ : ∃ W2, w1.setCell ⟨w.heap.size, 0, none⟩ (.int .i64 6) = W2 := ⟨_, rfl⟩
  obtain ⟨W3, e3⟩ : ∃ W3, W2.setCell ⟨w.heap.size, 1, none⟩ (.string ⟨#[65, 66]⟩) = W3 := ⟨_, rfl⟩
  obtain ⟨W4, e4⟩ : ∃ W4, W3.setCell ⟨w.heap.size, 2, none⟩ (.slice A m c) = W4 := ⟨_, rfl⟩
  rw [e2, e3, e4]
  have D2 : Blk W2 w.heap.size 30 #[.int .i64 6, .string ⟨#[]⟩, .slice none 0 0] := by rw [← e2]; exact P1.out.set_ 0 _
  have D3 : Blk W3 w.heap.size 30 #[.int .i64 6, .string ⟨#[65, 66]⟩, .slice none 0 0] := by rw [← e3]; exact D2.set_ 1 _
  have D4 : Blk W4 w.heap.size 30 #[.int .i64 6, .string ⟨#[65, 66]⟩, .slice A m c] := by rw [← e4]; exact D3.set_ 2 _
  have r1 := D4.cell 0
  have r2 := D4.cell 1
  have r3 := D4.cell 2
  have Be : Below w.heap.size w W4 := by
    rw [← e4, ← e3, ← e2]
    exact ((B1.setCell (p := ⟨w.heap.size, 0, none⟩) (Nat.le_refl _) _).setCell (p := ⟨w.heap.size, 1, none⟩) (Nat.le_refl _) _).setCell (p := ⟨w.heap.size, 2, none⟩) (Nat.le_refl _) _
  have LA := S1.lt_
  have LI := fun t ht => (S1.row t ht).lt_
  have S6 := (S1).farR (w' := W2) (r := w.heap.size) (by rw [← e2]; exact grown_set (grown_refl _ _) _ _) LA LI (.inl (by simp))
  have S7 := (S6).farR (w' := W3) (r := w.heap.size) (by rw [← e3]; exact grown_set (grown_refl _ _) _ _) LA LI (.inl (by simp))
  have S8 := (S7).farR (w' := W4) (r := w.heap.size) (by rw [← e4]; exact grown_set (grown_refl _ _) _ _) LA LI (.inl (by simp))
  clear e2 e3 e4
  exact bodyPost_ret (v := .tuple #[.agg #[.int .i64 6, .string ⟨#[65, 66]⟩, .slice A m c], .bool true]) (by simp [results, Tryz.results7, r1, r2, r3, go_sem]) rfl ⟨A, m, c, us, rfl, S8.mono (by simp) (by simp), by omega, l1, Be⟩
set_option maxHeartbeats 4000000 in
set_option maxRecDepth 100000 in
theorem implKP3 (w : World) :
    Calls Tryz.prog 7 #[.int .i64 3] w fun e w' => ∃ A m c us, e = .returned (.tuple #[.agg #[.int .i64 7, .string ⟨#[65, 66, 67]⟩, .slice A m c], .bool true]) ∧ SS w' w.heap.size w.heap.size A m c us (knG 3) ∧ m ≤ 4 ∧ (∀ i, i < m → (us.getD i sd0).2.1 ≤ 20) ∧ Below w.heap.size w w' := by
  have p0 : Hid (Blk ((w.alloc (.cells #[.int .i64 0, .string ⟨#[]⟩, .slice none 0 0] 30)).alloc (.cells #[.func (.func 15) #[] #[], .func (.func 16) #[] #[], .func (.func 17) #[] #[], .func (.func 18) #[] #[], .func (.func 19) #[] #[], .func (.func 20) #[] #[]] 41)) w.heap.size 30 #[.int .i64 0, .string ⟨#[]⟩, .slice none 0 0]) := Lib.hid ((Blk.new w _ _).alloc _)
  have f0 : Hid (Blk ((w.alloc (.cells #[.int .i64 0, .string ⟨#[]⟩, .slice none 0 0] 30)).alloc (.cells #[.func (.func 15) #[] #[], .func (.func 16) #[] #[], .func (.func 17) #[] #[], .func (.func 18) #[] #[], .func (.func 19) #[] #[], .func (.func 20) #[] #[]] 41)) (w.heap.size + 1) 41 #[.func (.func 15) #[] #[], .func (.func 16) #[] #[], .func (.func 17) #[] #[], .func (.func 18) #[] #[], .func (.func 19) #[] #[], .func (.func 20) #[] #[]]) := Lib.hid (by
    have := Blk.new (w.alloc (.cells #[.int .i64 0, .string ⟨#[]⟩, .slice none 0 0] 30)) 41 #[.func (.func 15) #[] #[], .func (.func 16) #[] #[], .func (.func 17) #[] #[], .func (.func 18) #[] #[], .func (.func 19) #[] #[], .func (.func 20) #[] #[]]; rw [World.size_alloc] at this; exact this)
  have B0 : Hid (Below w.heap.size w ((w.alloc (.cells #[.int .i64 0, .string ⟨#[]⟩, .slice none 0 0] 30)).alloc (.cells #[.func (.func 15) #[] #[], .func (.func 16) #[] #[], .func (.func 17) #[] #[], .func (.func 18) #[] #[], .func (.func 19) #[] #[], .func (.func 20) #[] #[]] 41))) := Lib.hid (((Below.refl _ w).alloc (Nat.le_refl _) _).alloc (by simp) _)
  have K := implKn3 ((w.alloc (.cells #[.int .i64 0, .string ⟨#[]⟩, .slice none 0 0] 30)).alloc (.cells #[.func (.func 15) #[] #[], .func (.func 16) #[] #[], .func (.func 17) #[] #[], .func (.func 18) #[] #[], .func (.func 19) #[] #[], .func (.func 20) #[] #[]] 41))
  have fk : ((w.alloc (.cells #[.int .i64 0, .string ⟨#[]⟩, .slice none 0 0] 30)).alloc (.cells #[.func (.func 15) #[] #[], .func (.func 16) #[] #[], .func (.func 17) #[] #[], .func (.func 18) #[] #[], .func (.func 19) #[] #[], .func (.func 20) #[] #[]] 41)).cell? ⟨w.heap.size + 1, 3, none⟩ = some (.func (.func 18) #[] #[]) := f0.out.cell 3
  go_enter Tryz.func7, Tryz.ntmps7
  go_wp2_with fail
  refine K.mono ?_
  rintro e w1 ⟨A, m, c, us, rfl, s1, hm, l1, b1⟩
  clear K
  have P1 := Lib.hid (p0.out.below b1 p0.out.lt)
  have B1 := btr B0.out b1
  have S1 : SS w1 (w.heap.size + 2) (w.heap.size + 2) A m c us (knG 3) := by simpa using s1
  have hs1 : w.heap.size + 2 ≤ w1.heap.size := by have := b1.size; simpa using this
  have y0 := P1.out.cell 0
  have y1 := P1.out.cell 1
  have y2 := P1.out.cell 2
  have g0 := P1.out.frozen 0
  have g1 := P1.out.frozen 1
  have g2 := P1.out.frozen 2
  go_wp2_with fail
  obtain ⟨W2, e2⟩ : ∃ W2, w1.setCell ⟨w.heap.size, 0, none⟩ (.int .i64 7) = W2 := ⟨_, rfl⟩
  obtain ⟨W3, e3⟩ : ∃ W3, W2.setCell ⟨w.heap.size, 1, none⟩ (.string ⟨#[65, 66, 67]⟩) = W3 := ⟨_, rfl⟩
  obtain ⟨W4, e4⟩ : ∃ W4, W3.setCell ⟨w.heap.size, 2, none⟩ (.slice A m c) = W4 := ⟨_, rfl⟩
  rw [e2, e3, e4]
  have D2 : Blk W2 w.heap.size 30 #[.int .i64 7, .string ⟨#[]⟩, .slice none 0 0] := by rw [← e2]; exact P1.out.set_ 0 _
  have D3 : Blk W3 w.heap.size 30 #[.int .i64 7, .string ⟨#[65, 66, 67]⟩, .slice none 0 0] := by rw [← e3]; exact D2.set_ 1 _
  have D4 : Blk W4 w.heap.size 30 #[.int .i64 7, .string ⟨#[65, 66, 67]⟩, .slice A m c] := by rw [← e4]; exact D3.set_ 2 _
  have r1 := D4.cell 0
  have r2 := D4.cell 1
  have r3 := D4.cell 2
  have Be : Below w.heap.size w W4 := by
    rw [← e4, ← e3, ← e2]
    exact ((B1.setCell (p := ⟨w.heap.size, 0, none⟩) (Nat.le_refl _) _).setCell (p := ⟨w.heap.size, 1, none⟩) (Nat.le_refl _) _).setCell (p := ⟨w.heap.size, 2, none⟩) (Nat.le_refl _) _
  have LA := S1.lt_
  have LI := fun t ht => (S1.row t ht).lt_
  have S6 := (S1).farR (w' := W2) (r := w.heap.size) (by rw [← e2]; exact grown_set (grown_refl _ _) _ _) LA LI (.inl (by simp))
  have S7 := (S6).farR (w' := W3) (r := w.heap.size) (by rw [← e3]; exact grown_set (grown_refl _ _) _ _) LA LI (.inl (by simp))
  have S8 := (S7).farR (w' := W4) (r := w.heap.size) (by rw [← e4]; exact grown_set (grown_refl _ _) _ _) LA LI (.inl (by simp))
  clear e2 e3 e4
  exact bodyPost_ret (v := .tuple #[.agg #[.int .i64 7, .string ⟨#[65, 66, 67]⟩, .slice A m c], .bool true]) (by simp [results, Tryz.results7, r1, r2, r3, go_sem]) rfl ⟨A, m, c, us, rfl, S8.mono (by simp) (by simp), by omega, l1, Be⟩
set_option maxHeartbeats 4000000 in
set_option maxRecDepth 100000 in
theorem implKP4 (w : World) :
    Calls Tryz.prog 7 #[.int .i64 4] w fun e w' => ∃ A m c us, e = .returned (.tuple #[.agg #[.int .i64 12, .string ⟨#[65, 66, 67, 68]⟩, .slice A m c], .bool true]) ∧ SS w' w.heap.size w.heap.size A m c us (knG 4) ∧ m ≤ 4 ∧ (∀ i, i < m → (us.getD i sd0).2.1 ≤ 20) ∧ Below w.heap.size w w' := by
  have p0 : Hid (Blk ((w.alloc (.cells #[.int .i64 0, .string ⟨#[]⟩, .slice none 0 0] 30)).alloc (.cells #[.func (.func 15) #[] #[], .func (.func 16) #[] #[], .func (.func 17) #[] #[], .func (.func 18) #[] #[], .func (.func 19) #[] #[], .func (.func 20) #[] #[]] 41)) w.heap.size 30 #[.int .i64 0, .string ⟨#[]⟩, .slice none 0 0]) := Lib.hid ((Blk.new w _ _).alloc _)
  have f0 : Hid (Blk ((w.alloc (.cells #[.int .i64 0, .string ⟨#[]⟩, .slice none 0 0] 30)).alloc (.cells #[.func (.func 15) #[] #[], .func (.func 16) #[] #[], .func (.func 17) #[] #[], .func (.func 18) #[] #[], .func (.func 19) #[] #[], .func (.func 20) #[] #[]] 41)) (w.heap.size + 1) 41 #[.func (.func 15) #[] #[], .func (.func 16) #[] #[], .func (.func 17) #[] #[], .func (.func 18) #[] #[], .func (.func 19) #[] #[], .func (.func 20) #[] #[]]) := Lib.hid (by
    have := Blk.new (w.alloc (.cells #[.int .i64 0, .string ⟨#[]⟩, .slice none 0 0] 30)) 41 #[.func (.func 15) #[] #[], .func (.func 16) #[] #[], .func (.func 17) #[] #[], .func (.func 18) #[] #[], .func (.func 19) #[] #[], .func (.func 20) #[] #[]]; rw [World.size_alloc] at this; exact this)
  have B0 : Hid (Below w.heap.size w ((w.alloc (.cells #[.int .i64 0, .string ⟨#[]⟩, .slice none 0 0] 30)).alloc (.cells #[.func (.func 15) #[] #[], .func (.func 16) #[] #[], .func (.func 17) #[] #[], .func (.func 18) #[] #[], .func (.func 19) #[] #[], .func (.func 20) #[] #[]] 41))) := Lib.hid (((Below.refl _ w).alloc (Nat.le_refl _) _).alloc (by simp) _)
  have K := implKn4 ((w.alloc (.cells #[.int .i64 0, .string ⟨#[]⟩, .slice none 0 0] 30)).alloc (.cells #[.func (.func 15) #[] #[], .func (.func 16) #[] #[], .func (.func 17) #[] #[], .func (.func 18) #[] #[], .func (.func 19) #[] #[], .func (.func 20) #[] #[]] 41))
  have fk : ((w.alloc (.cells #[.int .i64 0, .string ⟨#[]⟩, .slice none 0 0] 30)).alloc (.cells #[.func (.func 15) #[] #[], .func (.func 16) #[] #[], .func (.func 17) #[] #[], .func (.func 18) #[] #[], .func (.func 19) #[] #[], .func (.func 20) #[] #[]] 41)).cell? ⟨w.heap.size + 1, 4, none⟩ = some (.func (.func 19) #[] #[]) := f0.out.cell 4
  go_enter Tryz.func7, Tryz.ntmps7
  go_wp2_with fail
  refine K.mono ?_
  rintro e w1 ⟨A, m, c, us, rfl, s1, hm, l1, b1⟩
  clear K
  have P1 := Lib.hid (p0.out.below b1 p0.out.lt)
  have B1 := btr B0.out b1
  have S1 : SS w1 (w.heap.size + 2) (w.heap.size + 2) A m c us (knG 4) := by simpa using s1
  have hs1 : w.heap.size + 2 ≤ w1.heap.size := by have := b1.size; simpa using this
  have y0 := P1.out.cell 0
  have y1 := P1.out.cell 1
  have y2 := P1.out.cell 2
  have g0 := P1.out.frozen 0
  have g1 := P1.out.frozen 1
  have g2 := P1.out.frozen 2
  go_wp2_with fail
  obtain ⟨W2, e2⟩ : ∃ W2, w1.setCell ⟨w.heap.size, 0, none⟩ (.int .i64 12) = W2 := ⟨_, rfl⟩
  obtain ⟨W3, e3⟩ : ∃ W3, W2.setCell ⟨w.heap.size, 1, none⟩ (.string ⟨#[65, 66, 67, 68]⟩) = W3 := ⟨_, rfl⟩
  obtain ⟨W4, e4⟩ : ∃ W4, W3.setCell ⟨w.heap.size, 2, none⟩ (.slice A m c) = W4 := ⟨_, rfl⟩
  rw [e2, e3, e4]
  have D2 : Blk W2 w.heap.size 30 #[.int .i64 12, .string ⟨#[]⟩, .slice none 0 0] := by rw [← e2]; exact P1.out.set_ 0 _
  have D3 : Blk W3 w.heap.size 30 #[.int .i64 12, .string ⟨#[65, 66, 67, 68]⟩, .slice none 0 0] := by rw [← e3]; exact D2.set_ 1 _
  have D4 : Blk W4 w.heap.size 30 #[.int .i64 12, .string ⟨#[65, 66, 67, 68]⟩, .slice A m c] := by rw [← e4]; exact D3.set_ 2 _
  have r1 := D4.cell 0
  have r2 := D4.cell 1
  have r3 := D4.cell 2
  have Be : Below w.heap.size w W4 := by
    rw [← e4, ← e3, ← e2]
    exact ((B1.setCell (p := ⟨w.heap.size, 0, none⟩) (Nat.le_refl _) _).setCell (p := ⟨w.heap.size, 1, none⟩) (Nat.le_refl _) _).setCell (p := ⟨w.heap.size, 2, none⟩) (Nat.le_refl _) _
  have LA := S1.lt_
  have LI := fun t ht => (S1.row t ht).lt_
  have S6 := (S1).farR (w' := W2) (r := w.heap.size) (by rw [← e2]; exact grown_set (grown_refl _ _) _ _) LA LI (.inl (by simp))
  have S7 := (S6).farR (w' := W3) (r := w.heap.size) (by rw [← e3]; exact grown_set (grown_refl _ _) _ _) LA LI (.inl (by simp))
  have S8 := (S7).farR (w' := W4) (r := w.heap.size) (by rw [← e4]; exact grown_set (grown_refl _ _) _ _) LA LI (.inl (by simp))
  clear e2 e3 e4
  exact bodyPost_ret (v := .tuple #[.agg #[.int .i64 12, .string ⟨#[65, 66, 67, 68]⟩, .slice A m c], .bool true]) (by simp [results, Tryz.results7, r1, r2, r3, go_sem]) rfl ⟨A, m, c, us, rfl, S8.mono (by simp) (by simp), by omega, l1, Be⟩
set_option maxHeartbeats 4000000 in
set_option maxRecDepth 100000 in
theorem implKP5 (w : World) :
    Calls Tryz.prog 7 #[.int .i64 5] w fun e w' => ∃ A m c us, e = .returned (.tuple #[.agg #[.int .i64 12, .string ⟨#[65, 66, 67, 68]⟩, .slice A m c], .bool true]) ∧ SS w' w.heap.size w.heap.size A m c us (knG 5) ∧ m ≤ 4 ∧ (∀ i, i < m → (us.getD i sd0).2.1 ≤ 20) ∧ Below w.heap.size w w' := by
  have p0 : Hid (Blk ((w.alloc (.cells #[.int .i64 0, .string ⟨#[]⟩, .slice none 0 0] 30)).alloc (.cells #[.func (.func 15) #[] #[], .func (.func 16) #[] #[], .func (.func 17) #[] #[], .func (.func 18) #[] #[], .func (.func 19) #[] #[], .func (.func 20) #[] #[]] 41)) w.heap.size 30 #[.int .i64 0, .string ⟨#[]⟩, .slice none 0 0]) := Lib.hid ((Blk.new w _ _).alloc _)
  have f0 : Hid (Blk ((w.alloc (.cells #[.int .i64 0, .string ⟨#[]⟩, .slice none 0 0] 30)).alloc (.cells #[.func (.func 15) #[] #[], .func (.func 16) #[] #[], .func (.func 17) #[] #[], .func (.func 18) #[] #[], .func (.func 19) #[] #[], .func (.func 20) #[] #[]] 41)) (w.heap.size + 1) 41 #[.func (.func 15) #[] #[], .func (.func 16) #[] #[], .func (.func 17) #[] #[], .func (.func 18) #[] #[], .func (.func 19) #[] #[], .func (.func 20) #[] #[]]) := Lib.hid (by
    have := Blk.new (w.alloc (.cells #[.int .i64 0, .string ⟨#[]⟩, .slice none 0 0] 30)) 41 #[.func (.func 15) #[] #[], .func (.func 16) #[] #[], .func (.func 17) #[] #[], .func (.func 18) #[] #[], .func (.func 19) #[] #[], .func (.func 20) #[] #[]]; rw [World.size_alloc] at this; exact this)
  have B0 : Hid (Below w.heap.size w ((w.alloc (.cells #[.int .i64 0, .string ⟨#[]⟩, .slice none 0 0] 30)).alloc (.cells #[.func (.func 15) #[] #[], .func (.func 16) #[] #[], .func (.func 17) #[] #[], .func (.func 18) #[] #[], .func (.func 19) #[] #[], .func (.func 20) #[] #[]] 41))) := Lib.hid (((Below.refl _ w).alloc (Nat.le_refl _) _).alloc (by simp) _)
  have K := implKn5 ((w.alloc (.cells #[.int .i64 0, .string ⟨#[]⟩, .slice none 0 0] 30)).alloc (.cells #[.func (.func 15) #[] #[], .func (.func 16) #[] #[], .func (.func 17) #[] #[], .func (.func 18) #[] #[], .func (.func 19) #[] #[], .func (.func 20) #[] #[]] 41))
  have fk : ((w.alloc (.cells #[.int .i64 0, .string ⟨#[]⟩, .slice none 0 0] 30)).alloc (.cells #[.func (.func 15) #[] #[], .func (.func 16) #[] #[], .func (.func 17) #[] #[], .func (.func 18) #[] #[], .func (.func 19) #[] #[], .func (.func 20) #[] #[]] 41)).cell? ⟨w.heap.size + 1, 5, none⟩ = some (.func (.func 20) #[] #[]) := f0.out.cell 5
  go_enter Tryz.func7, Tryz.ntmps7
  go_wp2_with fail
  refine K.mono ?_
  rintro e w1 ⟨A, m, c, us, rfl, s1, hm, l1, b1⟩
  clear K
  have P1 := Lib.hid (p0.out.below b1 p0.out.lt)
  have B1 := btr B0.out b1
  have S1 : SS w1 (w.heap.size + 2) (w.heap.size + 2) A m c us (knG 5) := by simpa using s1
  have hs1 : w.heap.size + 2 ≤ w1.heap.size := by have := b1.size; simpa using this
  have y0 := P1.out.cell 0
  have y1 := P1.out.cell 1
  have y2 := P1.out.cell 2
  have g0 := P1.out.frozen 0
  have g1 := P1.out.frozen 1
  have g2 := P1.out.frozen 2
  go_wp2_with fail
  obtain ⟨W2, e2⟩ : ∃ W2, w1.setCell ⟨w.heap.size, 0, none⟩ (.int .i64 12) = W2 := ⟨_, rfl⟩
  obtain ⟨W3, e3⟩ : ∃ W3, W2.setCell ⟨w.heap.size, 1, none⟩ (.string ⟨#[65, 66, 67, 68]⟩) = W3 := ⟨_, rfl⟩
  obtain ⟨W4, e4⟩ : ∃ W4, W3.setCell ⟨w.heap.size, 2, none⟩ (.slice A m c) = W4 := ⟨_, rfl⟩
  rw [e2, e3, e4]
  have D2 : Blk W2 w.heap.size 30 #[.int .i64 12, .string ⟨#[]⟩, .slice none 0 0] := by rw [← e2]; exact P1.out.set_ 0 _
  have D3 : Blk W3 w.heap.size 30 #[.int .i64 12, .string ⟨#[65, 66, 67, 68]⟩, .slice none 0 0] := by rw [← e3]; exact D2.set_ 1 _
  have D4 : Blk W4 w.heap.size 30 #[.int .i64 12, .string ⟨#[65, 66, 67, 68]⟩, .slice A m c] := by rw [← e4]; exact D3.set_ 2 _
  have r1 := D4.cell 0
  have r2 := D4.cell 1
  have r3 := D4.cell 2
  have Be : Below w.heap.size w W4 := by
    rw [← e4, ← e3, ← e2]
    exact ((B1.setCell (p := ⟨w.heap.size, 0, none⟩) (Nat.le_refl _) _).setCell (p := ⟨w.heap.size, 1, none⟩) (Nat.le_refl _) _).setCell (p := ⟨w.heap.size, 2, none⟩) (Nat.le_refl _) _
  have LA := S1.lt_
  have LI := fun t ht => (S1.row t ht).lt_
  have S6 := (S1).farR (w' := W2) (r := w.heap.size) (by rw [← e2]; exact grown_set (grown_refl _ _) _ _) LA LI (.inl (by simp))
  have S7 := (S6).farR (w' := W3) (r := w.heap.size) (by rw [← e3]; exact grown_set (grown_refl _ _) _ _) LA LI (.inl (by simp))
  have S8 := (S7).farR (w' := W4) (r := w.heap.size) (by rw [← e4]; exact grown_set (grown_refl _ _) _ _) LA LI (.inl (by simp))
  clear e2 e3 e4
  exact bodyPost_ret (v := .tuple #[.agg #[.int .i64 12, .string ⟨#[65, 66, 67, 68]⟩, .slice A m c], .bool true]) (by simp [results, Tryz.results7, r1, r2, r3, go_sem]) rfl ⟨A, m, c, us, rfl, S8.mono (by simp) (by simp), by omega, l1, Be⟩
set_option maxHeartbeats 4000000 in
set_option maxRecDepth 100000 in
theorem implKPX (k : Int) (w : World) (h : k < 0 ∨ 6 ≤ k) :
    Calls Tryz.prog 7 #[.int .i64 k] w fun e w' => ∃ A m c us, e = .returned (.tuple #[.agg #[.int .i64 0, .string ⟨#[]⟩, .slice A m c], .bool false]) ∧ SS w' w.heap.size w.heap.size A m c us (knG 9) ∧ m ≤ 4 ∧ (∀ i, i < m → (us.getD i sd0).2.1 ≤ 20) ∧ Below w.heap.size w w' := by
  have p0 : Hid (Blk ((w.alloc (.cells #[.int .i64 0, .string ⟨#[]⟩, .slice none 0 0] 30)).alloc (.cells #[.func (.func 15) #[] #[], .func (.func 16) #[] #[], .func (.func 17) #[] #[], .func (.func 18) #[] #[], .func (.func 19) #[] #[], .func (.func 20) #[] #[]] 41)) w.heap.size 30 #[.int .i64 0, .string ⟨#[]⟩, .slice none 0 0]) := Lib.hid ((Blk.new w _ _).alloc _)
  have B0 : Below w.heap.size w ((w.alloc (.cells #[.int .i64 0, .string ⟨#[]⟩, .slice none 0 0] 30)).alloc (.cells #[.func (.func 15) #[] #[], .func (.func 16) #[] #[], .func (.func 17) #[] #[], .func (.func 18) #[] #[], .func (.func 19) #[] #[], .func (.func 20) #[] #[]] 41)) := ((Below.refl _ w).alloc (Nat.le_refl _) _).alloc (by simp) _
  obtain ⟨W1, eW⟩ : ∃ W1, ((w.alloc (.cells #[.int .i64 0, .string ⟨#[]⟩, .slice none 0 0] 30)).alloc (.cells #[.func (.func 15) #[] #[], .func (.func 16) #[] #[], .func (.func 17) #[] #[], .func (.func 18) #[] #[], .func (.func 19) #[] #[], .func (.func 20) #[] #[]] 41)) = W1 := ⟨_, rfl⟩
  rw [eW] at p0 B0
  have y0 := p0.out.cell 0
  have y1 := p0.out.cell 1
  have y2 := p0.out.cell 2
  have g0 := p0.out.frozen 0
  have g1 := p0.out.frozen 1
  have g2 := p0.out.frozen 2
  have Q2 : ∀ (W : World), Blk W w.heap.size 30 #[.int .i64 0, .string ⟨#[]⟩, .slice none 0 0] → Below w.heap.size w W → ∃ W4, ((W.setCell ⟨w.heap.size, 0, none⟩ (.int .i64 0)).setCell ⟨w.heap.size, 1, none⟩ (.string ⟨#[]⟩)).setCell ⟨w.heap.size, 2, none⟩ (.slice none 0 0) = W4 ∧ Blk W4 w.heap.size 30 #[.int .i64 0, .string ⟨#[]⟩, .slice none 0 0] ∧ Below w.heap.size w W4 := fun W a b =>
    ⟨_, rfl, ((a.set_ 0 (.int .i64 0)).set_ 1 (.string ⟨#[]⟩)).set_ 2 (.slice none 0 0), ((b.setCell (p := ⟨w.heap.size, 0, none⟩) (Nat.le_refl _) _).setCell (p := ⟨w.heap.size, 1, none⟩) (Nat.le_refl _) _).setCell (p := ⟨w.heap.size, 2, none⟩) (Nat.le_refl _) _⟩
  obtain ⟨W4, e4, D4, Be⟩ := Q2 W1 p0.out B0
  have r1 := D4.cell 0
  have r2 := D4.cell 1
  have r3 := D4.cell 2
  rcases h with h | h
  · have d0 : decide (k < 0) = true := decide_eq_true h
    go_enter Tryz.func7, Tryz.ntmps7
    go_wp2_with fail
    try rw [eW]
    go_wp2_with fail
    try rw [e4]
    exact bodyPost_ret (v := .tuple #[.agg #[.int .i64 0, .string ⟨#[]⟩, .slice none 0 0], .bool false]) (by simp [results, Tryz.results7, r1, r2, r3, go_sem]) rfl ⟨none, 0, 0, [], rfl, SS.nil_, by omega, fun i hi => absurd hi (by omega), Be⟩
  · have d0 : decide (k < 0) = false := by simp; omega
    have d1 : decide ((6 : Int) ≤ k) = true := by simp; omega
    go_enter Tryz.func7, Tryz.ntmps7
    go_wp2_with fail
    try rw [eW]
    go_wp2_with fail
    try rw [e4]
    exact bodyPost_ret (v := .tuple #[.agg #[.int .i64 0, .string ⟨#[]⟩, .slice none 0 0], .bool false]) (by simp [results, Tryz.results7, r1, r2, r3, go_sem]) rfl ⟨none, 0, 0, [], rfl, SS.nil_, by omega, fun i hi => absurd hi (by omega), Be⟩
/-- KnownPuzzle. -/
theorem implKnownPuzzle (k : Int) (w : World) :
    Calls Tryz.prog 7 #[.int .i64 k] w fun e w' => ∃ A m c us, e = .returned (.tuple #[.agg #[.int .i64 (knN k), .string (knS k), .slice A m c], .bool (knB k)]) ∧ SS w' w.heap.size w.heap.size A m c us (knG k) ∧ m ≤ 4 ∧ (∀ i, i < m → (us.getD i sd0).2.1 ≤ 20) ∧ Below w.heap.size w w' := by
  by_cases h0 : k = 0
  · subst h0; exact implKP0 w
  by_cases h1 : k = 1
  · subst h1; exact implKP1 w
  by_cases h2 : k = 2
  · subst h2; exact implKP2 w
  by_cases h3 : k = 3
  · subst h3; exact implKP3 w
  by_cases h4 : k = 4
  · subst h4; exact implKP4 w
  by_cases h5 : k = 5
  · subst h5; exact implKP5 w
  have e1 : knN k = 0 := by simp [knN, h0, h1, h2, h3, h4, h5]
  have e2 : knS k = ⟨#[]⟩ := by simp [knS, h0, h1, h2, h3, h4, h5]
  have e3 : knG k = knG 9 := by simp [knG, h0, h1, h2, h3, h4, h5]
  have e4 : knB k = false := by simp [knB]; omega
  rw [e1, e2, e3, e4]; exact implKPX k w (by omega)
end Go.Proofs.YtkjokchhffjidaaGreatDoor

/- Orbits under lists of maps, as a search in the order of discovery; sorted orbits; the sweep over all points. No Go in it. No condition. -/
namespace Go.Proofs.YtkjokchhffjidaaGreatDoor

/-- A rearrangement of the points below N. -/
structure PM (N : Nat) (g : List Int) : Prop where
  len : g.length = N
  lo : ∀ i, i < N → 0 ≤ g.getD i 0
  hi : ∀ i, i < N → g.getD i 0 < N
  inj : ∀ i j, i < N → j < N → g.getD i 0 = g.getD j 0 → i = j
def PMs (N : Nat) (gs : List (List Int)) : Prop := ∀ g ∈ gs, PM N g

theorem PM.nx_lt {N : Nat} {g : List Int} (h : PM N g) {x : Nat} (hx : x < N) : nx g x < N := by
  have := h.lo x hx; have := h.hi x hx; unfold nx; omega
theorem PM.nx_val {N : Nat} {g : List Int} (h : PM N g) {x : Nat} (hx : x < N) : g.getD x 0 = (nx g x : Int) := by
  have := h.lo x hx; unfold nx; omega
theorem PM.nx_inj {N : Nat} {g : List Int} (h : PM N g) {x y : Nat} (hx : x < N) (hy : y < N) (e : nx g x = nx g y) : x = y :=
  h.inj x y hx hy (by rw [h.nx_val hx, h.nx_val hy, e])
theorem IsP.pm {p : List Int} (h : IsP p) : PM p.length p := ⟨rfl, h.lo, h.hi, h.inj⟩

theorem nd_sub {l' : List Nat} : ∀ {l : List Nat}, l'.Nodup → (∀ x ∈ l', x ∈ l) → l'.length ≤ l.length := by
  induction l' with
  | nil => intro l _ _; simp
  | cons a t ih =>
    intro l hd h
    rw [List.nodup_cons] at hd
    have ha : a ∈ l := h a (by simp)
    have := ih (l := l.erase a) hd.2 fun x hx => by
      have hne : x ≠ a := fun e => hd.1 (e ▸ hx)
      exact (List.mem_erase_of_ne hne).2 (h x (by simp [hx]))
    rw [List.length_erase_of_mem ha] at this
    have h0 : 0 < l.length := List.length_pos_of_mem ha
    simp; omega
/-- A nodup list within another of the same length is all of it. -/
theorem nd_all {l' l : List Nat} (hd : l'.Nodup) (h : ∀ x ∈ l', x ∈ l) (hl : l.length ≤ l'.length) : ∀ y ∈ l, y ∈ l' := fun y hy => by
  rcases Decidable.em (y ∈ l') with h1 | h1
  · exact h1
  · have := nd_sub (l' := y :: l') (l := l) (List.nodup_cons.2 ⟨h1, hd⟩) (fun x hx => by
      rcases List.mem_cons.1 hx with rfl | hx
      · exact hy
      · exact h x hx)
    simp at this; omega
theorem nd_map {f : Nat → Nat} {l : List Nat} (hd : l.Nodup) (hf : ∀ x ∈ l, ∀ y ∈ l, f x = f y → x = y) : (l.map f).Nodup := by
  induction l with
  | nil => simp
  | cons a t ih =>
    rw [List.nodup_cons] at hd
    rw [List.map_cons, List.nodup_cons]
    refine ⟨fun hm => ?_, ih hd.2 fun x hx y hy => hf x (by simp [hx]) y (by simp [hy])⟩
    obtain ⟨b, hb, e⟩ := List.mem_map.1 hm
    have := hf b (by simp [hb]) a (by simp) e
    subst this
    exact hd.1 hb

/-! ### reach -/
inductive Rch (gs : List (List Int)) (x : Nat) : Nat → Prop
  | refl : Rch gs x x
  | step {u : Nat} {g : List Int} : Rch gs x u → g ∈ gs → Rch gs x (nx g u)
section
variable {gs : List (List Int)} {N x y z : Nat}
theorem Rch.trans (h : Rch gs x y) (k : Rch gs y z) : Rch gs x z := by
  induction k with
  | refl => exact h
  | step _ hg ih => exact ih.step hg
theorem Rch.lt (hp : PMs N gs) (hx : x < N) (h : Rch gs x y) : y < N := by
  induction h with
  | refl => exact hx
  | step _ hg ih => exact (hp _ hg).nx_lt ih
end

/-! ### the search -/
def addN (f : List Nat) (y : Nat) : List Nat := if y ∈ f then f else f ++ [y]
def expd (gs : List (List Int)) (u : Nat) (f : List Nat) : List Nat := gs.foldl (fun f g => addN f (nx g u)) f
def bfs (gs : List (List Int)) : Nat → Nat → List Nat → List Nat
  | 0, _, f => f
  | fuel + 1, i, f => if i < f.length then bfs gs fuel (i + 1) (expd gs (f.getD i 0) f) else f
/-- The orbit of x in the order of discovery. -/
def orb (gs : List (List Int)) (N x : Nat) : List Nat := bfs gs (N + 1) 0 [x]

theorem bfs_go {gs : List (List Int)} {N i : Nat} {f : List Nat} (hi : i < f.length) (hl : f.length ≤ N) : bfs gs (N + 1 - i) i f = bfs gs (N + 1 - (i + 1)) (i + 1) (expd gs (f.getD i 0) f) := by
  obtain ⟨k, hk⟩ : ∃ k, N + 1 - i = k + 1 := ⟨N - i, by omega⟩
  have hk' : N + 1 - (i + 1) = k := by omega
  rw [hk, hk', bfs, if_pos hi]
theorem bfs_end {gs : List (List Int)} {N i : Nat} {f : List Nat} (hi : f.length ≤ i) : bfs gs (N + 1 - i) i f = f := by
  cases N + 1 - i with
  | zero => rfl
  | succ k => rw [bfs, if_neg (by omega)]

/-- What the search holds of its list. -/
structure Fd (gs : List (List Int)) (N x : Nat) (f : List Nat) : Prop where
  nd : f.Nodup
  lt : ∀ y ∈ f, y < N
  rch : ∀ y ∈ f, Rch gs x y
  pre : ∃ t, f = x :: t
section
variable {gs : List (List Int)} {N x : Nat} {f : List Nat}
theorem Fd.len (h : Fd gs N x f) : f.length ≤ N := ndlen N f h.nd h.lt
theorem Fd.pos (h : Fd gs N x f) : 0 < f.length := by obtain ⟨t, rfl⟩ := h.pre; simp
theorem Fd.one (hx : x < N) : Fd gs N x [x] := ⟨by simp, by simpa using hx, by simpa using Rch.refl, ⟨[], rfl⟩⟩
theorem addN_pre (f : List Nat) (y : Nat) : ∃ t, addN f y = f ++ t := by
  unfold addN; split
  · exact ⟨[], by simp⟩
  · exact ⟨[y], rfl⟩
theorem mem_addN {f : List Nat} {y z : Nat} : z ∈ addN f y ↔ z ∈ f ∨ z = y := by
  unfold addN; split
  · rename_i h
    exact ⟨.inl, fun h' => h'.elim id (fun e => e ▸ h)⟩
  · simp
theorem Fd.add (h : Fd gs N x f) {y : Nat} (hy : y < N) (hr : Rch gs x y) : Fd gs N x (addN f y) := by
  obtain ⟨t, rfl⟩ := h.pre
  refine ⟨?_, fun z hz => ?_, fun z hz => ?_, ?_⟩
  · unfold addN; split
    · exact h.nd
    · rename_i hn
      rw [List.nodup_append]
      refine ⟨h.nd, by simp, fun a ha b hb e => ?_⟩
      obtain rfl : b = y := by simpa using hb
      exact hn (e ▸ ha)
  · rcases mem_addN.1 hz with h1 | rfl
    · exact h.lt z h1
    · exact hy
  · rcases mem_addN.1 hz with h1 | rfl
    · exact h.rch z h1
    · exact hr
  · obtain ⟨t', e⟩ := addN_pre (x :: t) y
    exact ⟨t ++ t', by rw [e]; rfl⟩
theorem expd_pre (gs : List (List Int)) (u : Nat) : ∀ f : List Nat, ∃ t, expd gs u f = f ++ t := by
  unfold expd
  induction gs with
  | nil => intro f; exact ⟨[], by simp⟩
  | cons g gs ih =>
    intro f
    obtain ⟨t, e⟩ := addN_pre f (nx g u)
    obtain ⟨t', e'⟩ := ih (addN f (nx g u))
    exact ⟨t ++ t', by rw [List.foldl_cons, e', e, List.append_assoc]⟩
theorem expd_mem (gs : List (List Int)) (u : Nat) : ∀ f : List Nat, ∀ g ∈ gs, nx g u ∈ expd gs u f := by
  unfold expd
  induction gs with
  | nil => intro f g hg; cases hg
  | cons g gs ih =>
    intro f g' hg'
    rw [List.foldl_cons]
    rcases List.mem_cons.1 hg' with rfl | hg'
    · obtain ⟨t, e⟩ := expd_pre gs u (addN f (nx g' u))
      unfold expd at e
      rw [e, List.mem_append]
      exact .inl (mem_addN.2 (.inr rfl))
    · exact ih _ g' hg'
theorem Fd.fold (hp : PMs N gs) {u : Nat} (hu : u < N) (hr : Rch gs x u) : ∀ (l : List (List Int)), (∀ g ∈ l, g ∈ gs) → ∀ f : List Nat, Fd gs N x f → Fd gs N x (l.foldl (fun f g => addN f (nx g u)) f)
  | [], _, f, h => h
  | g :: l, hl, f, h => by
    rw [List.foldl_cons]
    exact Fd.fold hp hu hr l (fun g' hg' => hl g' (by simp [hg'])) _ (h.add ((hp g (hl g (by simp))).nx_lt hu) (hr.step (hl g (by simp))))
theorem getD_memN {l : List Nat} {i : Nat} (h : i < l.length) : l.getD i 0 ∈ l := by
  rw [List.getD_eq_getElem?_getD, List.getElem?_eq_getElem h]
  exact List.getElem_mem h
theorem getD_preN {l t : List Nat} {i : Nat} (h : i < l.length) : (l ++ t).getD i 0 = l.getD i 0 := by
  rw [List.getD_eq_getElem?_getD, List.getElem?_append_left h, ← List.getD_eq_getElem?_getD]
theorem Fd.exp (hp : PMs N gs) (h : Fd gs N x f) {i : Nat} (hi : i < f.length) : Fd gs N x (expd gs (f.getD i 0) f) :=
  Fd.fold hp (h.lt _ (getD_memN hi)) (h.rch _ (getD_memN hi)) gs (fun _ h => h) f h
/-- The first i are expanded. -/
def Cl (gs : List (List Int)) (i : Nat) (f : List Nat) : Prop := ∀ j, j < i → ∀ g ∈ gs, nx g (f.getD j 0) ∈ f
theorem Cl.exp {i : Nat} (h : Cl gs i f) (hi : i < f.length) : Cl gs (i + 1) (expd gs (f.getD i 0) f) := by
  obtain ⟨t, e⟩ := expd_pre gs (f.getD i 0) f
  intro j hj g hg
  by_cases e2 : j = i
  · subst e2
    have := expd_mem gs (f.getD j 0) f g hg
    rw [e] at this ⊢
    rw [getD_preN hi]
    exact this
  · rw [e, getD_preN (by omega), List.mem_append]
    exact .inl (h j (by omega) g hg)
theorem bfs_spec (hp : PMs N gs) : ∀ (fuel i : Nat) (f : List Nat), Fd gs N x f → Cl gs i f → i ≤ f.length → N + 1 ≤ fuel + i → Fd gs N x (bfs gs fuel i f) ∧ Cl gs (bfs gs fuel i f).length (bfs gs fuel i f)
  | 0, i, f, h, c, hi, hf => by have := h.len; omega
  | fuel + 1, i, f, h, c, hi, hf => by
    rw [bfs]
    split
    · rename_i hlt
      have hpre := expd_pre gs (f.getD i 0) f
      exact bfs_spec hp fuel (i + 1) _ (h.exp hp hlt) (c.exp hlt) (by obtain ⟨t, e⟩ := hpre; rw [e, List.length_append]; omega) (by omega)
    · obtain rfl : i = f.length := by omega
      exact ⟨h, c⟩
end

section
variable {gs : List (List Int)} {N : Nat}
theorem orb_fd (hp : PMs N gs) {x : Nat} (hx : x < N) : Fd gs N x (orb gs N x) :=
  (bfs_spec hp (N + 1) 0 [x] (Fd.one hx) (fun j hj => absurd hj (by omega)) (Nat.zero_le _) (by omega)).1
theorem orb_cl (hp : PMs N gs) {x : Nat} (hx : x < N) : Cl gs (orb gs N x).length (orb gs N x) :=
  (bfs_spec hp (N + 1) 0 [x] (Fd.one hx) (fun j hj => absurd hj (by omega)) (Nat.zero_le _) (by omega)).2
theorem orb_self (hp : PMs N gs) {x : Nat} (hx : x < N) : x ∈ orb gs N x := by
  obtain ⟨t, e⟩ := (orb_fd hp hx).pre
  rw [e]; simp
theorem orb_step (hp : PMs N gs) {x u : Nat} (hx : x < N) (hu : u ∈ orb gs N x) {g : List Int} (hg : g ∈ gs) : nx g u ∈ orb gs N x := by
  obtain ⟨j, hj, e⟩ := List.mem_iff_getElem.1 hu
  have := orb_cl hp hx j hj g hg
  rw [List.getD_eq_getElem?_getD, List.getElem?_eq_getElem hj] at this
  simpa [e] using this
theorem orb_iff (hp : PMs N gs) {x y : Nat} (hx : x < N) : y ∈ orb gs N x ↔ Rch gs x y := by
  refine ⟨(orb_fd hp hx).rch y, fun h => ?_⟩
  induction h with
  | refl => exact orb_self hp hx
  | step _ hg ih => exact orb_step hp hx ih hg
theorem orb_lt (hp : PMs N gs) {x y : Nat} (hx : x < N) (h : y ∈ orb gs N x) : y < N := (orb_fd hp hx).lt y h
theorem orb_sub (hp : PMs N gs) {x y z : Nat} (hx : x < N) (hy : y ∈ orb gs N x) (hz : z ∈ orb gs N y) : z ∈ orb gs N x := by
  have hy' := orb_lt hp hx hy
  rw [orb_iff hp hx] at hy ⊢
  rw [orb_iff hp hy'] at hz
  exact hy.trans hz
/-- Whoever comes into an orbit came out of it. -/
theorem orb_back (hp : PMs N gs) {x u : Nat} (hx : x < N) (hu : u < N) {g : List Int} (hg : g ∈ gs) (h : nx g u ∈ orb gs N x) : u ∈ orb gs N x := by
  have hf := orb_fd hp hx
  have h1 : ((orb gs N x).map (nx g)).Nodup := nd_map hf.nd fun a ha b hb e => (hp g hg).nx_inj (hf.lt a ha) (hf.lt b hb) e
  have h2 := nd_all h1 (l := orb gs N x) (fun a ha => by
    obtain ⟨b, hb, rfl⟩ := List.mem_map.1 ha
    exact orb_step hp hx hb hg) (by simp) _ h
  obtain ⟨b, hb, e⟩ := List.mem_map.1 h2
  rw [← (hp g hg).nx_inj (hf.lt b hb) hu e]
  exact hb
theorem rch_symm (hp : PMs N gs) {x y : Nat} (hx : x < N) (h : Rch gs x y) : Rch gs y x := by
  have hx' : x ∈ orb gs N y := by
    have : ∀ z, Rch gs x z → ∀ y, y < N → z ∈ orb gs N y → x ∈ orb gs N y := by
      intro z hz
      induction hz with
      | refl => intro y _ h; exact h
      | step hu hg ih => intro y hy h; exact ih y hy (orb_back hp hy (hu.lt hp hx) hg h)
    exact this y h y (h.lt hp hx) (orb_self hp (h.lt hp hx))
  exact (orb_iff hp (h.lt hp hx)).1 hx'
theorem orb_symm (hp : PMs N gs) {x y : Nat} (hx : x < N) (h : y ∈ orb gs N x) : x ∈ orb gs N y := by
  have hy := orb_lt hp hx h
  rw [orb_iff hp hx] at h
  rw [orb_iff hp hy]
  exact rch_symm hp hx h
end

/-! ### sorted -/
def oN (gs : List (List Int)) (N x : Nat) : List Nat := (List.range N).filter fun y => decide (y ∈ orb gs N x)
def oS (gs : List (List Int)) (N x : Nat) : List Int := (oN gs N x).map Int.ofNat
theorem mem_oN {gs : List (List Int)} {N x y : Nat} : y ∈ oN gs N x ↔ y < N ∧ y ∈ orb gs N x := by simp [oN]
theorem oN_nd (gs : List (List Int)) (N x : Nat) : (oN gs N x).Nodup := List.nodup_range.filter _
theorem oN_len {gs : List (List Int)} {N : Nat} (hp : PMs N gs) {x : Nat} (hx : x < N) : (oN gs N x).length = (orb gs N x).length :=
  Nat.le_antisymm (nd_sub (oN_nd gs N x) fun y hy => (mem_oN.1 hy).2) (nd_sub (orb_fd hp hx).nd fun y hy => mem_oN.2 ⟨orb_lt hp hx hy, hy⟩)
theorem oN_perm {gs : List (List Int)} {N : Nat} (hp : PMs N gs) {x : Nat} (hx : x < N) : (orb gs N x).Perm (oN gs N x) :=
  (List.perm_ext_iff_of_nodup (orb_fd hp hx).nd (oN_nd gs N x)).2 fun y => ⟨fun hy => mem_oN.2 ⟨orb_lt hp hx hy, hy⟩, fun hy => (mem_oN.1 hy).2⟩
theorem oS_sorted (gs : List (List Int)) (N x : Nat) : (oS gs N x).Pairwise fun a b => a ≤ b := by
  unfold oS oN
  rw [List.pairwise_map]
  refine List.Pairwise.filter _ ?_
  exact (List.pairwise_lt_range (n := N)).imp fun h => by simp; omega
theorem sorted_uniq : ∀ {l l' : List Int}, l.Perm l' → l.Pairwise (· ≤ ·) → l'.Pairwise (· ≤ ·) → l = l' := fun hp h1 h2 =>
  hp.eq_of_pairwise (fun a b _ _ h h' => Int.le_antisymm h h') h1 h2
/-- Whatever sorts the search's list comes to the same list. -/
theorem oS_of {gs : List (List Int)} {N : Nat} (hp : PMs N gs) {x : Nat} (hx : x < N) {l : List Int} (h : l.Perm ((orb gs N x).map Int.ofNat)) (hs : l.Pairwise (· ≤ ·)) : l = oS gs N x :=
  sorted_uniq (h.trans ((oN_perm hp hx).map _)) hs (oS_sorted gs N x)
theorem oS_sort {gs : List (List Int)} {N : Nat} (hp : PMs N gs) {x : Nat} (hx : x < N) : (((orb gs N x).map Int.ofNat).mergeSort fun a b => decide (a ≤ b)) = oS gs N x := by
  refine oS_of hp hx (List.mergeSort_perm _ _) ?_
  have := List.pairwise_mergeSort (le := fun a b : Int => decide (a ≤ b)) (fun a b c h1 h2 => by simp at h1 h2 ⊢; omega) (fun a b => by simp; omega) ((orb gs N x).map Int.ofNat)
  exact this.imp fun h => by simpa using h

/-! ### the sweep -/
/-- y lies in the orbit of one of the first k. -/
def sn (gs : List (List Int)) (N k y : Nat) : Bool := (List.range k).any fun z => decide (y ∈ orb gs N z)
def starts (gs : List (List Int)) (N k : Nat) : List Nat := (List.range k).filter fun z => !sn gs N z z
def orbs (gs : List (List Int)) (N k : Nat) : List (List Int) := (starts gs N k).map (oS gs N)
section
variable {gs : List (List Int)} {N : Nat}
theorem sn_iff {k y : Nat} : sn gs N k y = true ↔ ∃ z, z < k ∧ y ∈ orb gs N z := by simp [sn]
theorem sn_zero (y : Nat) : sn gs N 0 y = false := rfl
theorem sn_succ (k y : Nat) : sn gs N (k + 1) y = (sn gs N k y || decide (y ∈ orb gs N k)) := by
  simp [sn, List.range_succ]
theorem sn_seen (hp : PMs N gs) {k : Nat} (hk : k < N) (h : sn gs N k k = true) (y : Nat) : sn gs N (k + 1) y = sn gs N k y := by
  rw [sn_succ]
  rcases hy : sn gs N k y with _ | _
  · obtain ⟨z, hz, hkz⟩ := sn_iff.1 h
    have : ¬ y ∈ orb gs N k := fun hy' => by
      have : sn gs N k y = true := sn_iff.2 ⟨z, hz, orb_sub hp (by omega) hkz hy'⟩
      rw [hy] at this; cases this
    simp [this]
  · rfl
theorem sn_out (hp : PMs N gs) {k u : Nat} (hk : k ≤ N) (hu : u < N) (h : sn gs N k u = false) {g : List Int} (hg : g ∈ gs) : sn gs N k (nx g u) = false := by
  rcases h' : sn gs N k (nx g u) with _ | _
  · rfl
  · obtain ⟨z, hz, hm⟩ := sn_iff.1 h'
    have : sn gs N k u = true := sn_iff.2 ⟨z, hz, orb_back hp (by omega) hu hg hm⟩
    rw [h] at this; cases this
theorem starts_no {k : Nat} (h : sn gs N k k = true) : starts gs N (k + 1) = starts gs N k := by
  simp [starts, List.range_succ, h]
theorem starts_yes {k : Nat} (h : sn gs N k k = false) : starts gs N (k + 1) = starts gs N k ++ [k] := by
  simp [starts, List.range_succ, h]
theorem orbs_no {k : Nat} (h : sn gs N k k = true) : orbs gs N (k + 1) = orbs gs N k := by rw [orbs, starts_no h, orbs]
theorem orbs_yes {k : Nat} (h : sn gs N k k = false) : orbs gs N (k + 1) = orbs gs N k ++ [oS gs N k] := by rw [orbs, starts_yes h, orbs]; simp
theorem starts_le (k : Nat) : (starts gs N k).length ≤ k := by
  have := List.length_filter_le (fun z => !sn gs N z z) (List.range k)
  simpa [starts] using this
theorem orbs_len (k : Nat) : (orbs gs N k).length = (starts gs N k).length := by simp [orbs]
theorem starts_pre {k m : Nat} (h : k ≤ m) : ∃ t, starts gs N m = starts gs N k ++ t := by
  induction m with
  | zero => exact ⟨[], by obtain rfl : k = 0 := by omega
                          simp⟩
  | succ m ih =>
    by_cases e : k = m + 1
    · exact ⟨[], by rw [e]; simp⟩
    · obtain ⟨t, ht⟩ := ih (by omega)
      rcases hs : sn gs N m m with _ | _
      · exact ⟨t ++ [m], by rw [starts_yes hs, ht, List.append_assoc]⟩
      · exact ⟨t, by rw [starts_no hs, ht]⟩
theorem orbs_pre {k m : Nat} (h : k ≤ m) : ∃ t, orbs gs N m = orbs gs N k ++ t := by
  obtain ⟨t, ht⟩ := starts_pre (gs := gs) (N := N) h
  exact ⟨t.map (oS gs N), by rw [orbs, ht, List.map_append, orbs]⟩
/-- The next orbit that comes. -/
theorem orbs_at {k : Nat} (hk : k < N) (h : sn gs N k k = false) : (orbs gs N N).getD (orbs gs N k).length [] = oS gs N k ∧ (orbs gs N k).length < (orbs gs N N).length := by
  obtain ⟨t, ht⟩ := orbs_pre (gs := gs) (N := N) (show k + 1 ≤ N from hk)
  rw [ht, orbs_yes h]
  refine ⟨?_, by simp⟩
  rw [List.append_assoc, List.getD_eq_getElem?_getD, List.getElem?_append_right (Nat.le_refl _), Nat.sub_self]
  rfl
end
end Go.Proofs.YtkjokchhffjidaaGreatDoor

/- IsGeneratorSet, of the program and of the model. Conditions: at most 1048576 lists of at most 1048576 numbers. -/
namespace Go.Proofs.YtkjokchhffjidaaGreatDoor
open Go.RowKit

/-- What IsGeneratorSet answers. -/
def gB (n : Int) (gs : List (List Int)) : Bool := decide (1 ≤ n ∧ n ≤ 20 ∧ gs.length ≤ 8 ∧ ∀ g ∈ gs, (g.length : Int) = n ∧ isP g = true)
theorem gB_iff {n : Int} {gs : List (List Int)} : gB n gs = true ↔ 1 ≤ n ∧ n ≤ 20 ∧ gs.length ≤ 8 ∧ ∀ g ∈ gs, (g.length : Int) = n ∧ isP g = true := by simp [gB]
theorem gB_no {n : Int} {gs : List (List Int)} (h : ¬ (1 ≤ n ∧ n ≤ 20 ∧ gs.length ≤ 8)) : gB n gs = false := by
  rw [← Bool.not_eq_true, gB_iff]; exact fun h' => h ⟨h'.1, h'.2.1, h'.2.2.1⟩
theorem getD_memL {l : List (List Int)} {k : Nat} (hk : k < l.length) : l.getD k [] ∈ l := by
  rw [List.getD_eq_getElem?_getD, List.getElem?_eq_getElem hk]; exact List.getElem_mem hk
theorem gB_row {n : Int} {gs : List (List Int)} {k : Nat} {y : List Int} (hk : k < gs.length) (ey : gs.getD k [] = y) (h : ¬ ((y.length : Int) = n ∧ isP y = true)) : gB n gs = false := by
  rw [← Bool.not_eq_true, gB_iff]; exact fun h' => h (by rw [← ey]; exact h'.2.2.2 _ (getD_memL hk))
theorem gB_all {n : Int} {gs : List (List Int)} (h0 : 1 ≤ n ∧ n ≤ 20 ∧ gs.length ≤ 8) (h : ∀ j, j < gs.length → ((gs.getD j []).length : Int) = n ∧ isP (gs.getD j []) = true) : gB n gs = true := by
  refine gB_iff.2 ⟨h0.1, h0.2.1, h0.2.2, fun g hg => ?_⟩
  obtain ⟨j, hj, e⟩ := List.mem_iff_getElem.1 hg
  have := h j hj
  rw [List.getD_eq_getElem?_getD, List.getElem?_eq_getElem hj] at this
  simpa [e] using this
theorem gB_pm {n : Int} {gs : List (List Int)} (h : gB n gs = true) : ∃ N : Nat, n = (N : Int) ∧ 1 ≤ N ∧ N ≤ 20 ∧ gs.length ≤ 8 ∧ PMs N gs ∧ ∀ g ∈ gs, IsP g ∧ g.length = N := by
  obtain ⟨h1, h2, h3, h4⟩ := gB_iff.1 h
  refine ⟨n.toNat, by omega, by omega, by omega, h3, fun g hg => ?_, fun g hg => ⟨isP_iff.1 (h4 g hg).2, by have := (h4 g hg).1; omega⟩⟩
  have hl : g.length = n.toNat := by have := (h4 g hg).1; omega
  rw [← hl]
  exact (isP_iff.1 (h4 g hg).2).pm

set_option maxHeartbeats 1600000 in
/-- The program's IsGeneratorSet. -/
theorem implGS (a : Int) (A : Option Addr) (n c : Nat) (vs : List SV) (xss : List (List Int)) (w : World) (hx : RR w w.heap.size A n vs xss) (hn : n ≤ 1048576) (hl : Hid (∀ i, i < n → (vs.getD i sd0).2.1 ≤ 1048576)) :
    Calls Tryz.prog 22 #[.int .i64 a, .slice A n c] w fun e w' => e = .returned (.bool (gB a xss)) ∧ Below w.heap.size w w' := by
  have HX := Lib.hid hx
  have hlx := hx.lx
  clear hx
  by_cases h0 : a < 1
  · have d1 : decide (a < 1) = true := by simp; omega
    have Fin := Lib.hid (gB_no (n := a) (gs := xss) (by omega))
    go_enter Tryz.func22, Tryz.ntmps22
    go_wp2
    go_ret
    exact ⟨ret_bool Fin.out.symm, Below.refl _ _⟩
  · have d1 : decide (a < 1) = false := by simp; omega
    by_cases h1 : 20 < a
    · have d2 : decide (20 < a) = true := by simp; omega
      have Fin := Lib.hid (gB_no (n := a) (gs := xss) (by omega))
      go_enter Tryz.func22, Tryz.ntmps22
      go_wp2
      go_ret
      exact ⟨ret_bool Fin.out.symm, Below.refl _ _⟩
    · have d2 : decide (20 < a) = false := by simp; omega
      by_cases h2 : 8 < n
      · have d3 : decide ((8 : Int) < n) = true := by simp; omega
        have Fin := Lib.hid (gB_no (n := a) (gs := xss) (by omega))
        go_enter Tryz.func22, Tryz.ntmps22
        go_wp2
        go_ret
        exact ⟨ret_bool Fin.out.symm, Below.refl _ _⟩
      · have d3 : decide ((8 : Int) < n) = false := by simp; omega
        go_enter Tryz.func22, Tryz.ntmps22
        go_wp2
        go_loopw [20] (fun i wr => ∃ k : Nat, k ≤ n ∧ i = .int .i64 (k : Nat) ∧ (∀ j, j < k → ((xss.getD j []).length : Int) = a ∧ isP (xss.getD j []) = true) ∧ Below w.heap.size w wr) (fun i _ => n - (intOf i).toNat)
        case atStart => exact ⟨0, Nat.zero_le _, rfl, fun j h => absurd h (by omega), Below.refl _ _⟩
        case round =>
          obtain ⟨k, hk, rfl, hz, bel⟩ := hrel
          have Hz := Lib.hid hz
          have Be := Lib.hid bel
          clear hz bel
          by_cases hlt : k < n
          · obtain ⟨b, off, A5, l, c5, y, rfl, hb, ev, ey, hc0, hr0, hy, hlc⟩ := HX.out.at_ hlt
            have hl1 := hl.out k hlt
            rw [ev] at hl1
            have c1 := (Be.out.cell (p := ⟨b, off + k, none⟩) hb).trans hc0
            have R1 := Lib.hid ((hr0.below Be.out (Nat.le_refl _)).more Be.out.size)
            have Ey := Lib.hid ey
            have Hy : Hid (y.length = l) := Lib.hid hy
            clear ev ey hc0 hr0 hy
            by_cases hla : (l : Int) = a
            · rcases hp : isP y with _ | _
              · have Fin : Hid (gB a xss = false) := Lib.hid (gB_row (by rw [hlx]; exact hlt) Ey.out (by rw [hp]; simp))
                go_wp2_with fail
                refine (implIsP A5 c5 l y wr R1.out Hy (by omega)).mono ?_
                rintro e w2 ⟨rfl, b2⟩
                have B2 : Hid (Below w.heap.size w w2) := Lib.hid (btr Be.out b2)
                clear b2
                rw [hp]
                go_wp2_with fail
                go_ret
                exact ⟨ret_bool Fin.out.symm, B2.out⟩
              · go_wp2_with fail
                refine (implIsP A5 c5 l y wr R1.out Hy (by omega)).mono ?_
                rintro e w2 ⟨rfl, b2⟩
                have B2 : Hid (Below w.heap.size w w2) := Lib.hid (btr Be.out b2)
                clear b2
                have Hp : Hid (isP y = true) := Lib.hid hp
                rw [hp]
                clear hp
                go_wp2_with fail
                go_roundw
                case rel => exact ⟨k + 1, by omega, by go_num, fun j hj => by
                  by_cases e : j = k
                  · subst e; rw [Ey.out, Hy.out]; exact ⟨hla, Hp.out⟩
                  · exact Hz.out j (by omega), B2.out⟩
                case measure => simp [intOf]; omega
            · have Fin : Hid (gB a xss = false) := Lib.hid (gB_row (by rw [hlx]; exact hlt) Ey.out (by rw [Hy.out]; exact fun h => hla h.1))
              go_wp2_with fail
              go_ret
              exact ⟨ret_bool Fin.out.symm, Be.out⟩
          · have hkn : k = n := by omega
            subst hkn
            have Fin : Hid (gB a xss = true) := Lib.hid (gB_all ⟨by omega, by omega, by omega⟩ (fun j hj => Hz.out j (by rw [← hlx]; exact hj)))
            go_wp2
            go_ret
            exact ⟨ret_bool Fin.out.symm, Be.out⟩

set_option maxHeartbeats 1600000 in
/-- The model's IsGeneratorSet. -/
theorem specGS (a : Int) (A : Option Addr) (n c : Nat) (vs : List SV) (xss : List (List Int)) (w : World) (hx : RR w w.heap.size A n vs xss) (hn : n ≤ 1048576) (hl : Hid (∀ i, i < n → (vs.getD i sd0).2.1 ≤ 1048576)) (ha : -9223372036854775808 ≤ a ∧ a ≤ 9223372036854775807) :
    Calls Tryz.prog 35 #[.int .i64 a, .slice A n c] w fun e w' => e = .returned (.bool (gB a xss)) ∧ Below w.heap.size w w' := by
  have HX := Lib.hid hx
  have hlx := hx.lx
  clear hx
  by_cases h0 : 1 ≤ a ∧ a ≤ 20
  · by_cases h2 : 8 < n
    · have d3 : decide ((8 : Int) < n) = true := by simp; omega
      have Fin := Lib.hid (gB_no (n := a) (gs := xss) (by omega))
      go_enter Tryz.func35, Tryz.ntmps35
      go_wp2_with (go_at_call 42; refine (inR_true _ _ _ _ (by omega) (by omega)).mono ?_; rintro e w' ⟨rfl, rfl⟩)
      go_ret
      exact ⟨ret_bool Fin.out.symm, Below.refl _ _⟩
    · have d3 : decide ((8 : Int) < n) = false := by simp; omega
      go_enter Tryz.func35, Tryz.ntmps35
      go_wp2_with (go_at_call 42; refine (inR_true _ _ _ _ (by omega) (by omega)).mono ?_; rintro e w' ⟨rfl, rfl⟩)
      go_loopw [5] (fun i wr => ∃ k : Nat, k ≤ n ∧ i = .int .i64 (k : Nat) ∧ (∀ j, j < k → ((xss.getD j []).length : Int) = a ∧ isP (xss.getD j []) = true) ∧ Below w.heap.size w wr) (fun i _ => n - (intOf i).toNat)
      case atStart => exact ⟨0, Nat.zero_le _, rfl, fun j h => absurd h (by omega), Below.refl _ _⟩
      case round =>
        obtain ⟨k, hk, rfl, hz, bel⟩ := hrel
        have Hz := Lib.hid hz
        have Be := Lib.hid bel
        clear hz bel
        by_cases hlt : k < n
        · obtain ⟨b, off, A5, l, c5, y, rfl, hb, ev, ey, hc0, hr0, hy, hlc⟩ := HX.out.at_ hlt
          have hl1 := hl.out k hlt
          rw [ev] at hl1
          have c1 := (Be.out.cell (p := ⟨b, off + k, none⟩) hb).trans hc0
          have R1 := Lib.hid ((hr0.below Be.out (Nat.le_refl _)).more Be.out.size)
          have Ey := Lib.hid ey
          have Hy : Hid (y.length = l) := Lib.hid hy
          clear ev ey hc0 hr0 hy
          by_cases hla : (l : Int) = a
          · rcases hp : isP y with _ | _
            · have Fin : Hid (gB a xss = false) := Lib.hid (gB_row (by rw [hlx]; exact hlt) Ey.out (by rw [hp]; simp))
              go_wp2_with fail
              refine (quiet_below (specIsP A5 c5 l y wr R1.out Hy (by omega) hlc)).mono ?_
              rintro e w2 ⟨rfl, b2⟩
              have B2 : Hid (Below w.heap.size w w2) := Lib.hid (btr Be.out b2)
              clear b2
              rw [hp]
              go_wp2_with fail
              go_ret
              exact ⟨ret_bool Fin.out.symm, B2.out⟩
            · go_wp2_with fail
              refine (quiet_below (specIsP A5 c5 l y wr R1.out Hy (by omega) hlc)).mono ?_
              rintro e w2 ⟨rfl, b2⟩
              have B2 : Hid (Below w.heap.size w w2) := Lib.hid (btr Be.out b2)
              clear b2
              have Hp : Hid (isP y = true) := Lib.hid hp
              rw [hp]
              clear hp
              go_wp2_with fail
              go_roundw
              case rel => exact ⟨k + 1, by omega, by go_num, fun j hj => by
                by_cases e : j = k
                · subst e; rw [Ey.out, Hy.out]; exact ⟨hla, Hp.out⟩
                · exact Hz.out j (by omega), B2.out⟩
              case measure => simp [intOf]; omega
          · have Fin : Hid (gB a xss = false) := Lib.hid (gB_row (by rw [hlx]; exact hlt) Ey.out (by rw [Hy.out]; exact fun h => hla h.1))
            go_wp2_with fail
            go_ret
            exact ⟨ret_bool Fin.out.symm, Be.out⟩
        · have hkn : k = n := by omega
          subst hkn
          have Fin : Hid (gB a xss = true) := Lib.hid (gB_all ⟨by omega, by omega, by omega⟩ (fun j hj => Hz.out j (by rw [← hlx]; exact hj)))
          go_wp2
          go_ret
          exact ⟨ret_bool Fin.out.symm, Be.out⟩
  · have Fin := Lib.hid (gB_no (n := a) (gs := xss) (by omega))
    go_enter Tryz.func35, Tryz.ntmps35
    go_wp2_with (go_at_call 42; refine (inR_false _ _ _ _ (by omega)).mono ?_; rintro e w' ⟨rfl, rfl⟩)
    go_ret
    exact ⟨ret_bool Fin.out.symm, Below.refl _ _⟩
theorem implIsGeneratorSet (a : Int) (A : Option Addr) (n c : Nat) (vs : List SV) (xss : List (List Int)) (w : World) (hx : RR w w.heap.size A n vs xss) (hn : n ≤ 1048576) (hl : Hid (∀ i, i < n → (vs.getD i sd0).2.1 ≤ 1048576)) :
    Calls Tryz.prog 22 #[.int .i64 a, .slice A n c] w fun e w' => e = .returned (.bool (gB a xss)) ∧ Below w.heap.size w w' := implGS a A n c vs xss w hx hn hl
theorem specIsGeneratorSet (a : Int) (A : Option Addr) (n c : Nat) (vs : List SV) (xss : List (List Int)) (w : World) (hx : RR w w.heap.size A n vs xss) (hn : n ≤ 1048576) (hl : Hid (∀ i, i < n → (vs.getD i sd0).2.1 ≤ 1048576)) (ha : -9223372036854775808 ≤ a ∧ a ≤ 9223372036854775807) :
    Calls Tryz.prog 35 #[.int .i64 a, .slice A n c] w fun e w' => e = .returned (.bool (gB a xss)) ∧ Below w.heap.size w w' := specGS a A n c vs xss w hx hn hl ha
end Go.Proofs.YtkjokchhffjidaaGreatDoor

/- Plain facts: composition is associative, an inverse undoes. No Go in it. No condition. -/
namespace Go.Proofs.YtkjokchhffjidaaGreatDoor
open Go.RowKit

theorem nx_comp {p q : List Int} {k : Nat} (hk : k < p.length) : nx (compL p q) k = nx q (nx p k) := by
  unfold nx; rw [compL_getD hk]; rfl
theorem isP_comp {p q : List Int} (hp : IsP p) (hq : IsP q) (hl : p.length = q.length) : IsP (compL p q) := by
  have hlen := compL_length p q
  refine ⟨by rw [hlen]; exact hp.pos, by rw [hlen]; exact hp.le, fun i hi => ?_, fun i hi => ?_, fun i j hi hj e => ?_⟩
  · rw [hlen] at hi; rw [compL_getD hi]; exact hq.lo _ (by rw [← hl]; exact nx_lt hp hi)
  · rw [hlen] at hi ⊢; rw [compL_getD hi, hl]; exact hq.hi _ (by rw [← hl]; exact nx_lt hp hi)
  · rw [hlen] at hi hj
    rw [compL_getD hi, compL_getD hj] at e
    exact nx_inj hp hi hj (hq.inj _ _ (by rw [← hl]; exact nx_lt hp hi) (by rw [← hl]; exact nx_lt hp hj) e)
theorem comp_assoc {p q r : List Int} (hp : IsP p) (hl : p.length = q.length) : compL (compL p q) r = compL p (compL q r) := by
  refine ext_getD (n := p.length) ((compL_length _ _).trans (compL_length _ _)) (compL_length _ _) fun k hk => ?_
  rw [compL_getD (by rw [compL_length]; exact hk), nx_comp hk, compL_getD hk, compL_getD (by rw [← hl]; exact nx_lt hp hk)]

/-- The point before j. -/
def pre (p : List Int) (j : Nat) : Nat := it p (per p j - 1) j
theorem pre_lt {p : List Int} (hp : IsP p) {j : Nat} (hj : j < p.length) : pre p j < p.length := it_lt hp hj _
theorem nx_pre {p : List Int} (hp : IsP p) {j : Nat} (hj : j < p.length) : nx p (pre p j) = j := by
  obtain ⟨h1, _, h3, _⟩ := per_spec hp hj
  have : it p (per p j - 1 + 1) j = j := by rw [show per p j - 1 + 1 = per p j from by omega]; exact h3
  exact this
theorem invL_at {p : List Int} (hp : IsP p) : ∀ k, k ≤ p.length → ∀ i, i < k → (invL p k).getD (nx p i) 0 = (i : Int) := by
  intro k
  induction k with
  | zero => intro _ i h; omega
  | succ k ih =>
    intro hk i hi
    have hl := invL_length p k
    show ((invL p k).set (p.getD k 0).toNat (k : Int)).getD (nx p i) 0 = _
    rw [set_getD hl (nx_lt hp (by omega))]
    by_cases e : i = k
    · subst e; rw [if_pos (show (p.getD i 0).toNat = nx p i from rfl)]
    · rw [if_neg fun e2 => e (nx_inj hp (by omega) (by omega) (show nx p i = nx p k from e2.symm)), ih (by omega) i (by omega)]
theorem invL_getD {p : List Int} (hp : IsP p) {j : Nat} (hj : j < p.length) : (invL p p.length).getD j 0 = (pre p j : Int) := by
  have := invL_at hp p.length (Nat.le_refl _) (pre p j) (pre_lt hp hj)
  rw [nx_pre hp hj] at this
  exact this
theorem isP_inv {p : List Int} (hp : IsP p) : IsP (invL p p.length) := by
  have hl := invL_length p p.length
  refine ⟨by rw [hl]; exact hp.pos, by rw [hl]; exact hp.le, fun i hi => ?_, fun i hi => ?_, fun i j hi hj e => ?_⟩
  · rw [hl] at hi; rw [invL_getD hp hi]; omega
  · rw [hl] at hi ⊢; rw [invL_getD hp hi]; have := pre_lt hp hi; omega
  · rw [hl] at hi hj
    rw [invL_getD hp hi, invL_getD hp hj] at e
    rw [← nx_pre hp hi, ← nx_pre hp hj, show pre p i = pre p j from by omega]
theorem comp_inv {p : List Int} (hp : IsP p) : compL p (invL p p.length) = idL p.length := by
  refine ext_getD (compL_length _ _) (idL_length _) fun k hk => ?_
  rw [compL_getD hk, idL_getD hk, invL_at hp _ (Nat.le_refl _) k hk]
theorem inv_comp {p : List Int} (hp : IsP p) : compL (invL p p.length) p = idL p.length := by
  refine ext_getD ((compL_length _ _).trans (invL_length _ _)) (idL_length _) fun k hk => ?_
  rw [compL_getD (by rw [invL_length]; exact hk), idL_getD hk]
  have : nx (invL p p.length) k = pre p k := by unfold nx; rw [invL_getD hp hk]; omega
  rw [this, nx_val hp (pre_lt hp hk), nx_pre hp hk]

end Go.Proofs.YtkjokchhffjidaaGreatDoor
