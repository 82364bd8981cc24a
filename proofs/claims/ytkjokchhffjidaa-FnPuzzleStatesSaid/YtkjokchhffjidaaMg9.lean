/- Part 9 of the texts: KnA, KnB, DrawX, DrawT, TypM, Orb, TxM, DrawP, Corr, DrwA, DrwP, DrawM. No condition of its own: each text tells its own. -/
import Derived.Test.YtkjokchhffjidaaMg8
import Derived.Test.YtkjokchhffjidaaMg5
import Derived.Test.YtkjokchhffjidaaMg1
import Derived.Test.YtkjokchhffjidaaMg2
import Derived.Deep.RegionLaw
import Derived.Deep.AppendLies
set_option linter.unusedVariables false
set_option linter.unusedSimpArgs false

/- The model's known puzzles. No condition. -/
namespace Go.Proofs.Ytkjokchhffjidaa
open Go.RowKit

theorem rdC_snoc {n : Int} {ss : List ByteArray} {k : Nat} (hk : k < ss.length) : rdC n (ss.take (k + 1)) = rdC n (ss.take k) ++ [(cycO n (ss.getD k ⟨#[]⟩)).getD []] := by
  unfold rdC
  rw [List.take_add_one, List.map_append, List.getD_eq_getElem?_getD, List.getElem?_eq_getElem hk]; rfl
set_option maxHeartbeats 4000000 in
set_option maxRecDepth 100000 in
/-- puzzleOf at m texts in block b. -/
theorem specPuzzleOf (n : Nat) (b m c : Nat) (ss : List ByteArray) (w : World) (h1 : 1 ≤ n) (h2 : n ≤ 20) (hm : m ≤ 8) (hl : ss.length = m) (hb : b < w.heap.size)
    (hc : Hid (∀ j, j < m → w.cell? ⟨b, j, none⟩ = some (.string (ss.getD j ⟨#[]⟩)))) (hz200 : Hid (∀ j, j < m → (ss.getD j ⟨#[]⟩).size ≤ 200)) (nm : ByteArray) (hnm : Hid (nm = ByteArray.extract ⟨#[65, 66, 67, 68, 69, 70, 71, 72]⟩ 0 m)) :
    Calls Try.prog 120 #[.int .i64 (n : Int), .slice (some ⟨b, 0, none⟩) m c] w fun e w' => ∃ A' c' us, e = .returned (.agg #[.int .i64 (n : Int), .string nm, .slice A' m c']) ∧ SS w' w.heap.size w.heap.size A' m c' us (rdC n ss) ∧ (∀ i, i < m → (us.getD i sd0).2.1 ≤ 20) ∧ Below w.heap.size w w' := by
  have hcc := hc
  obtain ⟨V, hV⟩ : ∃ V, (w.alloc (.cells #[.int .i64 0, .string ⟨#[]⟩, .slice none 0 0] 26)).alloc (.cells #[.int .i64 (n : Int), .string nm, .slice none 0 0] 26) = V := ⟨_, rfl⟩
  have hz : V.heap.size = w.heap.size + 2 := by rw [← hV]; simp
  have b0 : Hid (Blk V w.heap.size 26 #[.int .i64 0, .string ⟨#[]⟩, .slice none 0 0]) := Lib.hid (by rw [← hV]; exact (Blk.new w _ _).alloc _)
  have b1 : Hid (Blk V (w.heap.size + 1) 26 #[.int .i64 (n : Int), .string nm, .slice none 0 0]) := Lib.hid (by
    rw [← hV]; have := Blk.new (w.alloc (.cells #[.int .i64 0, .string ⟨#[]⟩, .slice none 0 0] 26)) 26 #[.int .i64 (n : Int), .string nm, .slice none 0 0]
    rw [World.size_alloc] at this; exact this)
  have BV : Hid (Below w.heap.size w V) := Lib.hid (by rw [← hV]; exact ((Below.refl _ w).alloc (Nat.le_refl _) _).alloc (by simp) _)
  go_enter Try.func120, Try.ntmps120
  go_wp2_with fail
  rw [← hnm.out, hV]
  clear hV
  go_loopg [6] m (fun gg iv wr => ∃ (k : Nat) (us : List SV) (A : Option Addr) (c' : Nat), k ≤ m ∧ m - k ≤ gg ∧ iv = .int .i64 (k : Nat) ∧ Blk wr w.heap.size 26 #[.int .i64 0, .string ⟨#[]⟩, .slice none 0 0] ∧ Blk wr (w.heap.size + 1) 26 #[.int .i64 (n : Int), .string nm, .slice A k c'] ∧ SS wr V.heap.size V.heap.size A k c' us (rdC n (ss.take k)) ∧ (∀ i, i < k → (us.getD i sd0).2.1 ≤ 20) ∧ Below w.heap.size w wr)
  case atStart => exact ⟨0, [], none, 0, Nat.zero_le _, by omega, rfl, b0.out, b1.out, by simpa [rdC] using (SS.nil_ (w := V)), fun i hi => absurd hi (by omega), BV.out⟩
  case round =>
    obtain ⟨k, us, A, c', hk, hgk, rfl, p0, p1, ss5, ln5, bel⟩ := hrel
    have P0 := Lib.hid p0
    have P1 := Lib.hid p1
    have Ss := Lib.hid ss5
    have Ln := Lib.hid ln5
    have Bel := Lib.hid bel
    have x0 := p1.cell 0
    have x1 := p1.cell 1
    have x2 := p1.cell 2
    have hwz : V.heap.size ≤ wr.heap.size := by have := p1.lt; omega
    clear p0 p1 ss5 ln5 bel
    by_cases hkm : k < m
    · obtain ⟨sk, hsk⟩ : ∃ sk, ss.getD k ⟨#[]⟩ = sk := ⟨_, rfl⟩
      have hss : sk.size ≤ 200 := by rw [← hsk]; exact hz200.out k hkm
      have hcell : wr.cell? ⟨b, k, none⟩ = some (.string sk) := by
        rw [Bel.out.cell (p := ⟨b, k, none⟩) hb, ← hsk]; exact hcc.out k hkm
      have q1 : (0 : Int) ≤ k := by omega
      have q2 : (k : Int) < m := by omega
      go_wp2_with fail
      refine (specParseCycles0 (n : Int) sk wr (by omega)).mono ?_
      rintro e w2 ⟨A2, m2, c2, rfl, s2, hm2, b2⟩
      obtain ⟨ys, hys⟩ : ∃ ys, (cycO (n : Int) sk).getD [] = ys := ⟨_, rfl⟩
      rw [hys] at s2
      have LI : Hid (∀ t, t < k → ∀ j, (sval (us.getD t sd0)).ownBlock = some j → V.heap.size ≤ j ∧ j < wr.heap.size) := Lib.hid fun t ht => (Ss.out.row t ht).lt_
      have L2 := s2.lt_
      have D5 := Lib.hid (show ∀ t, t < k → (sval (us.getD t sd0)).ownBlock = none ∨ (sval (us.getD t sd0)).ownBlock ≠ (Value.slice A2 m2 c2).ownBlock from fun t ht => by
        rcases e9 : (sval (us.getD t sd0)).ownBlock with _ | z
        · exact .inl rfl
        · exact .inr fun e8 => by have := (LI.out t ht z e9).2; have := (L2 z e8.symm).1; omega)
      have P0' := Lib.hid (P0.out.below b2 P0.out.lt)
      have P1' := Lib.hid (P1.out.below b2 P1.out.lt)
      have Ss2 := Lib.hid (Ss.out.up b2)
      have Sl2 : Hid (Slc w2 V.heap.size A2 m2 c2 ys) := Lib.hid (s2.mono (by omega))
      have Bel2 := Lib.hid (btr Bel.out b2)
      have hwz2 : V.heap.size ≤ w2.heap.size := by have := b2.size; omega
      clear x0 x1 x2 s2 L2
      have x0 := P1'.out.cell 0
      have x1 := P1'.out.cell 1
      have x2 := P1'.out.cell 2
      go_wp2_with (first
        | (at_builtin
           refine wpList_app2 rfl _ _ rfl rfl (Ss2.out.alloc _) w2.heap.size A2 m2 c2 ys rfl (by rw [World.cell?_alloc_at _ _ _ _ rfl]; rfl) ((Sl2.out).alloc _) D5.out (by omega) (by simp; omega) ?_
           intro A7 c7 w7 ss7 g7
           have LO : ∀ j, (Value.slice A k c').ownBlock = some j → V.heap.size ≤ j := fun j hj => (Ss2.out.lt_ j hj).1
           have P07 := Lib.hid ((P0'.out.alloc (.cells #[.slice A2 m2 c2] 27)).grown g7 (fun e => by have := LO _ e.symm; omega))
           have P17 := Lib.hid ((P1'.out.alloc (.cells #[.slice A2 m2 c2] 27)).grown g7 (fun e => by have := LO _ e.symm; omega))
           have Bel7 : Hid (Below w.heap.size w w7) := Lib.hid ((Bel2.out.alloc Bel2.out.size (.cells #[.slice A2 m2 c2] 27)).grown g7 (by simp; omega) (fun j hj => by have := LO j hj; omega))
           have z0 := P17.out.cell 0
           have z1 := P17.out.cell 1
           have z2 := P17.out.cell 2
           have f2 := P17.out.frozen 2))
      have S7 : Hid (SS w7 V.heap.size V.heap.size A7 (k + 1) c7 (us ++ [(A2, m2, c2)]) (rdC n (ss.take k) ++ [ys])) := Lib.hid ss7
      have LA7 := S7.out.lt_
      have LI7 : ∀ t, t < k + 1 → ∀ j, (sval ((us ++ [((A2, m2, c2) : SV)]).getD t sd0)).ownBlock = some j → V.heap.size ≤ j ∧ j < w7.heap.size := fun t ht => (S7.out.row t ht).lt_
      have S8 := Lib.hid (S7.out.farR (w' := w7.setCell ⟨w.heap.size + 1, 2, none⟩ (.slice A7 (k + 1) c7)) (r := w.heap.size + 1) (grown_set (grown_refl _ _) _ _) LA7 LI7 (.inl (by omega)))
      have Q0 : Blk (w7.setCell ⟨w.heap.size + 1, 2, none⟩ (.slice A7 (k + 1) c7)) w.heap.size 26 #[.int .i64 0, .string ⟨#[]⟩, .slice none 0 0] := (Below.heap_setCell _ _ _ _ (by show w.heap.size ≠ w.heap.size + 1; omega)).trans P07.out
      have Q1 : Blk (w7.setCell ⟨w.heap.size + 1, 2, none⟩ (.slice A7 (k + 1) c7)) (w.heap.size + 1) 26 #[.int .i64 (n : Int), .string nm, .slice A7 (k + 1) c7] := P17.out.set_ 2 _
      have Bel8 : Below w.heap.size w (w7.setCell ⟨w.heap.size + 1, 2, none⟩ (.slice A7 (k + 1) c7)) := Bel7.out.setCell (p := ⟨w.heap.size + 1, 2, none⟩) (by show w.heap.size ≤ w.heap.size + 1; omega) _
      have Ln8 : ∀ i, i < k + 1 → ((us ++ [((A2, m2, c2) : SV)]).getD i sd0).2.1 ≤ 20 := fun i hi => by
        by_cases e9 : i < k
        · rw [getD_app _ _ _ _ (by rw [Ss2.out.lv]; exact e9)]; exact Ln.out i e9
        · rw [getD_snoc _ _ _ _ (by rw [Ss2.out.lv]; omega)]; exact hm2
      clear ss7 g7
      go_roundg (m - (k + 1))
      case rel => exact ⟨k + 1, _, A7, c7, by omega, by omega, by go_num, Q0, Q1, by rw [rdC_snoc (by omega), hsk, hys]; exact S8.out, Ln8, Bel8⟩
      case measure => omega
    · obtain rfl : k = m := by omega
      have y0 := P0.out.cell 0
      have y1 := P0.out.cell 1
      have y2 := P0.out.cell 2
      have g0 := P0.out.frozen 0
      have g1 := P0.out.frozen 1
      have g2 := P0.out.frozen 2
      go_wp2_with fail
      obtain ⟨W2, e2⟩ : ∃ W2, wr.setCell ⟨w.heap.size, 0, none⟩ (.int .i64 (n : Int)) = W2 := ⟨_, rfl⟩
      obtain ⟨W3, e3⟩ : ∃ W3, W2.setCell ⟨w.heap.size, 1, none⟩ (.string nm) = W3 := ⟨_, rfl⟩
      obtain ⟨W4, e4⟩ : ∃ W4, W3.setCell ⟨w.heap.size, 2, none⟩ (.slice A k c') = W4 := ⟨_, rfl⟩
      rw [e2, e3, e4]
      have LA : ∀ j, (Value.slice A k c').ownBlock = some j → V.heap.size ≤ j ∧ j < wr.heap.size := Ss.out.lt_
      have LI : ∀ t, t < k → ∀ j, (sval (us.getD t sd0)).ownBlock = some j → V.heap.size ≤ j ∧ j < wr.heap.size := fun t ht => (Ss.out.row t ht).lt_
      have S6 : SS W2 V.heap.size V.heap.size A k c' us (rdC n (ss.take k)) := by rw [← e2]; exact Ss.out.farR (r := w.heap.size) (grown_set (grown_refl _ _) _ _) LA LI (.inl (by omega))
      have S7 : SS W3 V.heap.size V.heap.size A k c' us (rdC n (ss.take k)) := by rw [← e3]; exact S6.farR (r := w.heap.size) (grown_set (grown_refl _ _) _ _) LA LI (.inl (by omega))
      have S8 : SS W4 V.heap.size V.heap.size A k c' us (rdC n (ss.take k)) := by rw [← e4]; exact S7.farR (r := w.heap.size) (grown_set (grown_refl _ _) _ _) LA LI (.inl (by omega))
      have D2 : Blk W2 w.heap.size 26 #[.int .i64 (n : Int), .string ⟨#[]⟩, .slice none 0 0] := by rw [← e2]; exact P0.out.set_ 0 _
      have D3 : Blk W3 w.heap.size 26 #[.int .i64 (n : Int), .string nm, .slice none 0 0] := by rw [← e3]; exact D2.set_ 1 _
      have D4 : Blk W4 w.heap.size 26 #[.int .i64 (n : Int), .string nm, .slice A k c'] := by rw [← e4]; exact D3.set_ 2 _
      have r1 := D4.cell 0
      have r2 := D4.cell 1
      have r3 := D4.cell 2
      have Be : Below w.heap.size w W4 := by
        rw [← e4, ← e3, ← e2]
        exact ((Bel.out.setCell (p := ⟨w.heap.size, 0, none⟩) (Nat.le_refl _) _).setCell (p := ⟨w.heap.size, 1, none⟩) (Nat.le_refl _) _).setCell (p := ⟨w.heap.size, 2, none⟩) (Nat.le_refl _) _
      clear e2 e3 e4
      have ek : ss.take k = ss := List.take_of_length_le (by omega)
      rw [ek] at S8
      exact bodyPost_ret (v := .agg #[.int .i64 (n : Int), .string nm, .slice A k c']) (by simp [results, Try.results120, r1, r2, r3, go_sem]) rfl ⟨A, c', us, rfl, S8.mono (by omega) (by omega), Ln.out, Be⟩
end Go.Proofs.Ytkjokchhffjidaa

/- The model's KnownPuzzle. No condition. -/
namespace Go.Proofs.Ytkjokchhffjidaa
open Go.RowKit

set_option maxHeartbeats 4000000 in
set_option maxRecDepth 100000 in
theorem specKn0 (w : World) :
    Calls Try.prog 98 #[.int .i64 0] w fun e w' => ∃ A m c us, e = .returned (.tuple #[.agg #[.int .i64 4, .string ⟨#[65, 66, 67]⟩, .slice A m c], .bool true]) ∧ SS w' w.heap.size w.heap.size A m c us (knG 0) ∧ m ≤ 4 ∧ (∀ i, i < m → (us.getD i sd0).2.1 ≤ 20) ∧ Below w.heap.size w w' := by
  have c0 : Hid (Blk ((w.alloc (.cells #[.int .i64 0, .string ⟨#[]⟩, .slice none 0 0] 26)).alloc (.cells #[.string ⟨#[40, 48, 32, 49, 41]⟩, .string ⟨#[40, 49, 32, 50, 41]⟩, .string ⟨#[40, 50, 32, 51, 41]⟩] 9)) (w.heap.size + 1) 9 #[.string ⟨#[40, 48, 32, 49, 41]⟩, .string ⟨#[40, 49, 32, 50, 41]⟩, .string ⟨#[40, 50, 32, 51, 41]⟩]) := Lib.hid (by
    have := Blk.new (w.alloc (.cells #[.int .i64 0, .string ⟨#[]⟩, .slice none 0 0] 26)) 9 #[.string ⟨#[40, 48, 32, 49, 41]⟩, .string ⟨#[40, 49, 32, 50, 41]⟩, .string ⟨#[40, 50, 32, 51, 41]⟩]; rw [World.size_alloc] at this; exact this)
  have p0 : Hid (Blk ((w.alloc (.cells #[.int .i64 0, .string ⟨#[]⟩, .slice none 0 0] 26)).alloc (.cells #[.string ⟨#[40, 48, 32, 49, 41]⟩, .string ⟨#[40, 49, 32, 50, 41]⟩, .string ⟨#[40, 50, 32, 51, 41]⟩] 9)) w.heap.size 26 #[.int .i64 0, .string ⟨#[]⟩, .slice none 0 0]) := Lib.hid ((Blk.new w _ _).alloc _)
  have B0 : Hid (Below w.heap.size w ((w.alloc (.cells #[.int .i64 0, .string ⟨#[]⟩, .slice none 0 0] 26)).alloc (.cells #[.string ⟨#[40, 48, 32, 49, 41]⟩, .string ⟨#[40, 49, 32, 50, 41]⟩, .string ⟨#[40, 50, 32, 51, 41]⟩] 9))) := Lib.hid (((Below.refl _ w).alloc (Nat.le_refl _) _).alloc (by simp) _)
  go_enter Try.func98, Try.ntmps98
  go_wp2_with fail
  refine (specPuzzleOf 4 (w.heap.size + 1) 3 3 [⟨#[40, 48, 32, 49, 41]⟩, ⟨#[40, 49, 32, 50, 41]⟩, ⟨#[40, 50, 32, 51, 41]⟩] ((w.alloc (.cells #[.int .i64 0, .string ⟨#[]⟩, .slice none 0 0] 26)).alloc (.cells #[.string ⟨#[40, 48, 32, 49, 41]⟩, .string ⟨#[40, 49, 32, 50, 41]⟩, .string ⟨#[40, 50, 32, 51, 41]⟩] 9)) (by decide) (by decide) (by decide) rfl (by simp) (Lib.hid ?_) (Lib.hid ?_) ⟨#[65, 66, 67]⟩ (Lib.hid (by first | rfl | decide))).mono ?_
  · intro j hj
    rw [c0.out.cell j]
    match j, hj with
    | 0, _ => rfl
    | 1, _ => rfl
    | 2, _ => rfl
  · intro j hj
    match j, hj with
    | 0, _ => exact (by decide : (⟨#[40, 48, 32, 49, 41]⟩ : ByteArray).size ≤ 200)
    | 1, _ => exact (by decide : (⟨#[40, 49, 32, 50, 41]⟩ : ByteArray).size ≤ 200)
    | 2, _ => exact (by decide : (⟨#[40, 50, 32, 51, 41]⟩ : ByteArray).size ≤ 200)
  rintro e w1 ⟨A, c, us, rfl, s1, l1, b1⟩
  have P1 := Lib.hid (p0.out.below b1 p0.out.lt)
  have B1 := btr B0.out b1
  have S1 : SS w1 (w.heap.size + 2) (w.heap.size + 2) A 3 c us (knG 0) := by have := s1; rw [show (4 : Int) = ((4 : Nat) : Int) from rfl] at *; rw [show knG 0 = rdC 4 [⟨#[40, 48, 32, 49, 41]⟩, ⟨#[40, 49, 32, 50, 41]⟩, ⟨#[40, 50, 32, 51, 41]⟩] from rd0.symm]; simpa using this
  have hs1 : w.heap.size + 2 ≤ w1.heap.size := by have := b1.size; simpa using this
  have y0 := P1.out.cell 0
  have y1 := P1.out.cell 1
  have y2 := P1.out.cell 2
  have g0 := P1.out.frozen 0
  have g1 := P1.out.frozen 1
  have g2 := P1.out.frozen 2
  go_wp2_with fail
  obtain ⟨W2, e2⟩ : ∃ W2, w1.setCell ⟨w.heap.size, 0, none⟩ (.int .i64 4) = W2 := ⟨_, rfl⟩
  obtain ⟨W3, e3⟩ : ∃ W3, W2.setCell ⟨w.heap.size, 1, none⟩ (.string ⟨#[65, 66, 67]⟩) = W3 := ⟨_, rfl⟩
  obtain ⟨W4, e4⟩ : ∃ W4, W3.setCell ⟨w.heap.size, 2, none⟩ (.slice A 3 c) = W4 := ⟨_, rfl⟩
  rw [e2, e3, e4]
  have D2 : Blk W2 w.heap.size 26 #[.int .i64 4, .string ⟨#[]⟩, .slice none 0 0] := by rw [← e2]; exact P1.out.set_ 0 _
  have D3 : Blk W3 w.heap.size 26 #[.int .i64 4, .string ⟨#[65, 66, 67]⟩, .slice none 0 0] := by rw [← e3]; exact D2.set_ 1 _
  have D4 : Blk W4 w.heap.size 26 #[.int .i64 4, .string ⟨#[65, 66, 67]⟩, .slice A 3 c] := by rw [← e4]; exact D3.set_ 2 _
  have r1 := D4.cell 0
  have r2 := D4.cell 1
  have r3 := D4.cell 2
  have Be : Below w.heap.size w W4 := by
    rw [← e4, ← e3, ← e2]
    exact ((B1.setCell (p := ⟨w.heap.size, 0, none⟩) (Nat.le_refl _) _).setCell (p := ⟨w.heap.size, 1, none⟩) (Nat.le_refl _) _).setCell (p := ⟨w.heap.size, 2, none⟩) (Nat.le_refl _) _
  have LA := S1.lt_
  have LI := fun t ht => (S1.row t ht).lt_
  have S6 := (S1).farR (w' := W2) (r := w.heap.size) (by rw [← e2]; exact grown_set (grown_refl _ _) _ _) LA LI (.inl (by simp))
  have S7 := (S6).farR (w' := W3) (r := w.heap.size) (by rw [← e3]; exact grown_set (grown_refl _ _) _ _) LA LI (.inl (by simp))
  have S8 := (S7).farR (w' := W4) (r := w.heap.size) (by rw [← e4]; exact grown_set (grown_refl _ _) _ _) LA LI (.inl (by simp))
  clear e2 e3 e4
  exact bodyPost_ret (v := .tuple #[.agg #[.int .i64 4, .string ⟨#[65, 66, 67]⟩, .slice A 3 c], .bool true]) (by simp [results, Try.results98, r1, r2, r3, go_sem]) rfl ⟨A, 3, c, us, rfl, S8.mono (by simp) (by simp), by omega, l1, Be⟩
set_option maxHeartbeats 4000000 in
set_option maxRecDepth 100000 in
theorem specKn1 (w : World) :
    Calls Try.prog 98 #[.int .i64 1] w fun e w' => ∃ A m c us, e = .returned (.tuple #[.agg #[.int .i64 6, .string ⟨#[65, 66]⟩, .slice A m c], .bool true]) ∧ SS w' w.heap.size w.heap.size A m c us (knG 1) ∧ m ≤ 4 ∧ (∀ i, i < m → (us.getD i sd0).2.1 ≤ 20) ∧ Below w.heap.size w w' := by
  have c0 : Hid (Blk ((w.alloc (.cells #[.int .i64 0, .string ⟨#[]⟩, .slice none 0 0] 26)).alloc (.cells #[.string ⟨#[40, 48, 32, 49, 32, 50, 32, 51, 32, 52, 32, 53, 41]⟩, .string ⟨#[40, 48, 32, 50, 41]⟩] 9)) (w.heap.size + 1) 9 #[.string ⟨#[40, 48, 32, 49, 32, 50, 32, 51, 32, 52, 32, 53, 41]⟩, .string ⟨#[40, 48, 32, 50, 41]⟩]) := Lib.hid (by
    have := Blk.new (w.alloc (.cells #[.int .i64 0, .string ⟨#[]⟩, .slice none 0 0] 26)) 9 #[.string ⟨#[40, 48, 32, 49, 32, 50, 32, 51, 32, 52, 32, 53, 41]⟩, .string ⟨#[40, 48, 32, 50, 41]⟩]; rw [World.size_alloc] at this; exact this)
  have p0 : Hid (Blk ((w.alloc (.cells #[.int .i64 0, .string ⟨#[]⟩, .slice none 0 0] 26)).alloc (.cells #[.string ⟨#[40, 48, 32, 49, 32, 50, 32, 51, 32, 52, 32, 53, 41]⟩, .string ⟨#[40, 48, 32, 50, 41]⟩] 9)) w.heap.size 26 #[.int .i64 0, .string ⟨#[]⟩, .slice none 0 0]) := Lib.hid ((Blk.new w _ _).alloc _)
  have B0 : Hid (Below w.heap.size w ((w.alloc (.cells #[.int .i64 0, .string ⟨#[]⟩, .slice none 0 0] 26)).alloc (.cells #[.string ⟨#[40, 48, 32, 49, 32, 50, 32, 51, 32, 52, 32, 53, 41]⟩, .string ⟨#[40, 48, 32, 50, 41]⟩] 9))) := Lib.hid (((Below.refl _ w).alloc (Nat.le_refl _) _).alloc (by simp) _)
  go_enter Try.func98, Try.ntmps98
  go_wp2_with fail
  refine (specPuzzleOf 6 (w.heap.size + 1) 2 2 [⟨#[40, 48, 32, 49, 32, 50, 32, 51, 32, 52, 32, 53, 41]⟩, ⟨#[40, 48, 32, 50, 41]⟩] ((w.alloc (.cells #[.int .i64 0, .string ⟨#[]⟩, .slice none 0 0] 26)).alloc (.cells #[.string ⟨#[40, 48, 32, 49, 32, 50, 32, 51, 32, 52, 32, 53, 41]⟩, .string ⟨#[40, 48, 32, 50, 41]⟩] 9)) (by decide) (by decide) (by decide) rfl (by simp) (Lib.hid ?_) (Lib.hid ?_) ⟨#[65, 66]⟩ (Lib.hid (by first | rfl | decide))).mono ?_
  · intro j hj
    rw [c0.out.cell j]
    match j, hj with
    | 0, _ => rfl
    | 1, _ => rfl
  · intro j hj
    match j, hj with
    | 0, _ => exact (by decide : (⟨#[40, 48, 32, 49, 32, 50, 32, 51, 32, 52, 32, 53, 41]⟩ : ByteArray).size ≤ 200)
    | 1, _ => exact (by decide : (⟨#[40, 48, 32, 50, 41]⟩ : ByteArray).size ≤ 200)
  rintro e w1 ⟨A, c, us, rfl, s1, l1, b1⟩
  have P1 := Lib.hid (p0.out.below b1 p0.out.lt)
  have B1 := btr B0.out b1
  have S1 : SS w1 (w.heap.size + 2) (w.heap.size + 2) A 2 c us (knG 1) := by have := s1; rw [show (6 : Int) = ((6 : Nat) : Int) from rfl] at *; rw [show knG 1 = rdC 6 [⟨#[40, 48, 32, 49, 32, 50, 32, 51, 32, 52, 32, 53, 41]⟩, ⟨#[40, 48, 32, 50, 41]⟩] from rd1.symm]; simpa using this
  have hs1 : w.heap.size + 2 ≤ w1.heap.size := by have := b1.size; simpa using this
  have y0 := P1.out.cell 0
  have y1 := P1.out.cell 1
  have y2 := P1.out.cell 2
  have g0 := P1.out.frozen 0
  have g1 := P1.out.frozen 1
  have g2 := P1.out.frozen 2
  go_wp2_with fail
  obtain ⟨W2, e2⟩ : ∃ W2, w1.setCell ⟨w.heap.size, 0, none⟩ (.int .i64 6) = W2 := ⟨_, rfl⟩
  obtain ⟨W3, e3⟩ : ∃ W3, W2.setCell ⟨w.heap.size, 1, none⟩ (.string ⟨#[65, 66]⟩) = W3 := ⟨_, rfl⟩
  obtain ⟨W4, e4⟩ : ∃ W4, W3.setCell ⟨w.heap.size, 2, none⟩ (.slice A 2 c) = W4 := ⟨_, rfl⟩
  rw [e2, e3, e4]
  have D2 : Blk W2 w.heap.size 26 #[.int .i64 6, .string ⟨#[]⟩, .slice none 0 0] := by rw [← e2]; exact P1.out.set_ 0 _
  have D3 : Blk W3 w.heap.size 26 #[.int .i64 6, .string ⟨#[65, 66]⟩, .slice none 0 0] := by rw [← e3]; exact D2.set_ 1 _
  have D4 : Blk W4 w.heap.size 26 #[.int .i64 6, .string ⟨#[65, 66]⟩, .slice A 2 c] := by rw [← e4]; exact D3.set_ 2 _
  have r1 := D4.cell 0
  have r2 := D4.cell 1
  have r3 := D4.cell 2
  have Be : Below w.heap.size w W4 := by
    rw [← e4, ← e3, ← e2]
    exact ((B1.setCell (p := ⟨w.heap.size, 0, none⟩) (Nat.le_refl _) _).setCell (p := ⟨w.heap.size, 1, none⟩) (Nat.le_refl _) _).setCell (p := ⟨w.heap.size, 2, none⟩) (Nat.le_refl _) _
  have LA := S1.lt_
  have LI := fun t ht => (S1.row t ht).lt_
  have S6 := (S1).farR (w' := W2) (r := w.heap.size) (by rw [← e2]; exact grown_set (grown_refl _ _) _ _) LA LI (.inl (by simp))
  have S7 := (S6).farR (w' := W3) (r := w.heap.size) (by rw [← e3]; exact grown_set (grown_refl _ _) _ _) LA LI (.inl (by simp))
  have S8 := (S7).farR (w' := W4) (r := w.heap.size) (by rw [← e4]; exact grown_set (grown_refl _ _) _ _) LA LI (.inl (by simp))
  clear e2 e3 e4
  exact bodyPost_ret (v := .tuple #[.agg #[.int .i64 6, .string ⟨#[65, 66]⟩, .slice A 2 c], .bool true]) (by simp [results, Try.results98, r1, r2, r3, go_sem]) rfl ⟨A, 2, c, us, rfl, S8.mono (by simp) (by simp), by omega, l1, Be⟩
set_option maxHeartbeats 4000000 in
set_option maxRecDepth 100000 in
theorem specKn2 (w : World) :
    Calls Try.prog 98 #[.int .i64 2] w fun e w' => ∃ A m c us, e = .returned (.tuple #[.agg #[.int .i64 6, .string ⟨#[65, 66]⟩, .slice A m c], .bool true]) ∧ SS w' w.heap.size w.heap.size A m c us (knG 2) ∧ m ≤ 4 ∧ (∀ i, i < m → (us.getD i sd0).2.1 ≤ 20) ∧ Below w.heap.size w w' := by
  have c0 : Hid (Blk ((w.alloc (.cells #[.int .i64 0, .string ⟨#[]⟩, .slice none 0 0] 26)).alloc (.cells #[.string ⟨#[40, 48, 32, 49, 32, 50, 32, 51, 41]⟩, .string ⟨#[40, 50, 32, 51, 32, 52, 32, 53, 41]⟩] 9)) (w.heap.size + 1) 9 #[.string ⟨#[40, 48, 32, 49, 32, 50, 32, 51, 41]⟩, .string ⟨#[40, 50, 32, 51, 32, 52, 32, 53, 41]⟩]) := Lib.hid (by
    have := Blk.new (w.alloc (.cells #[.int .i64 0, .string ⟨#[]⟩, .slice none 0 0] 26)) 9 #[.string ⟨#[40, 48, 32, 49, 32, 50, 32, 51, 41]⟩, .string ⟨#[40, 50, 32, 51, 32, 52, 32, 53, 41]⟩]; rw [World.size_alloc] at this; exact this)
  have p0 : Hid (Blk ((w.alloc (.cells #[.int .i64 0, .string ⟨#[]⟩, .slice none 0 0] 26)).alloc (.cells #[.string ⟨#[40, 48, 32, 49, 32, 50, 32, 51, 41]⟩, .string ⟨#[40, 50, 32, 51, 32, 52, 32, 53, 41]⟩] 9)) w.heap.size 26 #[.int .i64 0, .string ⟨#[]⟩, .slice none 0 0]) := Lib.hid ((Blk.new w _ _).alloc _)
  have B0 : Hid (Below w.heap.size w ((w.alloc (.cells #[.int .i64 0, .string ⟨#[]⟩, .slice none 0 0] 26)).alloc (.cells #[.string ⟨#[40, 48, 32, 49, 32, 50, 32, 51, 41]⟩, .string ⟨#[40, 50, 32, 51, 32, 52, 32, 53, 41]⟩] 9))) := Lib.hid (((Below.refl _ w).alloc (Nat.le_refl _) _).alloc (by simp) _)
  go_enter Try.func98, Try.ntmps98
  go_wp2_with fail
  refine (specPuzzleOf 6 (w.heap.size + 1) 2 2 [⟨#[40, 48, 32, 49, 32, 50, 32, 51, 41]⟩, ⟨#[40, 50, 32, 51, 32, 52, 32, 53, 41]⟩] ((w.alloc (.cells #[.int .i64 0, .string ⟨#[]⟩, .slice none 0 0] 26)).alloc (.cells #[.string ⟨#[40, 48, 32, 49, 32, 50, 32, 51, 41]⟩, .string ⟨#[40, 50, 32, 51, 32, 52, 32, 53, 41]⟩] 9)) (by decide) (by decide) (by decide) rfl (by simp) (Lib.hid ?_) (Lib.hid ?_) ⟨#[65, 66]⟩ (Lib.hid (by first | rfl | decide))).mono ?_
  · intro j hj
    rw [c0.out.cell j]
    match j, hj with
    | 0, _ => rfl
    | 1, _ => rfl
  · intro j hj
    match j, hj with
    | 0, _ => exact (by decide : (⟨#[40, 48, 32, 49, 32, 50, 32, 51, 41]⟩ : ByteArray).size ≤ 200)
    | 1, _ => exact (by decide : (⟨#[40, 50, 32, 51, 32, 52, 32, 53, 41]⟩ : ByteArray).size ≤ 200)
  rintro e w1 ⟨A, c, us, rfl, s1, l1, b1⟩
  have P1 := Lib.hid (p0.out.below b1 p0.out.lt)
  have B1 := btr B0.out b1
  have S1 : SS w1 (w.heap.size + 2) (w.heap.size + 2) A 2 c us (knG 2) := by have := s1; rw [show (6 : Int) = ((6 : Nat) : Int) from rfl] at *; rw [show knG 2 = rdC 6 [⟨#[40, 48, 32, 49, 32, 50, 32, 51, 41]⟩, ⟨#[40, 50, 32, 51, 32, 52, 32, 53, 41]⟩] from rd2.symm]; simpa using this
  have hs1 : w.heap.size + 2 ≤ w1.heap.size := by have := b1.size; simpa using this
  have y0 := P1.out.cell 0
  have y1 := P1.out.cell 1
  have y2 := P1.out.cell 2
  have g0 := P1.out.frozen 0
  have g1 := P1.out.frozen 1
  have g2 := P1.out.frozen 2
  go_wp2_with fail
  obtain ⟨W2, e2⟩ : ∃ W2, w1.setCell ⟨w.heap.size, 0, none⟩ (.int .i64 6) = W2 := ⟨_, rfl⟩
  obtain ⟨W3, e3⟩ : ∃ W3, W2.setCell ⟨w.heap.size, 1, none⟩ (.string ⟨#[65, 66]⟩) = W3 := ⟨_, rfl⟩
  obtain ⟨W4, e4⟩ : ∃ W4, W3.setCell ⟨w.heap.size, 2, none⟩ (.slice A 2 c) = W4 := ⟨_, rfl⟩
  rw [e2, e3, e4]
  have D2 : Blk W2 w.heap.size 26 #[.int .i64 6, .string ⟨#[]⟩, .slice none 0 0] := by rw [← e2]; exact P1.out.set_ 0 _
  have D3 : Blk W3 w.heap.size 26 #[.int .i64 6, .string ⟨#[65, 66]⟩, .slice none 0 0] := by rw [← e3]; exact D2.set_ 1 _
  have D4 : Blk W4 w.heap.size 26 #[.int .i64 6, .string ⟨#[65, 66]⟩, .slice A 2 c] := by rw [← e4]; exact D3.set_ 2 _
  have r1 := D4.cell 0
  have r2 := D4.cell 1
  have r3 := D4.cell 2
  have Be : Below w.heap.size w W4 := by
    rw [← e4, ← e3, ← e2]
    exact ((B1.setCell (p := ⟨w.heap.size, 0, none⟩) (Nat.le_refl _) _).setCell (p := ⟨w.heap.size, 1, none⟩) (Nat.le_refl _) _).setCell (p := ⟨w.heap.size, 2, none⟩) (Nat.le_refl _) _
  have LA := S1.lt_
  have LI := fun t ht => (S1.row t ht).lt_
  have S6 := (S1).farR (w' := W2) (r := w.heap.size) (by rw [← e2]; exact grown_set (grown_refl _ _) _ _) LA LI (.inl (by simp))
  have S7 := (S6).farR (w' := W3) (r := w.heap.size) (by rw [← e3]; exact grown_set (grown_refl _ _) _ _) LA LI (.inl (by simp))
  have S8 := (S7).farR (w' := W4) (r := w.heap.size) (by rw [← e4]; exact grown_set (grown_refl _ _) _ _) LA LI (.inl (by simp))
  clear e2 e3 e4
  exact bodyPost_ret (v := .tuple #[.agg #[.int .i64 6, .string ⟨#[65, 66]⟩, .slice A 2 c], .bool true]) (by simp [results, Try.results98, r1, r2, r3, go_sem]) rfl ⟨A, 2, c, us, rfl, S8.mono (by simp) (by simp), by omega, l1, Be⟩
set_option maxHeartbeats 4000000 in
set_option maxRecDepth 100000 in
theorem specKn3 (w : World) :
    Calls Try.prog 98 #[.int .i64 3] w fun e w' => ∃ A m c us, e = .returned (.tuple #[.agg #[.int .i64 7, .string ⟨#[65, 66, 67]⟩, .slice A m c], .bool true]) ∧ SS w' w.heap.size w.heap.size A m c us (knG 3) ∧ m ≤ 4 ∧ (∀ i, i < m → (us.getD i sd0).2.1 ≤ 20) ∧ Below w.heap.size w w' := by
  have c0 : Hid (Blk ((w.alloc (.cells #[.int .i64 0, .string ⟨#[]⟩, .slice none 0 0] 26)).alloc (.cells #[.string ⟨#[40, 48, 32, 49, 32, 50, 32, 51, 41]⟩, .string ⟨#[40, 49, 32, 50, 32, 54, 32, 53, 41]⟩, .string ⟨#[40, 48, 32, 52, 32, 53, 32, 49, 41]⟩] 9)) (w.heap.size + 1) 9 #[.string ⟨#[40, 48, 32, 49, 32, 50, 32, 51, 41]⟩, .string ⟨#[40, 49, 32, 50, 32, 54, 32, 53, 41]⟩, .string ⟨#[40, 48, 32, 52, 32, 53, 32, 49, 41]⟩]) := Lib.hid (by
    have := Blk.new (w.alloc (.cells #[.int .i64 0, .string ⟨#[]⟩, .slice none 0 0] 26)) 9 #[.string ⟨#[40, 48, 32, 49, 32, 50, 32, 51, 41]⟩, .string ⟨#[40, 49, 32, 50, 32, 54, 32, 53, 41]⟩, .string ⟨#[40, 48, 32, 52, 32, 53, 32, 49, 41]⟩]; rw [World.size_alloc] at this; exact this)
  have p0 : Hid (Blk ((w.alloc (.cells #[.int .i64 0, .string ⟨#[]⟩, .slice none 0 0] 26)).alloc (.cells #[.string ⟨#[40, 48, 32, 49, 32, 50, 32, 51, 41]⟩, .string ⟨#[40, 49, 32, 50, 32, 54, 32, 53, 41]⟩, .string ⟨#[40, 48, 32, 52, 32, 53, 32, 49, 41]⟩] 9)) w.heap.size 26 #[.int .i64 0, .string ⟨#[]⟩, .slice none 0 0]) := Lib.hid ((Blk.new w _ _).alloc _)
  have B0 : Hid (Below w.heap.size w ((w.alloc (.cells #[.int .i64 0, .string ⟨#[]⟩, .slice none 0 0] 26)).alloc (.cells #[.string ⟨#[40, 48, 32, 49, 32, 50, 32, 51, 41]⟩, .string ⟨#[40, 49, 32, 50, 32, 54, 32, 53, 41]⟩, .string ⟨#[40, 48, 32, 52, 32, 53, 32, 49, 41]⟩] 9))) := Lib.hid (((Below.refl _ w).alloc (Nat.le_refl _) _).alloc (by simp) _)
  go_enter Try.func98, Try.ntmps98
  go_wp2_with fail
  refine (specPuzzleOf 7 (w.heap.size + 1) 3 3 [⟨#[40, 48, 32, 49, 32, 50, 32, 51, 41]⟩, ⟨#[40, 49, 32, 50, 32, 54, 32, 53, 41]⟩, ⟨#[40, 48, 32, 52, 32, 53, 32, 49, 41]⟩] ((w.alloc (.cells #[.int .i64 0, .string ⟨#[]⟩, .slice none 0 0] 26)).alloc (.cells #[.string ⟨#[40, 48, 32, 49, 32, 50, 32, 51, 41]⟩, .string ⟨#[40, 49, 32, 50, 32, 54, 32, 53, 41]⟩, .string ⟨#[40, 48, 32, 52, 32, 53, 32, 49, 41]⟩] 9)) (by decide) (by decide) (by decide) rfl (by simp) (Lib.hid ?_) (Lib.hid ?_) ⟨#[65, 66, 67]⟩ (Lib.hid (by first | rfl | decide))).mono ?_
  · intro j hj
    rw [c0.out.cell j]
    match j, hj with
    | 0, _ => rfl
    | 1, _ => rfl
    | 2, _ => rfl
  · intro j hj
    match j, hj with
    | 0, _ => exact (by decide : (⟨#[40, 48, 32, 49, 32, 50, 32, 51, 41]⟩ : ByteArray).size ≤ 200)
    | 1, _ => exact (by decide : (⟨#[40, 49, 32, 50, 32, 54, 32, 53, 41]⟩ : ByteArray).size ≤ 200)
    | 2, _ => exact (by decide : (⟨#[40, 48, 32, 52, 32, 53, 32, 49, 41]⟩ : ByteArray).size ≤ 200)
  rintro e w1 ⟨A, c, us, rfl, s1, l1, b1⟩
  have P1 := Lib.hid (p0.out.below b1 p0.out.lt)
  have B1 := btr B0.out b1
  have S1 : SS w1 (w.heap.size + 2) (w.heap.size + 2) A 3 c us (knG 3) := by have := s1; rw [show (7 : Int) = ((7 : Nat) : Int) from rfl] at *; rw [show knG 3 = rdC 7 [⟨#[40, 48, 32, 49, 32, 50, 32, 51, 41]⟩, ⟨#[40, 49, 32, 50, 32, 54, 32, 53, 41]⟩, ⟨#[40, 48, 32, 52, 32, 53, 32, 49, 41]⟩] from rd3.symm]; simpa using this
  have hs1 : w.heap.size + 2 ≤ w1.heap.size := by have := b1.size; simpa using this
  have y0 := P1.out.cell 0
  have y1 := P1.out.cell 1
  have y2 := P1.out.cell 2
  have g0 := P1.out.frozen 0
  have g1 := P1.out.frozen 1
  have g2 := P1.out.frozen 2
  go_wp2_with fail
  obtain ⟨W2, e2⟩ : ∃ W2, w1.setCell ⟨w.heap.size, 0, none⟩ (.int .i64 7) = W2 := ⟨_, rfl⟩
  obtain ⟨W3, e3⟩ : ∃ W3, W2.setCell ⟨w.heap.size, 1, none⟩ (.string ⟨#[65, 66, 67]⟩) = W3 := ⟨_, rfl⟩
  obtain ⟨W4, e4⟩ : ∃ W4, W3.setCell ⟨w.heap.size, 2, none⟩ (.slice A 3 c) = W4 := ⟨_, rfl⟩
  rw [e2, e3, e4]
  have D2 : Blk W2 w.heap.size 26 #[.int .i64 7, .string ⟨#[]⟩, .slice none 0 0] := by rw [← e2]; exact P1.out.set_ 0 _
  have D3 : Blk W3 w.heap.size 26 #[.int .i64 7, .string ⟨#[65, 66, 67]⟩, .slice none 0 0] := by rw [← e3]; exact D2.set_ 1 _
  have D4 : Blk W4 w.heap.size 26 #[.int .i64 7, .string ⟨#[65, 66, 67]⟩, .slice A 3 c] := by rw [← e4]; exact D3.set_ 2 _
  have r1 := D4.cell 0
  have r2 := D4.cell 1
  have r3 := D4.cell 2
  have Be : Below w.heap.size w W4 := by
    rw [← e4, ← e3, ← e2]
    exact ((B1.setCell (p := ⟨w.heap.size, 0, none⟩) (Nat.le_refl _) _).setCell (p := ⟨w.heap.size, 1, none⟩) (Nat.le_refl _) _).setCell (p := ⟨w.heap.size, 2, none⟩) (Nat.le_refl _) _
  have LA := S1.lt_
  have LI := fun t ht => (S1.row t ht).lt_
  have S6 := (S1).farR (w' := W2) (r := w.heap.size) (by rw [← e2]; exact grown_set (grown_refl _ _) _ _) LA LI (.inl (by simp))
  have S7 := (S6).farR (w' := W3) (r := w.heap.size) (by rw [← e3]; exact grown_set (grown_refl _ _) _ _) LA LI (.inl (by simp))
  have S8 := (S7).farR (w' := W4) (r := w.heap.size) (by rw [← e4]; exact grown_set (grown_refl _ _) _ _) LA LI (.inl (by simp))
  clear e2 e3 e4
  exact bodyPost_ret (v := .tuple #[.agg #[.int .i64 7, .string ⟨#[65, 66, 67]⟩, .slice A 3 c], .bool true]) (by simp [results, Try.results98, r1, r2, r3, go_sem]) rfl ⟨A, 3, c, us, rfl, S8.mono (by simp) (by simp), by omega, l1, Be⟩
set_option maxHeartbeats 4000000 in
set_option maxRecDepth 100000 in
theorem specKn4 (w : World) :
    Calls Try.prog 98 #[.int .i64 4] w fun e w' => ∃ A m c us, e = .returned (.tuple #[.agg #[.int .i64 12, .string ⟨#[65, 66, 67, 68]⟩, .slice A m c], .bool true]) ∧ SS w' w.heap.size w.heap.size A m c us (knG 4) ∧ m ≤ 4 ∧ (∀ i, i < m → (us.getD i sd0).2.1 ≤ 20) ∧ Below w.heap.size w w' := by
  have c0 : Hid (Blk ((w.alloc (.cells #[.int .i64 0, .string ⟨#[]⟩, .slice none 0 0] 26)).alloc (.cells #[.string ⟨#[40, 48, 32, 49, 41, 40, 52, 32, 53, 41]⟩, .string ⟨#[40, 49, 32, 50, 41, 40, 54, 32, 55, 41]⟩, .string ⟨#[40, 50, 32, 51, 41, 40, 56, 32, 57, 41]⟩, .string ⟨#[40, 48, 32, 51, 41, 40, 49, 48, 32, 49, 49, 41]⟩] 9)) (w.heap.size + 1) 9 #[.string ⟨#[40, 48, 32, 49, 41, 40, 52, 32, 53, 41]⟩, .string ⟨#[40, 49, 32, 50, 41, 40, 54, 32, 55, 41]⟩, .string ⟨#[40, 50, 32, 51, 41, 40, 56, 32, 57, 41]⟩, .string ⟨#[40, 48, 32, 51, 41, 40, 49, 48, 32, 49, 49, 41]⟩]) := Lib.hid (by
    have := Blk.new (w.alloc (.cells #[.int .i64 0, .string ⟨#[]⟩, .slice none 0 0] 26)) 9 #[.string ⟨#[40, 48, 32, 49, 41, 40, 52, 32, 53, 41]⟩, .string ⟨#[40, 49, 32, 50, 41, 40, 54, 32, 55, 41]⟩, .string ⟨#[40, 50, 32, 51, 41, 40, 56, 32, 57, 41]⟩, .string ⟨#[40, 48, 32, 51, 41, 40, 49, 48, 32, 49, 49, 41]⟩]; rw [World.size_alloc] at this; exact this)
  have p0 : Hid (Blk ((w.alloc (.cells #[.int .i64 0, .string ⟨#[]⟩, .slice none 0 0] 26)).alloc (.cells #[.string ⟨#[40, 48, 32, 49, 41, 40, 52, 32, 53, 41]⟩, .string ⟨#[40, 49, 32, 50, 41, 40, 54, 32, 55, 41]⟩, .string ⟨#[40, 50, 32, 51, 41, 40, 56, 32, 57, 41]⟩, .string ⟨#[40, 48, 32, 51, 41, 40, 49, 48, 32, 49, 49, 41]⟩] 9)) w.heap.size 26 #[.int .i64 0, .string ⟨#[]⟩, .slice none 0 0]) := Lib.hid ((Blk.new w _ _).alloc _)
  have B0 : Hid (Below w.heap.size w ((w.alloc (.cells #[.int .i64 0, .string ⟨#[]⟩, .slice none 0 0] 26)).alloc (.cells #[.string ⟨#[40, 48, 32, 49, 41, 40, 52, 32, 53, 41]⟩, .string ⟨#[40, 49, 32, 50, 41, 40, 54, 32, 55, 41]⟩, .string ⟨#[40, 50, 32, 51, 41, 40, 56, 32, 57, 41]⟩, .string ⟨#[40, 48, 32, 51, 41, 40, 49, 48, 32, 49, 49, 41]⟩] 9))) := Lib.hid (((Below.refl _ w).alloc (Nat.le_refl _) _).alloc (by simp) _)
  go_enter Try.func98, Try.ntmps98
  go_wp2_with fail
  refine (specPuzzleOf 12 (w.heap.size + 1) 4 4 [⟨#[40, 48, 32, 49, 41, 40, 52, 32, 53, 41]⟩, ⟨#[40, 49, 32, 50, 41, 40, 54, 32, 55, 41]⟩, ⟨#[40, 50, 32, 51, 41, 40, 56, 32, 57, 41]⟩, ⟨#[40, 48, 32, 51, 41, 40, 49, 48, 32, 49, 49, 41]⟩] ((w.alloc (.cells #[.int .i64 0, .string ⟨#[]⟩, .slice none 0 0] 26)).alloc (.cells #[.string ⟨#[40, 48, 32, 49, 41, 40, 52, 32, 53, 41]⟩, .string ⟨#[40, 49, 32, 50, 41, 40, 54, 32, 55, 41]⟩, .string ⟨#[40, 50, 32, 51, 41, 40, 56, 32, 57, 41]⟩, .string ⟨#[40, 48, 32, 51, 41, 40, 49, 48, 32, 49, 49, 41]⟩] 9)) (by decide) (by decide) (by decide) rfl (by simp) (Lib.hid ?_) (Lib.hid ?_) ⟨#[65, 66, 67, 68]⟩ (Lib.hid (by first | rfl | decide))).mono ?_
  · intro j hj
    rw [c0.out.cell j]
    match j, hj with
    | 0, _ => rfl
    | 1, _ => rfl
    | 2, _ => rfl
    | 3, _ => rfl
  · intro j hj
    match j, hj with
    | 0, _ => exact (by decide : (⟨#[40, 48, 32, 49, 41, 40, 52, 32, 53, 41]⟩ : ByteArray).size ≤ 200)
    | 1, _ => exact (by decide : (⟨#[40, 49, 32, 50, 41, 40, 54, 32, 55, 41]⟩ : ByteArray).size ≤ 200)
    | 2, _ => exact (by decide : (⟨#[40, 50, 32, 51, 41, 40, 56, 32, 57, 41]⟩ : ByteArray).size ≤ 200)
    | 3, _ => exact (by decide : (⟨#[40, 48, 32, 51, 41, 40, 49, 48, 32, 49, 49, 41]⟩ : ByteArray).size ≤ 200)
  rintro e w1 ⟨A, c, us, rfl, s1, l1, b1⟩
  have P1 := Lib.hid (p0.out.below b1 p0.out.lt)
  have B1 := btr B0.out b1
  have S1 : SS w1 (w.heap.size + 2) (w.heap.size + 2) A 4 c us (knG 4) := by have := s1; rw [show (12 : Int) = ((12 : Nat) : Int) from rfl] at *; rw [show knG 4 = rdC 12 [⟨#[40, 48, 32, 49, 41, 40, 52, 32, 53, 41]⟩, ⟨#[40, 49, 32, 50, 41, 40, 54, 32, 55, 41]⟩, ⟨#[40, 50, 32, 51, 41, 40, 56, 32, 57, 41]⟩, ⟨#[40, 48, 32, 51, 41, 40, 49, 48, 32, 49, 49, 41]⟩] from rd4.symm]; simpa using this
  have hs1 : w.heap.size + 2 ≤ w1.heap.size := by have := b1.size; simpa using this
  have y0 := P1.out.cell 0
  have y1 := P1.out.cell 1
  have y2 := P1.out.cell 2
  have g0 := P1.out.frozen 0
  have g1 := P1.out.frozen 1
  have g2 := P1.out.frozen 2
  go_wp2_with fail
  obtain ⟨W2, e2⟩ : ∃ W2, w1.setCell ⟨w.heap.size, 0, none⟩ (.int .i64 12) = W2 := ⟨_, rfl⟩
  obtain ⟨W3, e3⟩ : ∃ W3, W2.setCell ⟨w.heap.size, 1, none⟩ (.string ⟨#[65, 66, 67, 68]⟩) = W3 := ⟨_, rfl⟩
  obtain ⟨W4, e4⟩ : ∃ W4, W3.setCell ⟨w.heap.size, 2, none⟩ (.slice A 4 c) = W4 := ⟨_, rfl⟩
  rw [e2, e3, e4]
  have D2 : Blk W2 w.heap.size 26 #[.int .i64 12, .string ⟨#[]⟩, .slice none 0 0] := by rw [← e2]; exact P1.out.set_ 0 _
  have D3 : Blk W3 w.heap.size 26 #[.int .i64 12, .string ⟨#[65, 66, 67, 68]⟩, .slice none 0 0] := by rw [← e3]; exact D2.set_ 1 _
  have D4 : Blk W4 w.heap.size 26 #[.int .i64 12, .string ⟨#[65, 66, 67, 68]⟩, .slice A 4 c] := by rw [← e4]; exact D3.set_ 2 _
  have r1 := D4.cell 0
  have r2 := D4.cell 1
  have r3 := D4.cell 2
  have Be : Below w.heap.size w W4 := by
    rw [← e4, ← e3, ← e2]
    exact ((B1.setCell (p := ⟨w.heap.size, 0, none⟩) (Nat.le_refl _) _).setCell (p := ⟨w.heap.size, 1, none⟩) (Nat.le_refl _) _).setCell (p := ⟨w.heap.size, 2, none⟩) (Nat.le_refl _) _
  have LA := S1.lt_
  have LI := fun t ht => (S1.row t ht).lt_
  have S6 := (S1).farR (w' := W2) (r := w.heap.size) (by rw [← e2]; exact grown_set (grown_refl _ _) _ _) LA LI (.inl (by simp))
  have S7 := (S6).farR (w' := W3) (r := w.heap.size) (by rw [← e3]; exact grown_set (grown_refl _ _) _ _) LA LI (.inl (by simp))
  have S8 := (S7).farR (w' := W4) (r := w.heap.size) (by rw [← e4]; exact grown_set (grown_refl _ _) _ _) LA LI (.inl (by simp))
  clear e2 e3 e4
  exact bodyPost_ret (v := .tuple #[.agg #[.int .i64 12, .string ⟨#[65, 66, 67, 68]⟩, .slice A 4 c], .bool true]) (by simp [results, Try.results98, r1, r2, r3, go_sem]) rfl ⟨A, 4, c, us, rfl, S8.mono (by simp) (by simp), by omega, l1, Be⟩
set_option maxHeartbeats 4000000 in
set_option maxRecDepth 100000 in
theorem specKn5 (w : World) :
    Calls Try.prog 98 #[.int .i64 5] w fun e w' => ∃ A m c us, e = .returned (.tuple #[.agg #[.int .i64 12, .string ⟨#[65, 66, 67, 68]⟩, .slice A m c], .bool true]) ∧ SS w' w.heap.size w.heap.size A m c us (knG 5) ∧ m ≤ 4 ∧ (∀ i, i < m → (us.getD i sd0).2.1 ≤ 20) ∧ Below w.heap.size w w' := by
  have c0 : Hid (Blk ((w.alloc (.cells #[.int .i64 0, .string ⟨#[]⟩, .slice none 0 0] 26)).alloc (.cells #[.string ⟨#[40, 48, 32, 49, 32, 50, 41, 40, 51, 32, 54, 32, 57, 41]⟩, .string ⟨#[40, 48, 32, 55, 32, 49, 48, 41, 40, 51, 32, 52, 32, 53, 41]⟩, .string ⟨#[40, 49, 32, 52, 32, 49, 49, 41, 40, 54, 32, 55, 32, 56, 41]⟩, .string ⟨#[40, 50, 32, 53, 32, 56, 41, 40, 57, 32, 49, 48, 32, 49, 49, 41]⟩] 9)) (w.heap.size + 1) 9 #[.string ⟨#[40, 48, 32, 49, 32, 50, 41, 40, 51, 32, 54, 32, 57, 41]⟩, .string ⟨#[40, 48, 32, 55, 32, 49, 48, 41, 40, 51, 32, 52, 32, 53, 41]⟩, .string ⟨#[40, 49, 32, 52, 32, 49, 49, 41, 40, 54, 32, 55, 32, 56, 41]⟩, .string ⟨#[40, 50, 32, 53, 32, 56, 41, 40, 57, 32, 49, 48, 32, 49, 49, 41]⟩]) := Lib.hid (by
    have := Blk.new (w.alloc (.cells #[.int .i64 0, .string ⟨#[]⟩, .slice none 0 0] 26)) 9 #[.string ⟨#[40, 48, 32, 49, 32, 50, 41, 40, 51, 32, 54, 32, 57, 41]⟩, .string ⟨#[40, 48, 32, 55, 32, 49, 48, 41, 40, 51, 32, 52, 32, 53, 41]⟩, .string ⟨#[40, 49, 32, 52, 32, 49, 49, 41, 40, 54, 32, 55, 32, 56, 41]⟩, .string ⟨#[40, 50, 32, 53, 32, 56, 41, 40, 57, 32, 49, 48, 32, 49, 49, 41]⟩]; rw [World.size_alloc] at this; exact this)
  have p0 : Hid (Blk ((w.alloc (.cells #[.int .i64 0, .string ⟨#[]⟩, .slice none 0 0] 26)).alloc (.cells #[.string ⟨#[40, 48, 32, 49, 32, 50, 41, 40, 51, 32, 54, 32, 57, 41]⟩, .string ⟨#[40, 48, 32, 55, 32, 49, 48, 41, 40, 51, 32, 52, 32, 53, 41]⟩, .string ⟨#[40, 49, 32, 52, 32, 49, 49, 41, 40, 54, 32, 55, 32, 56, 41]⟩, .string ⟨#[40, 50, 32, 53, 32, 56, 41, 40, 57, 32, 49, 48, 32, 49, 49, 41]⟩] 9)) w.heap.size 26 #[.int .i64 0, .string ⟨#[]⟩, .slice none 0 0]) := Lib.hid ((Blk.new w _ _).alloc _)
  have B0 : Hid (Below w.heap.size w ((w.alloc (.cells #[.int .i64 0, .string ⟨#[]⟩, .slice none 0 0] 26)).alloc (.cells #[.string ⟨#[40, 48, 32, 49, 32, 50, 41, 40, 51, 32, 54, 32, 57, 41]⟩, .string ⟨#[40, 48, 32, 55, 32, 49, 48, 41, 40, 51, 32, 52, 32, 53, 41]⟩, .string ⟨#[40, 49, 32, 52, 32, 49, 49, 41, 40, 54, 32, 55, 32, 56, 41]⟩, .string ⟨#[40, 50, 32, 53, 32, 56, 41, 40, 57, 32, 49, 48, 32, 49, 49, 41]⟩] 9))) := Lib.hid (((Below.refl _ w).alloc (Nat.le_refl _) _).alloc (by simp) _)
  go_enter Try.func98, Try.ntmps98
  go_wp2_with fail
  refine (specPuzzleOf 12 (w.heap.size + 1) 4 4 [⟨#[40, 48, 32, 49, 32, 50, 41, 40, 51, 32, 54, 32, 57, 41]⟩, ⟨#[40, 48, 32, 55, 32, 49, 48, 41, 40, 51, 32, 52, 32, 53, 41]⟩, ⟨#[40, 49, 32, 52, 32, 49, 49, 41, 40, 54, 32, 55, 32, 56, 41]⟩, ⟨#[40, 50, 32, 53, 32, 56, 41, 40, 57, 32, 49, 48, 32, 49, 49, 41]⟩] ((w.alloc (.cells #[.int .i64 0, .string ⟨#[]⟩, .slice none 0 0] 26)).alloc (.cells #[.string ⟨#[40, 48, 32, 49, 32, 50, 41, 40, 51, 32, 54, 32, 57, 41]⟩, .string ⟨#[40, 48, 32, 55, 32, 49, 48, 41, 40, 51, 32, 52, 32, 53, 41]⟩, .string ⟨#[40, 49, 32, 52, 32, 49, 49, 41, 40, 54, 32, 55, 32, 56, 41]⟩, .string ⟨#[40, 50, 32, 53, 32, 56, 41, 40, 57, 32, 49, 48, 32, 49, 49, 41]⟩] 9)) (by decide) (by decide) (by decide) rfl (by simp) (Lib.hid ?_) (Lib.hid ?_) ⟨#[65, 66, 67, 68]⟩ (Lib.hid (by first | rfl | decide))).mono ?_
  · intro j hj
    rw [c0.out.cell j]
    match j, hj with
    | 0, _ => rfl
    | 1, _ => rfl
    | 2, _ => rfl
    | 3, _ => rfl
  · intro j hj
    match j, hj with
    | 0, _ => exact (by decide : (⟨#[40, 48, 32, 49, 32, 50, 41, 40, 51, 32, 54, 32, 57, 41]⟩ : ByteArray).size ≤ 200)
    | 1, _ => exact (by decide : (⟨#[40, 48, 32, 55, 32, 49, 48, 41, 40, 51, 32, 52, 32, 53, 41]⟩ : ByteArray).size ≤ 200)
    | 2, _ => exact (by decide : (⟨#[40, 49, 32, 52, 32, 49, 49, 41, 40, 54, 32, 55, 32, 56, 41]⟩ : ByteArray).size ≤ 200)
    | 3, _ => exact (by decide : (⟨#[40, 50, 32, 53, 32, 56, 41, 40, 57, 32, 49, 48, 32, 49, 49, 41]⟩ : ByteArray).size ≤ 200)
  rintro e w1 ⟨A, c, us, rfl, s1, l1, b1⟩
  have P1 := Lib.hid (p0.out.below b1 p0.out.lt)
  have B1 := btr B0.out b1
  have S1 : SS w1 (w.heap.size + 2) (w.heap.size + 2) A 4 c us (knG 5) := by have := s1; rw [show (12 : Int) = ((12 : Nat) : Int) from rfl] at *; rw [show knG 5 = rdC 12 [⟨#[40, 48, 32, 49, 32, 50, 41, 40, 51, 32, 54, 32, 57, 41]⟩, ⟨#[40, 48, 32, 55, 32, 49, 48, 41, 40, 51, 32, 52, 32, 53, 41]⟩, ⟨#[40, 49, 32, 52, 32, 49, 49, 41, 40, 54, 32, 55, 32, 56, 41]⟩, ⟨#[40, 50, 32, 53, 32, 56, 41, 40, 57, 32, 49, 48, 32, 49, 49, 41]⟩] from rd5.symm]; simpa using this
  have hs1 : w.heap.size + 2 ≤ w1.heap.size := by have := b1.size; simpa using this
  have y0 := P1.out.cell 0
  have y1 := P1.out.cell 1
  have y2 := P1.out.cell 2
  have g0 := P1.out.frozen 0
  have g1 := P1.out.frozen 1
  have g2 := P1.out.frozen 2
  go_wp2_with fail
  obtain ⟨W2, e2⟩ : ∃ W2, w1.setCell ⟨w.heap.size, 0, none⟩ (.int .i64 12) = W2 := ⟨_, rfl⟩
  obtain ⟨W3, e3⟩ : ∃ W3, W2.setCell ⟨w.heap.size, 1, none⟩ (.string ⟨#[65, 66, 67, 68]⟩) = W3 := ⟨_, rfl⟩
  obtain ⟨W4, e4⟩ : ∃ W4, W3.setCell ⟨w.heap.size, 2, none⟩ (.slice A 4 c) = W4 := ⟨_, rfl⟩
  rw [e2, e3, e4]
  have D2 : Blk W2 w.heap.size 26 #[.int .i64 12, .string ⟨#[]⟩, .slice none 0 0] := by rw [← e2]; exact P1.out.set_ 0 _
  have D3 : Blk W3 w.heap.size 26 #[.int .i64 12, .string ⟨#[65, 66, 67, 68]⟩, .slice none 0 0] := by rw [← e3]; exact D2.set_ 1 _
  have D4 : Blk W4 w.heap.size 26 #[.int .i64 12, .string ⟨#[65, 66, 67, 68]⟩, .slice A 4 c] := by rw [← e4]; exact D3.set_ 2 _
  have r1 := D4.cell 0
  have r2 := D4.cell 1
  have r3 := D4.cell 2
  have Be : Below w.heap.size w W4 := by
    rw [← e4, ← e3, ← e2]
    exact ((B1.setCell (p := ⟨w.heap.size, 0, none⟩) (Nat.le_refl _) _).setCell (p := ⟨w.heap.size, 1, none⟩) (Nat.le_refl _) _).setCell (p := ⟨w.heap.size, 2, none⟩) (Nat.le_refl _) _
  have LA := S1.lt_
  have LI := fun t ht => (S1.row t ht).lt_
  have S6 := (S1).farR (w' := W2) (r := w.heap.size) (by rw [← e2]; exact grown_set (grown_refl _ _) _ _) LA LI (.inl (by simp))
  have S7 := (S6).farR (w' := W3) (r := w.heap.size) (by rw [← e3]; exact grown_set (grown_refl _ _) _ _) LA LI (.inl (by simp))
  have S8 := (S7).farR (w' := W4) (r := w.heap.size) (by rw [← e4]; exact grown_set (grown_refl _ _) _ _) LA LI (.inl (by simp))
  clear e2 e3 e4
  exact bodyPost_ret (v := .tuple #[.agg #[.int .i64 12, .string ⟨#[65, 66, 67, 68]⟩, .slice A 4 c], .bool true]) (by simp [results, Try.results98, r1, r2, r3, go_sem]) rfl ⟨A, 4, c, us, rfl, S8.mono (by simp) (by simp), by omega, l1, Be⟩
set_option maxHeartbeats 4000000 in
set_option maxRecDepth 100000 in
theorem specKnX (k : Int) (w : World) (h0 : k ≠ 0) (h1 : k ≠ 1) (h2 : k ≠ 2) (h3 : k ≠ 3) (h4 : k ≠ 4) (h5 : k ≠ 5) :
    Calls Try.prog 98 #[.int .i64 k] w fun e w' => ∃ A m c us, e = .returned (.tuple #[.agg #[.int .i64 0, .string ⟨#[]⟩, .slice A m c], .bool false]) ∧ SS w' w.heap.size w.heap.size A m c us (knG 9) ∧ m ≤ 4 ∧ (∀ i, i < m → (us.getD i sd0).2.1 ≤ 20) ∧ Below w.heap.size w w' := by
  have P1 : Hid (Blk (w.alloc (.cells #[.int .i64 0, .string ⟨#[]⟩, .slice none 0 0] 26)) w.heap.size 26 #[.int .i64 0, .string ⟨#[]⟩, .slice none 0 0]) := Lib.hid (Blk.new w _ _)
  have B1 : Below w.heap.size w (w.alloc (.cells #[.int .i64 0, .string ⟨#[]⟩, .slice none 0 0] 26)) := (Below.refl _ w).alloc (Nat.le_refl _) _
  have d0 : decide (k = 0) = false := by simp [h0]
  have d1 : decide (k = 1) = false := by simp [h1]
  have d2 : decide (k = 2) = false := by simp [h2]
  have d3 : decide (k = 3) = false := by simp [h3]
  have d4 : decide (k = 4) = false := by simp [h4]
  have d5 : decide (k = 5) = false := by simp [h5]
  go_enter Try.func98, Try.ntmps98
  have y0 := P1.out.cell 0
  have y1 := P1.out.cell 1
  have y2 := P1.out.cell 2
  have g0 := P1.out.frozen 0
  have g1 := P1.out.frozen 1
  have g2 := P1.out.frozen 2
  go_wp2_with fail
  exact bodyPost_ret (v := .tuple #[.agg #[.int .i64 0, .string ⟨#[]⟩, .slice none 0 0], .bool false]) (by simp [results, Try.results98, y0, y1, y2, go_sem]) rfl ⟨none, 0, 0, [], rfl, SS.nil_, by omega, fun i hi => absurd hi (by omega), B1⟩
/-- The model's KnownPuzzle. -/
theorem specKnownPuzzle (k : Int) (w : World) :
    Calls Try.prog 98 #[.int .i64 k] w fun e w' => ∃ A m c us, e = .returned (.tuple #[.agg #[.int .i64 (knN k), .string (knS k), .slice A m c], .bool (knB k)]) ∧ SS w' w.heap.size w.heap.size A m c us (knG k) ∧ m ≤ 4 ∧ (∀ i, i < m → (us.getD i sd0).2.1 ≤ 20) ∧ Below w.heap.size w w' := by
  by_cases h0 : k = 0
  · subst h0; exact specKn0 w
  by_cases h1 : k = 1
  · subst h1; exact specKn1 w
  by_cases h2 : k = 2
  · subst h2; exact specKn2 w
  by_cases h3 : k = 3
  · subst h3; exact specKn3 w
  by_cases h4 : k = 4
  · subst h4; exact specKn4 w
  by_cases h5 : k = 5
  · subst h5; exact specKn5 w
  have e1 : knN k = 0 := by simp [knN, h0, h1, h2, h3, h4, h5]
  have e2 : knS k = ⟨#[]⟩ := by simp [knS, h0, h1, h2, h3, h4, h5]
  have e3 : knG k = knG 9 := by simp [knG, h0, h1, h2, h3, h4, h5]
  have e4 : knB k = false := by simp [knB]; omega
  rw [e1, e2, e3, e4]; exact specKnX k w h0 h1 h2 h3 h4 h5
end Go.Proofs.Ytkjokchhffjidaa

/- A draw of a group, with where its slices lie. Condition: at most 4096 bytes. -/
namespace Go.Proofs.Ytkjokchhffjidaa
open Go.RowKit

/-- Slices of numbers that can be read, all in blocks from lo on. -/
structure RX (w : World) (lo : Nat) (A : Option Addr) (n : Nat) (vs : List SV) (xss : List (List Int)) : Prop where
  rr : RR w w.heap.size A n vs xss
  outer : 0 < n → ∀ b off, A = some ⟨b, off, none⟩ → lo ≤ b
  inner : ∀ j, j < n → ∀ b off, (vs.getD j sd0).1 = some ⟨b, off, none⟩ → 0 < (xss.getD j []).length → lo ≤ b
section
variable {w w' : World} {lo g n : Nat} {A : Option Addr} {vs : List SV} {xss : List (List Int)}
theorem RX.nil_ {c : Option Addr} : RX w lo c 0 [] [] := ⟨RR.nil_, fun h => absurd h (Nat.lt_irrefl _), fun j h => absurd h (Nat.not_lt_zero _)⟩
theorem RX.of_ss {bo bi c : Nat} (h : SS w bo bi A n c vs xss) (h1 : lo ≤ bo) (h2 : lo ≤ bi) : RX w lo A n vs xss :=
  ⟨h.rr, fun _ b off e => by have := (h.lt_ b (by subst e; rfl)).1; omega, fun j hj b off e _ => by have := ((h.row j hj).lt_ b (by rw [e]; rfl)).1; omega⟩
theorem RX.gro (h : RX w lo A n vs xss) (hg : w.grownBy w' (some g)) (hl : g < lo) : RX w' lo A n vs xss :=
  ⟨⟨h.rr.lv, h.rr.lx, fun hn => by
      obtain ⟨b, off, e, hb, hc⟩ := h.rr.cells hn
      have := h.outer hn b off e
      exact ⟨b, off, e, Nat.lt_of_lt_of_le hb hg.size, fun j hj => (World.cell?_of_block (a := ⟨b, off + j, none⟩) (hg.block b hb (by intro e2; injection e2 with e2; omega))).trans (hc j hj)⟩,
    fun j hj hp => by
      obtain ⟨b, off, e, hb, hc⟩ := h.rr.rows j hj hp
      have := h.inner j hj b off e hp
      exact ⟨b, off, e, Nat.lt_of_lt_of_le hb hg.size, fun t ht => (World.cell?_of_block (a := ⟨b, off + t, none⟩) (hg.block b hb (by intro e2; injection e2 with e2; omega))).trans (hc t ht)⟩, h.rr.lens, h.rr.caps⟩, h.outer, h.inner⟩
theorem RX.up (h : RX w lo A n vs xss) (hb : Below w.heap.size w w') : RX w' lo A n vs xss := ⟨h.rr.up hb, h.outer, h.inner⟩
end
section
variable {w w' : World} {base n c : Nat} {A : Option Addr} {vs : List SV} {xss : List (List Int)}
/-- A slice that can be read, appended onto a slice of slices of the call's own. -/
theorem wpList_app2X {ops : Array Oper} {rest : List Oper} {o : Oper} {a : Act} {Q : Exit → Act → World → Prop} (hgd : o.guard = none) (s x : Operand)
    (ho : o.op = .call { callee := .builtin .append, args := #[s, x], argTypes := #[24, 24] })
    (hs : a.eval s = .slice A n c) (hss : SS w base base A n c vs xss) (g : Nat) (dA : Option Addr) (dn dc lo : Nat) (ys : List Int) (hx : a.eval x = .slice (some ⟨g, 0, none⟩) 1 1)
    (hcell : w.cell? ⟨g, 0, none⟩ = some (.slice dA dn dc)) (hys : Pm w lo dA dn dc ys) (hlo : ∀ k, (Value.slice A n c).ownBlock = some k → k < lo) (hn : n ≤ 1000000000) (hbase : base ≤ w.heap.size) (l0 : Nat) (hl0 : l0 ≤ base) (hl1 : l0 ≤ lo)
    (h : ∀ A' c' w', RX w' l0 A' (n + 1) (vs ++ [(dA, dn, dc)]) (xss ++ [ys]) → w.grownBy w' (Value.slice A n c).ownBlock → wpList Try.prog ops Q rest (a.put o.dst (.slice A' (n + 1) c')) w') : wpList Try.prog ops Q (o :: rest) a w := by
  obtain ⟨i0, hi, hz0, hz1, hz2⟩ := info_parts infoS
  refine wpList_append_own (w := w) hgd s x 24 ho base 27 i0 (.slice none 0 0) 1 24 Try.underlying24 hi hz0 hz1 hz2 rfl (by decide) _ n _ hs hss.own ⟨g, 0, none⟩ 1 1 [.slice dA dn dc] hx rfl ?_ ?_ ?_ (by omega) hbase ?_
  · intro j v hj
    match j, hj with
    | 0, hj => simp at hj; subst hj; simpa [Addr.add] using hcell
    | j + 1, hj => simp at hj
  · intro v hv; simp at hv; subst hv; rfl
  · unfold maxLen; omega
  · intro v' w' hown' hg _
    rcases hown'.2 with ⟨rfl, h0⟩ | ⟨g', cap, cur, rfl, hb', hg', hnc, _⟩
    · omega
    · refine h (some ⟨g', 0, none⟩) cap w' ⟨⟨by simp [hss.lv], by simp [hss.lx], fun _ => ⟨g', 0, rfl, (Array.getElem?_eq_some_iff.1 hg').1, fun j hj => ?_⟩, fun j hj => ?_, fun j hj => ?_, fun j hj => ?_⟩, fun _ b off e => ?_, fun j hj b off e hp => ?_⟩ hg
      · rw [Nat.zero_add, hown'.cellAt j (by omega)]
        by_cases e : j < n
        · rw [List.getElem?_append_left (by rw [List.length_map, hss.lv]; exact e), List.getElem?_map, getD_app _ _ _ _ (by rw [hss.lv]; exact e), List.getD_eq_getElem?_getD, List.getElem?_eq_getElem (by rw [hss.lv]; exact e)]; rfl
        · obtain rfl : j = n := by omega
          rw [List.getElem?_append_right (by rw [List.length_map, hss.lv]; exact Nat.le_refl _), List.length_map, hss.lv, Nat.sub_self, getD_snoc _ _ _ _ hss.lv.symm]; rfl
      · by_cases e : j < n
        · rw [getD_app _ _ _ _ (by rw [hss.lv]; exact e), getD_app _ _ _ _ (by rw [hss.lx]; exact e)]
          exact ((hss.row j e).kept hg (apart_types (hss.row j e) hss.own)).ri_
        · obtain rfl : j = n := by omega
          rw [getD_snoc _ _ _ _ hss.lv.symm, getD_snoc _ _ _ _ hss.lx.symm]
          intro hp
          obtain ⟨b, off, e1, h1, h2, hc⟩ := hys.2.2 (by rw [← hys.1]; exact hp)
          refine ⟨b, off, e1, Nat.lt_of_lt_of_le h2 hg.size, fun t ht => (World.cell?_of_block (a := ⟨b, off + t, none⟩) (hg.block b h2 fun e2 => ?_)).trans (hc t (by rw [← hys.1]; exact ht))⟩
          have := hlo b e2.symm
          omega
      · by_cases e : j < n
        · rw [getD_app _ _ _ _ (by rw [hss.lx]; exact e), getD_app _ _ _ _ (by rw [hss.lv]; exact e)]; exact (hss.row j e).1
        · obtain rfl : j = n := by omega
          rw [getD_snoc _ _ _ _ hss.lx.symm, getD_snoc _ _ _ _ hss.lv.symm]; exact hys.1
      · by_cases e : j < n
        · rw [getD_app _ _ _ _ (by rw [hss.lv]; exact e)]; exact (hss.row j e).le.1
        · obtain rfl : j = n := by omega
          rw [getD_snoc _ _ _ _ hss.lv.symm]; exact hys.2.1
      · injection e with e; injection e with e; omega
      · by_cases e9 : j < n
        · rw [getD_app _ _ _ _ (by rw [hss.lv]; exact e9)] at e
          have := ((hss.row j e9).lt_ b (by rw [e]; rfl)).1
          omega
        · obtain rfl : j = n := by omega
          rw [getD_snoc _ _ _ _ hss.lv.symm] at e
          rw [getD_snoc _ _ _ _ hss.lx.symm] at hp
          obtain ⟨b2, off2, e1, h1, _⟩ := hys.2.2 (by rw [← hys.1]; exact hp)
          have e3 : (some ⟨b, off, none⟩ : Option Addr) = some ⟨b2, off2, none⟩ := e.symm.trans e1
          injection e3 with e3; injection e3 with e3; omega
end

end Go.Proofs.Ytkjokchhffjidaa

/- The model's draws of a degree and of a permutation for the texts. Condition: at most 4096 bytes. -/
namespace Go.Proofs.Ytkjokchhffjidaa
open Go.RowKit

theorem bigT2 (A : Option Addr) (len cap : Nat) (w : World) (hl : len ≤ 4096) : Calls Try.prog 12 #[.slice A len cap] w fun e w' => e = .returned (.bool false) ∧ w = w' := by
  have d1 : decide ((4096 : Int) < len) = false := by simp; omega
  go_enter Try.func12, Try.ntmps12
  go_wp2
  go_ret
  exact ⟨rfl, rfl⟩
theorem bigF2 (A : Option Addr) (len cap : Nat) (w : World) (hl : 4096 < len) : Calls Try.prog 12 #[.slice A len cap] w fun e w' => e = .returned (.bool true) ∧ w = w' := by
  have d1 : decide ((4096 : Int) < len) = true := by simp; omega
  go_enter Try.func12, Try.ntmps12
  go_wp2
  go_ret
  exact ⟨rfl, rfl⟩
theorem SB.of_row {w : World} {a : Option Addr} {len cap : Nat} {zs : List Int}
    (h : (a = none ∧ len = 0 ∧ cap = 0 ∧ zs = []) ∨ ∃ x, a = some x ∧ len ≤ cap ∧ cap ≤ maxLen ∧ zs.length = cap ∧ (∀ i, i < zs.length → w.cell? (x.add i) = some (.int .u8 (zs.getD i 0))) ∧ ∀ n ∈ zs, (Lit.int .u8 n).wf = true)
    (hw : ∀ n : Int, (Lit.int .u8 n).wf = true → 0 ≤ n ∧ n ≤ 255) : SB w w.heap.size a len := by
  rcases h with ⟨rfl, rfl, rfl, rfl⟩ | ⟨⟨b, off, spot⟩, rfl, hl, hm, hz, hc, hwf⟩
  · exact fun h => absurd h (by omega)
  · intro hp
    have h0 := hc 0 (by omega)
    have hspot : spot = none := by simpa [Addr.add] using World.cell?_spot h0
    subst hspot
    refine ⟨b, off, rfl, ?_, fun j hj => ?_⟩
    · have := World.block_lt_of_cell? w _ h0
      simpa [Addr.add] using this
    · have hjz : j < zs.length := by omega
      have hr := hw (zs.getD j 0) (hwf _ (by rw [List.getD_eq_getElem?_getD, List.getElem?_eq_getElem hjz]; exact List.getElem_mem _))
      refine ⟨(zs.getD j 0).toNat, by omega, ?_⟩
      rw [Int.toNat_of_nonneg hr.1, ← hc j hjz]
      unfold Addr.add
      split <;> simp_all
theorem below_gro2 {w0 w w' : World} {g : Nat} (h : Below w0.heap.size w0 w) (hg : w.grownBy w' (some g)) (hB : w0.heap.size ≤ g) : Below w0.heap.size w0 w' := h.grown hg h.size (fun k e => by injection e with e; omega)
theorem Pm.hid {w : World} {base n c : Nat} {A : Option Addr} {xs : List Int} (h : Pm w base A n c xs) : Hid (xs.length = n) := Lib.hid h.1


end Go.Proofs.Ytkjokchhffjidaa

/- Plain facts on cycle types: the lengths of all cycles, in descending order. No Go in it. No condition. -/
namespace Go.Proofs.Ytkjokchhffjidaa

def lens (p : List Int) : List Nat := (cycs p).map List.length
/-- Those of the numbers that are at most n, and at least 1, in descending order. -/
def desc : Nat → List Nat → List Int
  | 0, _ => []
  | n + 1, l => List.replicate (l.count (n + 1)) (((n + 1 : Nat) : Int)) ++ desc n l
def ctype (p : List Int) : List Int := desc p.length (lens p)
def ctypeL (p : List Int) : List Int := if isP p = true then ctype p else []
theorem desc_count (n : Nat) (l : List Nat) (x : Int) : (desc n l).count x = if 1 ≤ x ∧ x ≤ n then l.count x.toNat else 0 := by
  induction n with
  | zero => rw [if_neg (by omega)]; rfl
  | succ n ih =>
    rw [desc, List.count_append, ih, List.count_replicate]
    by_cases e : x = ((n + 1 : Nat) : Int)
    · subst e
      rw [if_pos (by simp), if_neg (by omega), if_pos (by omega)]; simp
    · rw [if_neg (by simpa using Ne.symm e)]
      by_cases h : 1 ≤ x ∧ x ≤ n
      · rw [if_pos h, if_pos (by omega)]; omega
      · rw [if_neg h, if_neg (by omega)]
theorem desc_mem (n : Nat) (l : List Nat) {x : Int} (h : x ∈ desc n l) : 1 ≤ x ∧ x ≤ n := by
  have := List.count_pos_iff.2 h
  rw [desc_count] at this
  split at this
  · assumption
  · omega
theorem desc_sorted (n : Nat) (l : List Nat) : (desc n l).Pairwise fun a b => b ≤ a := by
  induction n with
  | zero => exact List.Pairwise.nil
  | succ n ih =>
    rw [desc, List.pairwise_append]
    refine ⟨List.pairwise_replicate.2 (.inr (Int.le_refl _)), ih, fun a ha b hb => ?_⟩
    rw [List.mem_replicate] at ha
    have := desc_mem n l hb
    omega
theorem sort_desc (n : Nat) (l : List Nat) (h : ∀ x ∈ l, 1 ≤ x ∧ x ≤ n) : ((l.map Int.ofNat).mergeSort fun x y => decide (x ≤ y)).reverse = desc n l := by
  apply List.Perm.eq_of_pairwise (le := fun (a b : Int) => b ≤ a)
  · intro a b _ _ h1 h2; omega
  · rw [List.pairwise_reverse]
    have := List.pairwise_mergeSort (le := fun (x y : Int) => decide (x ≤ y)) (fun a b c h1 h2 => by simp at *; omega) (fun a b => by simp; omega) (l.map Int.ofNat)
    exact this.imp fun h => by simpa using h
  · exact desc_sorted n l
  · refine (List.reverse_perm _).trans ((List.mergeSort_perm _ _).trans ?_)
    rw [List.perm_iff_count]
    intro x
    rw [desc_count]
    by_cases hx : 0 ≤ x
    · have e1 : (l.map Int.ofNat).count x = l.count x.toNat := by
        clear h
        induction l with
        | nil => rfl
        | cons a t ih =>
          rw [List.map_cons, List.count_cons, List.count_cons, ih]
          by_cases e : a = x.toNat
          · have e2 : Int.ofNat a = x := by rw [e]; simp; omega
            rw [if_pos (by simpa using e2), if_pos (by simpa using e)]
          · have e2 : Int.ofNat a ≠ x := by intro e3; apply e; rw [← e3]; rfl
            have : ¬ ((a : Int) = x) := e2
            simp [e, this]
      rw [e1]
      split
      · rfl
      · rename_i hn
        rw [List.count_eq_zero]
        intro hm
        have := h _ hm
        omega
    · rw [if_neg (by omega), List.count_eq_zero]
      intro hm
      rw [List.mem_map] at hm
      obtain ⟨a, _, e⟩ := hm
      have : (a : Int) = x := e
      omega
theorem lens_heads (p : List Int) : lens p = (heads p p.length).map (per p) := by
  unfold lens; rw [cycs_heads, List.map_map]; congr 1; funext x; simp [cyc_length]
theorem lens_mem {p : List Int} (h : IsP p) : ∀ x ∈ lens p, 1 ≤ x ∧ x ≤ p.length := by
  intro x hx
  rw [lens_heads, List.mem_map] at hx
  obtain ⟨a, ha, rfl⟩ := hx
  have ha' : a < p.length := List.mem_range.1 (List.mem_filter.1 ha).1
  have := per_spec h ha'
  exact ⟨this.1, this.2.1⟩
theorem ctype_sort {p : List Int} (h : IsP p) : (((lens p).map Int.ofNat).mergeSort fun x y => decide (x ≤ y)).reverse = ctype p := sort_desc _ _ (lens_mem h)
theorem lens_len (p : List Int) : (lens p).length = (cycs p).length := by simp [lens]
theorem cycs_pos {p : List Int} (h : IsP p) : 1 ≤ (cycs p).length := by
  obtain ⟨c, j, hc, hs, _⟩ := min_ex h (x := 0) (by have := h.pos; omega)
  rw [cycs_heads, List.length_map]
  have : c ∈ heads p p.length := List.mem_filter.2 ⟨List.mem_range.2 hc, hs⟩
  cases e : heads p p.length with
  | nil => rw [e] at this; cases this
  | cons => simp
theorem ctype_len {p : List Int} (h : IsP p) : (ctype p).length = (cycs p).length := by rw [← ctype_sort h, List.length_reverse, List.length_mergeSort, List.length_map, lens_len]
/-- The lengths of the first k cycles. -/
def lensI (p : List Int) (k : Nat) : List Int := ((lens p).take k).map Int.ofNat
theorem lensI_succ {p : List Int} {k l : Nat} (hk : k < (lens p).length) (e : (lens p)[k] = l) : lensI p (k + 1) = lensI p k ++ [(l : Int)] := by
  unfold lensI; rw [List.take_succ_eq_append_getElem hk, List.map_append, e]; rfl
theorem count_take {l : List Nat} {k x y : Nat} (hk : k < l.length) (e : l[k] = y) : (l.take (k + 1)).count x = (l.take k).count x + if y = x then 1 else 0 := by
  rw [List.take_succ_eq_append_getElem hk, List.count_append, e, List.count_singleton]
  simp
end Go.Proofs.Ytkjokchhffjidaa

/- Plain facts: the cycles part the points. No Go in it. Condition: the list is a permutation. -/
namespace Go.Proofs.Ytkjokchhffjidaa

theorem st_iff {p : List Int} (h : IsP p) {y : Nat} (hy : y < p.length) : st p y = true ↔ ∀ k, y ≤ it p k y := by
  unfold st
  rw [List.all_eq_true]
  constructor
  · intro hs k
    rw [it_mod h hy k]
    have := hs (k % per p y) (List.mem_range.2 (Nat.mod_lt _ (per_spec h hy).1))
    simpa using this
  · intro hs k _
    simpa using hs k
theorem surj {p : List Int} (h : IsP p) {j : Nat} (hj : j < p.length) : ∃ x, x < p.length ∧ nx p x = j := by
  obtain ⟨h1, _, h3, _⟩ := per_spec h hj
  refine ⟨it p (per p j - 1) j, it_lt h hj _, ?_⟩
  have : it p (per p j - 1 + 1) j = j := by rw [show per p j - 1 + 1 = per p j from by omega]; exact h3
  exact this
/-- The number of cycles. -/
theorem head_eq {p : List Int} (h : IsP p) {x y a b : Nat} (hx : x < p.length) (hy : y < p.length) (sx : st p x = true) (sy : st p y = true) (e : it p a x = it p b y) : x = y := by
  have lo : ∀ {u v c d : Nat}, u < p.length → v < p.length → st p u = true → it p c u = it p d v → u ≤ v := by
    intro u v c d hu hv su e
    have hv1 := per_spec h hv
    -- v is an iterate of u
    have : ∃ k, it p k u = v := by
      refine ⟨(per p v - d % per p v) + c, ?_⟩
      rw [it_add, e, ← it_add, it_mod h hv]
      have : (per p v - d % per p v + d) % per p v = 0 := by
        have h1 := Nat.mod_lt d (show 0 < per p v by omega)
        have h2 := Nat.div_add_mod d (per p v)
        have h3 : per p v - d % per p v + d = per p v * (d / per p v + 1) := by
          rw [Nat.mul_add, Nat.mul_one]; omega
        rw [h3]; exact Nat.mul_mod_right _ _
      rw [this]; rfl
    obtain ⟨k, ek⟩ := this
    have := (st_iff h hu).1 su k
    omega
  have h1 := lo hx hy sx e
  have h2 := lo hy hx sy e.symm
  omega
def longH (p : List Int) : List Nat := ((List.range p.length).filter (st p)).filter fun h => decide (1 < per p h)
theorem cycl_longH (p : List Int) : cycl p = (longH p).map (cyc p) := by
  unfold cycl longH cycs
  rw [List.filter_map]
  congr 1
  refine List.filter_congr fun x _ => ?_
  simp [cyc_length]
theorem sum_cycl (p : List Int) : ((cycl p).map List.length).sum = ((longH p).flatMap fun h => (List.range (per p h)).map fun k => it p k h).length := by
  rw [List.length_flatMap, cycl_longH, List.map_map]
  congr 1
  refine List.map_congr_left fun x _ => ?_
  simp [cyc_length]
theorem moved_count {p : List Int} (h : IsP p) : ((cycl p).map List.length).sum = (supp p).length := by
  rw [sum_cycl]
  unfold supp
  rw [List.length_map]
  apply List.Perm.length_eq
  rw [List.perm_ext_iff_of_nodup]
  · intro x
    rw [List.mem_flatMap, List.mem_filter, List.mem_range]
    constructor
    · rintro ⟨c, hc, hx⟩
      rw [List.mem_map] at hx
      obtain ⟨k, _, rfl⟩ := hx
      unfold longH at hc
      rw [List.mem_filter, List.mem_filter, List.mem_range] at hc
      obtain ⟨⟨hcl, hst⟩, hp⟩ := hc
      have hxl := it_lt h hcl k
      refine ⟨hxl, ?_⟩
      rw [bne_iff_ne, nx_val h hxl]
      intro e
      have h1 := per_spec h hxl
      rw [per_it h hcl k] at h1
      exact h1.2.2.2 1 (Nat.le_refl _) (by simpa using hp) (by show nx p (it p k c) = _; omega)
    · rintro ⟨hx, hm⟩
      obtain ⟨c, j, hc, hst, hj, e⟩ := min_ex h hx
      refine ⟨c, ?_, List.mem_map.2 ⟨j, List.mem_range.2 hj, e⟩⟩
      unfold longH
      rw [List.mem_filter, List.mem_filter, List.mem_range]
      refine ⟨⟨hc, hst⟩, ?_⟩
      have h1 := per_spec h hx
      rw [← e, per_it h hc j] at h1
      rw [decide_eq_true_eq]
      rw [bne_iff_ne, nx_val h hx] at hm
      rcases Nat.lt_or_ge 1 (per p c) with h2 | h2
      · exact h2
      · have h3 : per p c = 1 := by omega
        have h4 := h1.2.2.1
        rw [h3, e] at h4
        have h5 : nx p x = x := h4
        omega
  · unfold List.Nodup
    rw [List.pairwise_flatMap]
    constructor
    · intro c hc
      unfold longH at hc
      rw [List.mem_filter, List.mem_filter, List.mem_range] at hc
      have hcl := hc.1.1
      rw [List.pairwise_map, List.pairwise_iff_getElem]
      intro i j hi hj hij e
      simp only [List.length_range] at hi hj
      simp only [List.getElem_range] at e
      have h1 := per_spec h hcl
      have e2 : it p i (it p (j - i) c) = it p i c := by rw [← it_add, e]; congr 1; omega
      exact h1.2.2.2 (j - i) (by omega) (by omega) (it_inj h (it_lt h hcl _) hcl i e2)
    · have hnd : (longH p).Nodup := ((List.nodup_range).filter _).filter _
      refine hnd.imp_of_mem ?_
      intro a b ha hb hab x hx y hy e
      unfold longH at ha hb
      rw [List.mem_filter, List.mem_filter, List.mem_range] at ha hb
      rw [List.mem_map] at hx hy
      obtain ⟨k, _, rfl⟩ := hx
      obtain ⟨k', _, e'⟩ := hy
      exact hab (head_eq h ha.1.1 hb.1.1 ha.1.2 hb.1.2 (e.trans e'.symm))
  · exact (List.nodup_range).filter _

end Go.Proofs.Ytkjokchhffjidaa

/- The texts of permutations: their lengths; what is read back of them. Pure. -/
namespace Go.Proofs.Ytkjokchhffjidaa
open Go.RowKit

def flat (p : List Int) : List Nat := (heads p p.length).flatMap fun h => (List.range (per p h)).map fun k => it p k h
theorem flat_perm {p : List Int} (h : IsP p) : (flat p).Perm (List.range p.length) := by
  rw [List.perm_ext_iff_of_nodup]
  · intro x
    unfold flat
    rw [List.mem_flatMap, List.mem_range]
    constructor
    · rintro ⟨c, hc, hx⟩
      rw [List.mem_map] at hx
      obtain ⟨k, _, rfl⟩ := hx
      exact it_lt h (List.mem_range.1 (List.mem_filter.1 hc).1) k
    · intro hx
      obtain ⟨c, j, hc, hst, hj, e⟩ := min_ex h hx
      exact ⟨c, List.mem_filter.2 ⟨List.mem_range.2 hc, hst⟩, List.mem_map.2 ⟨j, List.mem_range.2 hj, e⟩⟩
  · unfold flat List.Nodup
    rw [List.pairwise_flatMap]
    constructor
    · intro c hc
      have hcl := List.mem_range.1 (List.mem_filter.1 hc).1
      rw [List.pairwise_map, List.pairwise_iff_getElem]
      intro i j hi hj hij e
      simp only [List.length_range] at hi hj
      simp only [List.getElem_range] at e
      have h1 := per_spec h hcl
      have e2 : it p i (it p (j - i) c) = it p i c := by rw [← it_add, e]; congr 1; omega
      exact h1.2.2.2 (j - i) (by omega) (by omega) (it_inj h (it_lt h hcl _) hcl i e2)
    · have hnd : (heads p p.length).Nodup := (List.nodup_range).filter _
      refine hnd.imp_of_mem ?_
      intro a b ha hb hab x hx y hy e
      unfold heads at ha hb
      rw [List.mem_filter, List.mem_range] at ha hb
      rw [List.mem_map] at hx hy
      obtain ⟨k, _, rfl⟩ := hx
      obtain ⟨k', _, e'⟩ := hy
      exact hab (head_eq h ha.1 hb.1 ha.2 hb.2 (e.trans e'.symm))
  · exact List.nodup_range
theorem lens_sum {p : List Int} (h : IsP p) : (lens p).sum = p.length := by
  have := (flat_perm h).length_eq
  rw [List.length_range] at this
  rw [← this, lens_heads]
  unfold flat
  rw [List.length_flatMap]
  congr 1
  refine List.map_congr_left fun x _ => ?_
  simp
theorem cycs_pts {p : List Int} (h : IsP p) : ∀ c ∈ cycs p, Pts c := by
  intro c hc
  rw [cycs_heads, List.mem_map] at hc
  obtain ⟨x, hx, rfl⟩ := hc
  have hxl : x < p.length := List.mem_range.1 (List.mem_filter.1 hx).1
  have hs := per_spec h hxl
  have hle := h.le
  intro z hz
  unfold cyc at hz
  rw [List.mem_map] at hz
  obtain ⟨k, _, rfl⟩ := hz
  have := it_lt h hxl k
  omega
theorem fmtCs_filter : ∀ (cs : List (List Int)), (∀ c ∈ cs, Pts c) → (fmtCs (cs.filter fun c => decide (1 < c.length))).length ≤ 4 * (cs.map List.length).sum := by
  intro cs
  induction cs with
  | nil => intro _; simp [fmtCs]
  | cons c cs ih =>
    intro h
    have h1 := ih fun d hd => h d (List.mem_cons_of_mem _ hd)
    rw [List.filter_cons, List.map_cons, List.sum_cons]
    by_cases hc : 1 < c.length
    · rw [if_pos (by simpa using hc), fmtCs_cons]
      have h2 := fmtI_len (h c List.mem_cons_self)
      simp only [List.length_append, List.length_cons, List.length_nil]
      omega
    · rw [if_neg (by simpa using hc)]; omega
theorem fmtCyc_short {p : List Int} (hp : IsP p) : (fmtCyc p).length ≤ 82 := by
  unfold fmtCyc
  rw [if_pos (isP_iff.2 hp)]
  split
  · simp
  · have h1 := fmtCs_filter (cycs p) (fun c hc => cycs_pts hp c hc)
    have h2 : ((cycs p).map List.length).sum = p.length := lens_sum hp
    have h3 := hp.le
    unfold cycl
    omega
theorem fmtCyc_len (p : List Int) : (fmtCyc p).length ≤ 82 := by
  by_cases h : fmtCyc p = []
  · rw [h]; simp
  · exact fmtCyc_short (fmtCyc_ne h)
theorem imgO_back {p : List Int} {t : ByteArray} (hp : IsP p) (ht : t.toList = fmtImg p) : imgO t = some p := by
  have e : fmtImg p = fmtI p := if_pos (isP_iff.2 hp)
  have hl := fmtI_len (isP_pts hp)
  have hs : t.size ≤ 200 := by
    have h1 := len_toList t
    rw [ht, e] at h1
    have := hp.le
    omega
  have hne : p ≠ [] := by intro e2; have := hp.pos; rw [e2] at this; simp at this
  unfold imgO
  rw [if_pos hs, ht, e, wordsP_fmt (isP_pts hp) hne]
  have ho : ofN (p.map Int.toNat) = p := (toNat_pts (isP_pts hp)).2
  unfold permO
  simp only [ho, isP_iff.2 hp, if_true]
theorem cycO_back {p : List Int} {t : ByteArray} (hp : IsP p) (ht : t.toList = fmtCyc p) : cycO (p.length : Int) t = some p := by
  have h1 := len_toList t
  rw [ht] at h1
  have h2 := fmtCyc_len p
  refine (cycO_wr ⟨by have := hp.pos; omega, by have := hp.le; omega, by omega⟩ p).2 ⟨hp, by simp, ht.symm⟩
theorem cycO_text {n : Int} {s : ByteArray} {p : List Int} (h : cycO n s = some p) : fmtCyc p = s.toList := by
  by_cases hr : 1 ≤ n ∧ n ≤ 20 ∧ s.size ≤ 200
  · exact ((cycO_wr hr p).1 h).2.2
  · rw [cycO_out hr] at h; cases h
end Go.Proofs.Ytkjokchhffjidaa

/- The model's draw of a degree and a text for ParseCycles. Condition: at most 4096 bytes; the contract of corrupt is handed in. -/
namespace Go.Proofs.Ytkjokchhffjidaa
open Go.RowKit

/-- What is asked of corrupt: some text, not much longer. -/
def Corr : Prop := ∀ (g : Nat) (s u : ByteArray) (w : World), Src w g → s.size ≤ 100 → u.size = 7 →
    Calls Try.prog 99 #[.pointer (some ⟨g, 0, none⟩), .string s, .string u] w fun e w' => ∃ t, e = .returned (.string t) ∧ t.size ≤ 200 ∧ Src w' g ∧ w.grownBy w' (some g)

end Go.Proofs.Ytkjokchhffjidaa

/- The model's corrupt: some text, at most two bytes longer. Condition: at most 100 bytes, seven letters. -/
namespace Go.Proofs.Ytkjokchhffjidaa
open Go.RowKit

def RowU (w : World) (base q n c : Nat) (xs : List Int) : Prop := xs.length = n ∧ w.ownsRow base 5 1 (.slice (some ⟨q, 0, none⟩) n c) n (xs.map (Value.int .u8))
section
variable {w w' : World} {base q n c : Nat} {xs : List Int}
theorem RowU.cell (h : RowU w base q n c xs) {j : Nat} (hj : j < n) : w.cell? ⟨q, j, none⟩ = some (.int .u8 (xs.getD j 0)) := by
  have hl := h.1
  rw [h.2.cellAt j (by omega), List.getElem?_map, List.getD_eq_getElem?_getD, List.getElem?_eq_getElem (by omega)]; rfl
theorem RowU.free (h : RowU w base q n c xs) (j : Nat) : w.frozen? ⟨q, j, none⟩ = false := h.2.frozenAt j
theorem RowU.lt_ (h : RowU w base q n c xs) : base ≤ q ∧ q < w.heap.size := World.ownsRow.lt h.2 q rfl
theorem RowU.kept (h : RowU w base q n c xs) {row : Option Nat} (hg : w.grownBy w' row) (hne : some q ≠ row) : RowU w' base q n c xs := ⟨h.1, World.ownsRow.kept h.2 hg (.inr hne)⟩
theorem RowU.alloc (h : RowU w base q n c xs) (o : Obj) : RowU (w.alloc o) base q n c xs := ⟨h.1, World.ownsRow.alloc h.2 o⟩
theorem RowU.drew (h : RowU w base q n c xs) : RowU w.drew base q n c xs := h
theorem RowU.le (h : RowU w base q n c xs) : n ≤ c := by
  rcases h.2.2 with ⟨e, _⟩ | ⟨g, cap, cur, e, _, _, hc, _⟩
  · cases e
  · injection e with e1 e2 e3; omega
end
theorem RowU.lit0 (w : World) (base : Nat) (hb : base ≤ w.heap.size) : RowU (w.alloc (.cells #[] 5)) base w.heap.size 0 0 [] :=
  ⟨rfl, World.ownsRow_lit (size := 1) w #[] 0 hb (Nat.zero_le _) rfl⟩
theorem infoU : (Try.prog.info? 5).map (fun i => (i.zero, i.size, i.bytes)) = some (some (.int .u8 0), 1, 1) := by kernel_rfl

/-- append of readable bytes, as one step of a region that draws. -/
theorem step_appU {w : World} {ops : Array Oper} {o : Oper} {a : Act} {K : Act → World → Prop} {Q : Exit → Act → World → Prop} {E : Prop} (hgd : o.guard = none) (s x : Operand)
    (ho : o.op = .call { callee := .builtin .append, args := #[s, x], argTypes := #[22, 22] })
    (base q n c : Nat) (xs : List Int) (hs : a.eval s = .slice (some ⟨q, 0, none⟩) n c) (hown : RowU w base q n c xs) (g off m c2 : Nat) (ys : List Int) (hx : a.eval x = .slice (some ⟨g, off, none⟩) m c2)
    (hy : ∀ j, j < m → w.cell? ⟨g, off + j, none⟩ = some (.int .u8 (ys.getD j 0))) (ly : ys.length = m) (hn : n + m ≤ 1000000000) (hbase : base ≤ w.heap.size) (N : Nat) (hN : n + m = N)
    (h : ∀ q' c' w', RowU w' base q' N c' (xs ++ ys) → w.grownBy w' (some q) → K (a.put o.dst (.slice (some ⟨q', 0, none⟩) N c')) w') : if Region.wanted o (yielded ops a.tmps) = true then Oper.wp Try.prog o a w K Q else E := by
  have hw : Region.wanted o (yielded ops a.tmps) = true := by simp [Region.wanted, hgd]
  rw [if_pos hw]
  subst hN
  obtain ⟨i0, hi, hz0, hz1, hz2⟩ := info_parts infoU
  obtain ⟨hl, ho'⟩ := hown
  refine wp_append_own w s x 22 ho base 5 i0 (.int .u8 0) 1 1 Try.underlying22 hi hz0 hz1 hz2 rfl (by decide) _ n _ hs ho' ⟨g, off, none⟩ m c2 (ys.map (Value.int .u8)) hx (by simp [ly]) ?_ ?_ ?_ (by omega) hbase ?_
  · intro j v hj
    have hjl : j < ys.length := by
      have := (List.getElem?_eq_some_iff.1 hj).1
      simpa using this
    have e : (⟨g, off, none⟩ : Addr).add j = ⟨g, off + j, none⟩ := by unfold Addr.add; split <;> simp_all
    rw [e, hy j (by omega)]
    rw [List.getElem?_map, List.getElem?_eq_getElem hjl] at hj
    rw [← Option.some.inj hj, List.getD_eq_getElem?_getD, List.getElem?_eq_getElem hjl]; rfl
  · intro v hv; rw [List.mem_map] at hv; obtain ⟨u, _, rfl⟩ := hv; rfl
  · unfold maxLen; omega
  · intro v' w' hown' hg hiff
    rcases hown'.2 with ⟨e, _⟩ | ⟨q', cap, cur, e, hrest⟩
    · have := (hiff.1 e).1; cases this
    · subst e
      exact h q' cap w' ⟨by rw [List.length_append]; omega, by rw [List.map_append]; exact hown'⟩ hg

/-- The text as it stands: bytes that can be read and written. -/
def BT (w : World) (base q n c : Nat) (xs : List Int) : Prop := xs.length = n ∧ n ≤ c ∧ base ≤ q ∧ q < w.heap.size ∧ (∀ j, j < n → w.cell? ⟨q, j, none⟩ = some (.int .u8 (xs.getD j 0))) ∧ (∀ j, j < n → w.frozen? ⟨q, j, none⟩ = false)
theorem BT.of_row {w : World} {base q n c : Nat} {xs : List Int} (h : RowU w base q n c xs) : BT w base q n c xs :=
  ⟨h.1, h.le, h.lt_.1, h.lt_.2, fun _ hj => h.cell hj, fun j _ => h.free j⟩
theorem BT.gro {w w' : World} {base q n c g : Nat} {xs : List Int} (h : BT w base q n c xs) (hg : w.grownBy w' (some g)) (hb : g < base) : BT w' base q n c xs := by
  obtain ⟨h1, h2, h3, h4, h5, h6⟩ := h
  have hk := hg.block q h4 (by intro e; injection e with e; omega)
  exact ⟨h1, h2, h3, Nat.lt_of_lt_of_le h4 hg.size, fun j hj => (World.cell?_of_block (a := ⟨q, j, none⟩) hk).trans (h5 j hj), fun j hj => by rw [← h6 j hj]; unfold World.frozen?; rw [hk]⟩
theorem BT.take {w : World} {base q n c : Nat} {xs : List Int} (h : BT w base q n c xs) {i : Nat} (hi : i ≤ n) : BT w base q i c (xs.take i) := by
  obtain ⟨h1, h2, h3, h4, h5, h6⟩ := h
  refine ⟨by rw [List.length_take]; omega, by omega, h3, h4, fun j hj => ?_, fun j hj => h6 j (by omega)⟩
  rw [h5 j (by omega)]
  have : (xs.take i).getD j 0 = xs.getD j 0 := by rw [List.getD_eq_getElem?_getD, List.getElem?_take, if_pos hj, ← List.getD_eq_getElem?_getD]
  rw [this]
theorem drop_getD (xs : List Int) (i j : Nat) : (xs.drop i).getD j 0 = xs.getD (i + j) 0 := by rw [List.getD_eq_getElem?_getD, List.getElem?_drop, ← List.getD_eq_getElem?_getD]

theorem below_drew1 {B : Nat} {w w' : World} (h : Below B w w') : Below B w w'.drew := ⟨h.os, h.tape, h.output, h.size, h.block⟩
theorem grown_undrew {w w' : World} {row : Option Nat} (h : w.drew.grownBy w' row) : w.grownBy w' row := ⟨h.os, h.tape, h.output, h.size, h.block⟩
theorem BT.mono {w : World} {base base' q n c : Nat} {xs : List Int} (h : BT w base q n c xs) (hb : base' ≤ base) : BT w base' q n c xs := ⟨h.1, h.2.1, Nat.le_trans hb h.2.2.1, h.2.2.2⟩
def LB (w : World) (b z : Nat) : Prop := w.cell? ⟨b, 0, none⟩ = some (.int .u8 (z : Int)) ∧ b < w.heap.size
theorem LB.new (w : World) (z : Nat) : LB (w.alloc (.cells #[.int .u8 (z : Int)] 5)) w.heap.size z := ⟨by rw [World.cell?_alloc_at _ _ _ _ rfl]; rfl, by simp⟩
theorem LB.alloc {w : World} {b z : Nat} (h : LB w b z) (o : Obj) : LB (w.alloc o) b z := ⟨(World.cell?_alloc_lt w o ⟨b, 0, none⟩ h.2).trans h.1, by have := h.2; simp; omega⟩
theorem LB.kept {w w' : World} {b z : Nat} {row : Option Nat} (h : LB w b z) (hg : w.grownBy w' row) (hne : some b ≠ row) : LB w' b z := ⟨(World.cell?_of_block (a := ⟨b, 0, none⟩) (hg.block b h.2 hne)).trans h.1, Nat.lt_of_lt_of_le h.2 hg.size⟩
theorem LB.cells {w : World} {b z : Nat} (h : LB w b z) : ∀ j, j < 1 → w.cell? ⟨b, 0 + j, none⟩ = some (.int .u8 ([(z : Int)].getD j 0)) := fun j hj => by
  obtain rfl : j = 0 := by omega
  exact h.1
theorem BT.of_bytes (w : World) (s : ByteArray) (C : Nat) (hC : grownCap w s.size 0 5 = C) : ∃ xs, BT (Lib.bytesWorld w 5 s) w.heap.size w.heap.size s.size C xs := by
  have hge := grownCap_ge w s.size 0 5
  refine ⟨s.data.toList.map fun b => (b.toNat : Int), by rw [List.length_map, Array.length_toList]; rfl, by omega, Nat.le_refl _, by rw [Lib.bytesWorld_size]; omega, fun j hj => ?_, fun j hj => ?_⟩
  · rw [Lib.bytesWorld_cell w _ s j hj]
    have hjl : j < s.data.toList.length := by rw [Array.length_toList]; exact hj
    rw [List.getD_eq_getElem?_getD, List.getD_eq_getElem?_getD, List.getElem?_map, List.getElem?_eq_getElem hjl]; rfl
  · unfold World.frozen?
    rw [Lib.bytesWorld_at_new]
    have hsz : s.size ≤ (Lib.bytesCells w 5 s).size := by simp [Lib.bytesCells]
    have hno : ¬ (Lib.bytesCells w 5 s).size ≤ j := by omega
    simp [hno]
theorem convBT {w : World} {base q n c : Nat} {xs : List Int} (h : BT w base q n c xs) : (convert 22 9 (.slice (some ⟨q, 0, none⟩) n c)).run Try.prog w = .ok (.string (strOfNums xs)) w :=
  run_convert_bytes_arg _ 22 5 Try.underlying22 Try.underlying5 q 0 n c xs h.1 (fun i hi => by rw [Nat.zero_add]; exact h.2.2.2.2.1 i hi) 9 Try.underlying9
theorem BT.store {w : World} {base q n c : Nat} {xs : List Int} (h : BT w base q n c xs) {i : Nat} (hi : i < n) (u : Int) : ∃ ys, BT (w.setCell ⟨q, i, none⟩ (.int .u8 u)) base q n c ys := by
  obtain ⟨h1, h2, h3, h4, h5, h6⟩ := h
  refine ⟨xs.set i u, by rw [List.length_set]; exact h1, h2, h3, by simpa [World.setCell] using h4, fun j hj => ?_, fun j hj => ?_⟩
  · by_cases e : i = j
    · subst e
      rw [World.cell?_setCell_same _ _ _ (h5 i hi), set_getD rfl (by omega), if_pos rfl]
    · rw [World.cell?_setCell_other _ _ _ _ (fun e2 => by injection e2 with e3 e4; omega), h5 j hj, set_getD rfl (by omega), if_neg e]
  · rw [← h6 j hj]
    exact World.frozen?_setCell w _ _ _

set_option maxHeartbeats 8000000 in
set_option maxRecDepth 100000 in
theorem corrTU (g : Nat) (s u : ByteArray) (w : World) (hs : Src w g) (hl : s.size ≤ 100) (hu : 1 ≤ u.size ∧ u.size ≤ 100) :
    Calls Try.prog 99 #[.pointer (some ⟨g, 0, none⟩), .string s, .string u] w fun e w' => ∃ t, e = .returned (.string t) ∧ t.size ≤ 200 ∧ Src w' g ∧ w.grownBy w' (some g) := by
  have hcv := Lib.run_convert_string_bytes (P := Try.prog) w 9 22 5 s (u := .string) Try.underlying9 Try.underlying22 Try.underlying5
  obtain ⟨C, eC⟩ : ∃ C, grownCap w s.size 0 5 = C := ⟨_, rfl⟩
  have T0 := BT.of_bytes w s C eC
  obtain ⟨W1, eW⟩ : ∃ W1, Lib.bytesWorld w 5 s = W1 := ⟨_, rfl⟩
  rw [eC, eW] at hcv
  rw [eW] at T0
  have hg := hs.lt
  have B1 : Hid (Below w.heap.size w W1) := Lib.hid (by
    rw [← eW]
    exact ⟨rfl, rfl, rfl, by rw [Lib.bytesWorld_size]; omega, fun i hi => Lib.bytesWorld_at_old w _ s i hi⟩)
  have S1 : Hid (Src W1 g) := Lib.hid (hs.below B1.out hg)
  have G1 : Hid (w.grownBy W1 (some g)) := Lib.hid (grown_below2 (grown_refl _ _) B1.out)
  have T1 := Lib.hid T0
  clear eC eW T0
  go_enter Try.func99, Try.ntmps99
  go_wp2_with fail
  refine (srcBelow g _ 3 W1 S1.out rfl (by omega) (by omega)).mono ?_
  rintro e w2 ⟨k0, hk0, rfl, s2, g2⟩
  have S2 := Lib.hid s2
  have G2 : Hid (w.grownBy w2 (some g)) := Lib.hid (grown_trans' G1.out g2)
  have T2 : Hid (∃ xs, BT w2 w.heap.size w.heap.size s.size C xs) := Lib.hid (by obtain ⟨xs, h⟩ := T1.out; exact ⟨xs, h.gro g2 hg⟩)
  clear s2 g2 hcv
  go_wp2_with fail
  go_loopg [7, 8, 9] 2 (fun gg v kk _ wr => ∃ k q n c xs, k ≤ 2 ∧ k ≤ gg ∧ kk = .int .i64 (k : Nat) ∧ v = .slice (some ⟨q, 0, none⟩) n c ∧ n + k ≤ s.size + 2 ∧ BT wr w.heap.size q n c xs ∧ Src wr g ∧ w.grownBy wr (some g))
  case atStart =>
    obtain ⟨xs, h⟩ := T2.out
    exact ⟨k0, w.heap.size, s.size, C, xs, by omega, by omega, rfl, rfl, by omega, h, S2.out, G2.out⟩
  case round =>
    obtain ⟨k, q, n, c, xs, hk, hgg, rfl, rfl, hnk, bt, src, gro⟩ := hrel
    have T := Lib.hid bt
    have S := Lib.hid src
    have G := Lib.hid gro
    have hnc := bt.2.1
    have hq := bt.2.2.1
    clear bt src gro
    by_cases hgo : 0 < k ∧ 0 < n
    · obtain ⟨hk0', hn0⟩ := hgo
      go_wp2_with fail
      refine (srcBelow g _ n wr S.out rfl (by omega) (by omega)).mono ?_
      rintro e w3 ⟨i, hi, rfl, s3, g3⟩
      have S3 := Lib.hid s3
      have G3 : Hid (w.grownBy w3 (some g)) := Lib.hid (grown_trans' G.out g3)
      have T3 := Lib.hid (T.out.gro g3 hg)
      clear s3 g3
      go_wp2_with fail
      refine (srcBelow g _ 4 w3 S3.out rfl (by omega) (by omega)).mono ?_
      rintro e w5 ⟨r4, hr4, rfl, s5, g5⟩
      have S5 := Lib.hid s5
      have G5 : Hid (w.grownBy w5 (some g)) := Lib.hid (grown_trans' G3.out g5)
      have T5 := Lib.hid (T3.out.gro g5 hg)
      have hz5 : w.heap.size ≤ w5.heap.size := G5.out.size
      have p0 : (0 : Int) ≤ i := by omega
      have p1 : (i : Int) < n := by omega
      have p2 : (i : Int) ≤ n := by omega
      have p3 : (i : Int) ≤ c := by omega
      have p4 : i ≤ c := by omega
      clear s5 g5
      obtain rfl | rfl | rfl | rfl : r4 = 0 ∨ r4 = 1 ∨ r4 = 2 ∨ r4 = 3 := by omega
      · go_wp2_with fail
        refine (srcBelow g _ u.size w5 S5.out (by omega) (by omega) (by omega)).mono ?_
        rintro e w6 ⟨r7, hr7, rfl, s6, g6⟩
        have S6 := Lib.hid s6
        have G6 : Hid (w.grownBy w6 (some g)) := Lib.hid (grown_trans' G5.out g6)
        have t6 := T5.out.gro g6 hg
        have T6 := Lib.hid t6
        have c6 := t6.2.2.2.2.1 i hi
        have f6 := t6.2.2.2.2.2 i hi
        have u1 : (r7 : Int) < u.size := by omega
        have u2 : r7 < u.size := by omega
        have u0 : (0 : Int) ≤ r7 := by omega
        have T7 := Lib.hid (t6.store hi (u[r7]'(by omega)).toNat)
        have S7 : Hid (Src (w6.setCell ⟨q, i, none⟩ (.int .u8 ((u[r7]'(by omega)).toNat : Nat))) g) := Lib.hid (s6.below ((Below.refl (g + 1) w6).setCell (by show g + 1 ≤ q; omega) _) (by omega))
        have G7 : Hid (w.grownBy (w6.setCell ⟨q, i, none⟩ (.int .u8 ((u[r7]'(by omega)).toNat : Nat))) (some g)) := Lib.hid (grown_far G6.out hq _ _)
        clear s6 g6 t6
        go_wp2_with fail
        go_roundg (k - 1)
        case rel =>
          obtain ⟨ys, h⟩ := T7.out
          exact ⟨k - 1, q, n, c, ys, by omega, by omega, by go_num, rfl, by omega, h, S7.out, G7.out⟩
        case measure => omega
      · go_wp2_with fail
        go_roundg (k - 1)
        case rel => exact ⟨k - 1, q, i, c, xs.take i, by omega, by omega, by go_num, rfl, by omega, T5.out.take (by omega), S5.out, G5.out⟩
        case measure => omega
      · have DrX : Hid (∀ W : World, w5.grownBy W (some g) → ∀ j, j < n → W.cell? ⟨q, j, none⟩ = some (.int .u8 (xs.getD j 0))) := Lib.hid fun W h j hj => (T5.out.gro h hg).2.2.2.2.1 j hj
        have L5 : Hid (RowU (w5.alloc (.cells #[] 5)) w5.heap.size w5.heap.size 0 0 []) := Lib.hid (RowU.lit0 w5 _ (Nat.le_refl _))
        have ltk : Hid ((xs.take i).length = i) := Lib.hid (by rw [List.length_take, T5.out.1]; omega)
        have ldr : Hid ((xs.drop (i + 1)).length = n - (i + 1)) := Lib.hid (by rw [List.length_drop, T5.out.1])
        have Tk : Hid (∀ W : World, w5.grownBy W (some g) → ∀ j, j < i → W.cell? ⟨q, 0 + j, none⟩ = some (.int .u8 ((xs.take i).getD j 0))) := Lib.hid fun W h j hj => by rw [Nat.zero_add, DrX.out W h j (by omega), take_getD hj]
        have Td : Hid (∀ W : World, w5.grownBy W (some g) → ∀ j, j < n - (i + 1) → W.cell? ⟨q, i + 1 + j, none⟩ = some (.int .u8 ((xs.drop (i + 1)).getD j 0))) := Lib.hid fun W h j hj => by rw [DrX.out W h _ (by omega), drop_getD]
        have Ga : Hid (w5.grownBy (w5.alloc (.cells #[] 5)).drew (some g)) := Lib.hid (grown_drew1 (grown_alloc2 (grown_refl _ _) _))
        have q0 : (0 : Int) ≤ (i : Int) + 1 := by omega
        have q1 : (i : Int) + 1 ≤ n := by omega
        have q2 : (i : Int) + 1 ≤ c := by omega
        have q3 : i + 1 ≤ n := by omega
        have q4 : i + 1 ≤ c := by omega
        have hwr : IntKind.i64.wrap ((i : Int) + 1) = (i : Int) + 1 := by rw [IntKind.wrap_i64]; omega
        have hp2 : ((i : Int) + 1).toNat = i + 1 := by omega
        by_cases hci : c = i + 1
        · obtain rfl : n = i + 1 := by omega
          subst hci
          have r1 : (i : Int) ≤ (i : Int) + 1 := by omega
          have r2 : i ≤ i + 1 := by omega
          go_wp2_with fail
          go_region_law (first
            | (refine step_appU rfl (.tmp 47) (.tmp 50) rfl w5.heap.size w5.heap.size 0 0 [] ?_ L5.out.drew q 0 i (i + 1) (xs.take i) ?_ (Tk.out _ Ga.out) ltk.out ?_ ?_ i ?_ ?_; (simp [Act.eval, Act.put]); (simp [Act.eval, Act.put]); (omega); (simp); (omega); (intro q7 c7 w7 s7 g7; have h7 := grown_past Ga.out g7 (by intro k e; injection e with e; omega)))
            | (refine step_appU rfl (.tmp 51) (.tmp 55) rfl w5.heap.size q7 i c7 _ ?_ s7 q 0 0 0 [] ?_ (fun j hj => absurd hj (Nat.not_lt_zero j)) rfl ?_ ?_ i ?_ ?_; (simp [Act.eval, Act.put]); (simp [Act.eval, Act.put]); (omega); (have hz := h7.size; omega); (omega); (intro q8 c8 w8 s8 g8)))
          have b7 : Below w5.heap.size w5 w7 := (below_drew1 ((Below.refl w5.heap.size w5).alloc (Nat.le_refl _) _)).grown g7 (by simp) (by intro k e; injection e with e; omega)
          have b8 : Below w5.heap.size w5 w8 := b7.grown g8 b7.size (by intro k e; injection e with e; have := s7.lt_.1; omega)
          have S8 : Hid (Src w8 g) := Lib.hid (S5.out.below b8 (by omega))
          have G8 : Hid (w.grownBy w8 (some g)) := Lib.hid (grown_below2 G5.out b8)
          have T8 := Lib.hid ((BT.of_row s8).mono hz5)
          clear b7 b8 s8 g8 s7 g7 h7
          go_wp2_with fail
          go_roundg (k - 1)
          case rel => exact ⟨k - 1, q8, i, c8, _, by omega, by omega, by go_num, rfl, by omega, T8.out, S8.out, G8.out⟩
          case measure => omega
        · go_wp2_with fail
          go_region_law (first
            | (refine step_appU rfl (.tmp 47) (.tmp 50) rfl w5.heap.size w5.heap.size 0 0 [] ?_ L5.out.drew q 0 i c (xs.take i) ?_ (Tk.out _ Ga.out) ltk.out ?_ ?_ i ?_ ?_; (simp [Act.eval, Act.put]); (simp [Act.eval, Act.put]); (omega); (simp); (omega); (intro q7 c7 w7 s7 g7; have h7 := grown_past Ga.out g7 (by intro k e; injection e with e; omega)))
            | (refine step_appU rfl (.tmp 51) (.tmp 55) rfl w5.heap.size q7 i c7 _ ?_ s7 q (i + 1) (n - (i + 1)) (c - (i + 1)) (xs.drop (i + 1)) ?_ (Td.out _ h7) ldr.out ?_ ?_ (n - 1) ?_ ?_; (simp [Act.eval, Act.put]); (simp [Act.eval, Act.put]); (omega); (have hz := h7.size; omega); (omega); (intro q8 c8 w8 s8 g8)))
          have b7 : Below w5.heap.size w5 w7 := (below_drew1 ((Below.refl w5.heap.size w5).alloc (Nat.le_refl _) _)).grown g7 (by simp) (by intro k e; injection e with e; omega)
          have b8 : Below w5.heap.size w5 w8 := b7.grown g8 b7.size (by intro k e; injection e with e; have := s7.lt_.1; omega)
          have S8 : Hid (Src w8 g) := Lib.hid (S5.out.below b8 (by omega))
          have G8 : Hid (w.grownBy w8 (some g)) := Lib.hid (grown_below2 G5.out b8)
          have T8 := Lib.hid ((BT.of_row s8).mono hz5)
          clear b7 b8 s8 g8 s7 g7 h7
          go_wp2_with fail
          go_roundg (k - 1)
          case rel => exact ⟨k - 1, q8, n - 1, c8, _, by omega, by omega, by go_num, rfl, by omega, T8.out, S8.out, G8.out⟩
          case measure => omega
      · have DrX : Hid (∀ W : World, w5.grownBy W (some g) → ∀ j, j < n → W.cell? ⟨q, j, none⟩ = some (.int .u8 (xs.getD j 0))) := Lib.hid fun W h j hj => (T5.out.gro h hg).2.2.2.2.1 j hj
        have L5 : Hid (RowU (w5.alloc (.cells #[] 5)) w5.heap.size w5.heap.size 0 0 []) := Lib.hid (RowU.lit0 w5 _ (Nat.le_refl _))
        have ltk : Hid ((xs.take i).length = i) := Lib.hid (by rw [List.length_take, T5.out.1]; omega)
        have ldr : Hid ((xs.drop i).length = n - i) := Lib.hid (by rw [List.length_drop, T5.out.1])
        have Tk : Hid (∀ W : World, w5.grownBy W (some g) → ∀ j, j < i → W.cell? ⟨q, 0 + j, none⟩ = some (.int .u8 ((xs.take i).getD j 0))) := Lib.hid fun W h j hj => by rw [Nat.zero_add, DrX.out W h j (by omega), take_getD hj]
        have Td : Hid (∀ W : World, w5.grownBy W (some g) → ∀ j, j < n - i → W.cell? ⟨q, i + j, none⟩ = some (.int .u8 ((xs.drop i).getD j 0))) := Lib.hid fun W h j hj => by rw [DrX.out W h _ (by omega), drop_getD]
        have Ga : Hid (w5.grownBy (w5.alloc (.cells #[] 5)).drew (some g)) := Lib.hid (grown_drew1 (grown_alloc2 (grown_refl _ _) _))
        have Sa : Hid (Src (w5.alloc (.cells #[] 5)).drew g) := Lib.hid (S5.out.below (below_drew1 ((Below.refl w5.heap.size w5).alloc (Nat.le_refl _) _)) (by omega))
        have Sd : Hid (Src w5.drew g) := Lib.hid (S5.out.below (below_drew1 (Below.refl w5.heap.size w5)) (by omega))
        have hg5 : g < w5.heap.size := by omega
        have ne5 : some w5.heap.size ≠ some g := by intro e; injection e with e; omega
        have hci : ¬ c = i := by omega
        have q4 : i ≤ n := by omega
        go_wp2_with fail
        go_region_law (first
          | (refine step_appU rfl (.tmp 59) (.tmp 62) rfl w5.heap.size w5.heap.size 0 0 [] ?_ L5.out.drew q 0 i c (xs.take i) ?_ (Tk.out _ Ga.out) ltk.out ?_ ?_ i ?_ ?_; (simp [Act.eval, Act.put]); (simp [Act.eval, Act.put]); (omega); (focus (first | (simp; done) | (simp; omega) | omega)); (omega); (intro q7 c7 w7 s7 g7; have h7 := grown_past Ga.out g7 (by intro k e; injection e with e; (first | omega | (simp at e; omega))); have ne7 : some q7 ≠ some g := (by intro e; injection e with e; have := s7.lt_.1; omega); have hq7 := s7.lt_.1; have B7 : Below w5.heap.size w5 w7 := (below_drew1 ((Below.refl w5.heap.size w5).alloc (Nat.le_refl _) _)).grown g7 (by simp) (by intro k e; injection e with e; omega)))
          | (refine step_appU rfl (.tmp 59) (.tmp 62) rfl w5.heap.size w5.heap.size 0 0 [] ?_ (L5.out.kept g8a ne5) q 0 i c (xs.take i) ?_ (Tk.out _ h8) ltk.out ?_ ?_ i ?_ ?_; (simp [Act.eval, Act.put]); (simp [Act.eval, Act.put]); (omega); (focus (first | (simp; done) | (simp; omega) | omega)); (omega); (intro q7 c7 w7 s7 g7; have h7 := grown_past h8 g7 (by intro k e; injection e with e; (first | omega | (simp at e; omega))); have ne7 : some q7 ≠ some g := (by intro e; injection e with e; have := s7.lt_.1; omega); have hq7 := s7.lt_.1; have S7 := Src.gro s8 g7 (by omega)))
          | (refine step_appU rfl (.tmp 59) (.tmp 62) rfl w5.heap.size w5.heap.size 0 0 [] ?_ ((L5.out.kept g8a ne5).alloc _) q 0 i c (xs.take i) ?_ (Tk.out _ (grown_alloc2 h8 _)) ltk.out ?_ ?_ i ?_ ?_; (simp [Act.eval, Act.put]); (simp [Act.eval, Act.put]); (omega); (focus (first | (simp; done) | (simp; omega) | omega)); (omega); (intro q7 c7 w7 s7 g7; have h7 := grown_past (grown_alloc2 h8 _) g7 (by intro k e; injection e with e; (first | omega | (simp at e; omega))); have ne7 : some q7 ≠ some g := (by intro e; injection e with e; have := s7.lt_.1; omega); have hq7 := s7.lt_.1; have S7 := Src.gro (S8B) g7 (by omega)))
          | (refine step_appU rfl (.tmp 59) (.tmp 62) rfl w5.heap.size w8.heap.size 0 0 [] ?_ (RowU.lit0 w8 _ hz8) q 0 i c (xs.take i) ?_ (Tk.out _ (grown_alloc2 h8 _)) ltk.out ?_ ?_ i ?_ ?_; (simp [Act.eval, Act.put]); (simp [Act.eval, Act.put]); (omega); (focus (first | (simp; done) | (simp; omega) | omega)); (omega); (intro q7 c7 w7 s7 g7; have h7 := grown_past (grown_alloc2 h8 _) g7 (by intro k e; injection e with e; (first | omega | (simp at e; omega))); have ne7 : some q7 ≠ some g := (by intro e; injection e with e; have := s7.lt_.1; omega); have hq7 := s7.lt_.1; have S7 := Src.gro (S8E) g7 (by omega)))
          | (refine step_appU rfl (.tmp 59) (.tmp 62) rfl w5.heap.size w8.heap.size 0 0 [] ?_ ((RowU.lit0 w8 _ hz8).alloc _) q 0 i c (xs.take i) ?_ (Tk.out _ (grown_alloc2 (grown_alloc2 h8 _) _)) ltk.out ?_ ?_ i ?_ ?_; (simp [Act.eval, Act.put]); (simp [Act.eval, Act.put]); (omega); (focus (first | (simp; done) | (simp; omega) | omega)); (omega); (intro q7 c7 w7 s7 g7; have h7 := grown_past (grown_alloc2 (grown_alloc2 h8 _) _) g7 (by intro k e; injection e with e; (first | omega | (simp at e; omega))); have ne7 : some q7 ≠ some g := (by intro e; injection e with e; have := s7.lt_.1; omega); have hq7 := s7.lt_.1; have S7 := Src.gro (S8EB) g7 (by omega)))
          | (refine step_appU rfl (.tmp 59) (.tmp 62) rfl w5.heap.size (w8.alloc (.cells #[.int .u8 (z : Int)] 5)).heap.size 0 0 [] ?_ (RowU.lit0 (w8.alloc (.cells #[.int .u8 (z : Int)] 5)) _ hz8B) q 0 i c (xs.take i) ?_ (Tk.out _ (grown_alloc2 (grown_alloc2 h8 _) _)) ltk.out ?_ ?_ i ?_ ?_; (simp [Act.eval, Act.put]); (simp [Act.eval, Act.put]); (omega); (focus (first | (simp; done) | (simp; omega) | omega)); (omega); (intro q7 c7 w7 s7 g7; have h7 := grown_past (grown_alloc2 (grown_alloc2 h8 _) _) g7 (by intro k e; injection e with e; (first | omega | (simp at e; omega))); have ne7 : some q7 ≠ some g := (by intro e; injection e with e; have := s7.lt_.1; omega); have hq7 := s7.lt_.1; have S7 := Src.gro (S8BE) g7 (by simp; omega)))
          | (refine step_appU rfl (.tmp 63) (.tmp 70) rfl w5.heap.size q7 i c7 (xs.take i) ?_ ((s7.kept g8 ne7).alloc _) w8.heap.size 0 1 1 [(z : Int)] ?_ (LB.cells (LB.new w8 z)) rfl ?_ ?_ (i + 1) ?_ ?_; (simp [Act.eval, Act.put]); (simp [Act.eval, Act.put]); (omega); (exact ((grown_alloc2 h8 _)).size); (omega); (intro q9 c9 w9 s9 g9; have h9 := grown_past (grown_alloc2 h8 _) g9 (by intro k e; injection e with e; omega); have hq9 := s9.lt_.1; have S9 := Src.gro S8B g9 (by omega)))
          | (refine step_appU rfl (.tmp 63) (.tmp 70) rfl w5.heap.size q7 i c7 (xs.take i) ?_ (s7.alloc _) w7.heap.size 0 1 1 [(z : Int)] ?_ (LB.cells (LB.new w7 z)) rfl ?_ ?_ (i + 1) ?_ ?_; (simp [Act.eval, Act.put]); (simp [Act.eval, Act.put]); (omega); (exact ((grown_alloc2 h7 _)).size); (omega); (intro q9 c9 w9 s9 g9; have h9 := grown_past (grown_alloc2 h7 _) g9 (by intro k e; injection e with e; omega); have hq9 := s9.lt_.1; have S9 := Src.gro (S7.below ((Below.refl w7.heap.size w7).alloc (Nat.le_refl _) (.cells #[.int .u8 (z : Int)] 5)) S7.lt) g9 (by omega)))
          | (refine step_appU rfl (.tmp 63) (.tmp 70) rfl w5.heap.size q7 i c7 (xs.take i) ?_ s7 w8.heap.size 0 1 1 [(z : Int)] ?_ (LB.cells ((LB.new w8 z).kept g7 (by intro e; injection e with e; omega))) rfl ?_ ?_ (i + 1) ?_ ?_; (simp [Act.eval, Act.put]); (simp [Act.eval, Act.put]); (omega); (exact (h7).size); (omega); (intro q9 c9 w9 s9 g9; have h9 := grown_past h7 g9 (by intro k e; injection e with e; omega); have hq9 := s9.lt_.1; have S9 := Src.gro S7 g9 (by omega)))
          | (refine step_appU rfl (.tmp 63) (.tmp 70) rfl w5.heap.size q7 i c7 (xs.take i) ?_ s7 (w8.alloc (.cells #[] 5)).heap.size 0 1 1 [(z : Int)] ?_ (LB.cells ((LB.new (w8.alloc (.cells #[] 5)) z).kept g7 (by intro e; injection e with e; simp at e))) rfl ?_ ?_ (i + 1) ?_ ?_; (simp [Act.eval, Act.put]); (simp [Act.eval, Act.put]); (omega); (exact (h7).size); (omega); (intro q9 c9 w9 s9 g9; have h9 := grown_past h7 g9 (by intro k e; injection e with e; omega); have hq9 := s9.lt_.1; have S9 := Src.gro S7 g9 (by omega)))
          | (refine step_appU rfl (.tmp 63) (.tmp 70) rfl w5.heap.size q7 i c7 (xs.take i) ?_ s7 w8.heap.size 0 1 1 [(z : Int)] ?_ (LB.cells (((LB.new w8 z).alloc (.cells #[] 5)).kept g7 (by intro e; injection e with e; simp at e))) rfl ?_ ?_ (i + 1) ?_ ?_; (simp [Act.eval, Act.put]); (simp [Act.eval, Act.put]); (omega); (exact (h7).size); (omega); (intro q9 c9 w9 s9 g9; have h9 := grown_past h7 g9 (by intro k e; injection e with e; omega); have hq9 := s9.lt_.1; have S9 := Src.gro S7 g9 (by omega)))
          | (refine step_appU rfl (.tmp 71) (.tmp 74) rfl w5.heap.size q9 (i + 1) c9 _ ?_ s9 q i (n - i) (c - i) (xs.drop i) ?_ (Td.out _ h9) ldr.out ?_ ?_ (n + 1) ?_ ?_; (simp [Act.eval, Act.put]); (simp [Act.eval, Act.put]); (omega); (have hz := h9.size; omega); (omega); (intro q10 c10 w10 s10 g10; have h10 := grown_past h9 g10 (by intro k e; injection e with e; omega); have S10 := Src.gro S9 g10 (by omega)))
          | (go_simp; go_wp2_with (go_at_call 79; (first
              | (refine (srcBelow g _ u.size w5.drew Sd.out (by omega) (by omega) (by omega)).mono ?_; rintro e w8 ⟨r, hr, rfl, s8, g80⟩; have g8 := grown_undrew g80; have h8 := g8; obtain ⟨z, hz⟩ : ∃ z : Nat, (u[r]'(by omega)).toNat = z := ⟨_, rfl⟩; have hru : r < u.size := (by omega); have hru1 : (r : Int) < u.size := (by omega); have hru0 : (0 : Int) ≤ r := (by omega); have hru7 : (r : Int) < u.size := (by omega); have hz8 : w5.heap.size ≤ w8.heap.size := h8.size; have hz8B : w5.heap.size ≤ (w8.alloc (.cells #[.int .u8 (z : Int)] 5)).heap.size := (by simp; omega); have hl8 := s8.lt; have S8B : Src (w8.alloc (.cells #[.int .u8 (z : Int)] 5)) g := s8.below ((Below.refl w8.heap.size w8).alloc (Nat.le_refl _) _) hl8; have S8E : Src (w8.alloc (.cells #[] 5)) g := s8.below ((Below.refl w8.heap.size w8).alloc (Nat.le_refl _) _) hl8; have S8EB : Src ((w8.alloc (.cells #[] 5)).alloc (.cells #[.int .u8 (z : Int)] 5)) g := S8E.below ((Below.refl _ _).alloc (Nat.le_refl _) _) S8E.lt; have S8BE : Src ((w8.alloc (.cells #[.int .u8 (z : Int)] 5)).alloc (.cells #[] 5)) g := S8B.below ((Below.refl _ _).alloc (Nat.le_refl _) _) S8B.lt)
              | (refine (srcBelow g _ u.size (w5.alloc (.cells #[] 5)).drew Sa.out (by omega) (by omega) (by omega)).mono ?_; rintro e w8 ⟨r, hr, rfl, s8, g80⟩; have g8a := grown_undrew g80; have h8 := grown_trans' Ga.out g80; obtain ⟨z, hz⟩ : ∃ z : Nat, (u[r]'(by omega)).toNat = z := ⟨_, rfl⟩; have hru : r < u.size := (by omega); have hru1 : (r : Int) < u.size := (by omega); have hru0 : (0 : Int) ≤ r := (by omega); have hru7 : (r : Int) < u.size := (by omega); have hz8 : w5.heap.size ≤ w8.heap.size := h8.size; have hz8B : w5.heap.size ≤ (w8.alloc (.cells #[.int .u8 (z : Int)] 5)).heap.size := (by simp; omega); have hl8 := s8.lt; have S8B : Src (w8.alloc (.cells #[.int .u8 (z : Int)] 5)) g := s8.below ((Below.refl w8.heap.size w8).alloc (Nat.le_refl _) _) hl8; have S8E : Src (w8.alloc (.cells #[] 5)) g := s8.below ((Below.refl w8.heap.size w8).alloc (Nat.le_refl _) _) hl8; have S8EB : Src ((w8.alloc (.cells #[] 5)).alloc (.cells #[.int .u8 (z : Int)] 5)) g := S8E.below ((Below.refl _ _).alloc (Nat.le_refl _) _) S8E.lt; have S8BE : Src ((w8.alloc (.cells #[.int .u8 (z : Int)] 5)).alloc (.cells #[] 5)) g := S8B.below ((Below.refl _ _).alloc (Nat.le_refl _) _) S8B.lt)
              | (refine (srcBelow g _ u.size w7 (S5.out.below B7 (by omega)) (by omega) (by omega) (by omega)).mono ?_; rintro e w8 ⟨r, hr, rfl, s8, g8⟩; have h8 := grown_trans' h7 g8; obtain ⟨z, hz⟩ : ∃ z : Nat, (u[r]'(by omega)).toNat = z := ⟨_, rfl⟩; have hru : r < u.size := (by omega); have hru1 : (r : Int) < u.size := (by omega); have hru0 : (0 : Int) ≤ r := (by omega); have hru7 : (r : Int) < u.size := (by omega); have hz8 : w5.heap.size ≤ w8.heap.size := h8.size; have hz8B : w5.heap.size ≤ (w8.alloc (.cells #[.int .u8 (z : Int)] 5)).heap.size := (by simp; omega); have hl8 := s8.lt; have S8B : Src (w8.alloc (.cells #[.int .u8 (z : Int)] 5)) g := s8.below ((Below.refl w8.heap.size w8).alloc (Nat.le_refl _) _) hl8; have S8E : Src (w8.alloc (.cells #[] 5)) g := s8.below ((Below.refl w8.heap.size w8).alloc (Nat.le_refl _) _) hl8; have S8EB : Src ((w8.alloc (.cells #[] 5)).alloc (.cells #[.int .u8 (z : Int)] 5)) g := S8E.below ((Below.refl _ _).alloc (Nat.le_refl _) _) S8E.lt; have S8BE : Src ((w8.alloc (.cells #[.int .u8 (z : Int)] 5)).alloc (.cells #[] 5)) g := S8B.below ((Below.refl _ _).alloc (Nat.le_refl _) _) S8B.lt)))))
        all_goals
          have G10 : Hid (w.grownBy w10 (some g)) := Lib.hid (grown_trans' G5.out h10)
          have SX := Lib.hid S10
          have TX := Lib.hid ((BT.of_row s10).mono hz5)
          clear s10 g10 h10 S10
          go_wp2_with fail
          go_roundg (k - 1)
          case rel => exact ⟨k - 1, q10, n + 1, c10, _, by omega, by omega, by go_num, rfl, by omega, TX.out, SX.out, G10.out⟩
          case measure => omega
    · have hcv2 := convBT T.out
      have hsz : (strOfNums xs).size ≤ 200 := by
        have h1 := T.out.1
        have h2 : (strOfNums xs).size = xs.length := by unfold strOfNums; show (Array.size _) = _; simp
        omega
      have key : ¬ 0 < k ∨ (0 < k ∧ ¬ 0 < n) := by omega
      clear hgo
      rcases key with d1 | ⟨d1, d2⟩
      · go_wp2_with fail
        go_ret
        exact ⟨_, rfl, hsz, S.out, G.out⟩
      · go_wp2_with fail
        go_ret
        exact ⟨_, rfl, hsz, S.out, G.out⟩
theorem corrT (g : Nat) (s u : ByteArray) (w : World) (hs : Src w g) (hl : s.size ≤ 100) (hu : u.size = 7) :
    Calls Try.prog 99 #[.pointer (some ⟨g, 0, none⟩), .string s, .string u] w fun e w' => ∃ t, e = .returned (.string t) ∧ t.size ≤ 200 ∧ Src w' g ∧ w.grownBy w' (some g) := corrTU g s u w hs hl (by omega)
end Go.Proofs.Ytkjokchhffjidaa

/- The model's draws of puzzles. Condition: the code's length. -/
namespace Go.Proofs.Ytkjokchhffjidaa
open Go.RowKit

theorem put3 {W : World} {b : Nat} {t : TypeId} {x0 x1 x2 : Value} (h : Blk W b t #[x0, x1, x2]) (v0 v1 v2 : Value) :
    ∃ W', W' = ((W.setCell ⟨b, 0, none⟩ v0).setCell ⟨b, 1, none⟩ v1).setCell ⟨b, 2, none⟩ v2 ∧ Blk W' b t #[v0, v1, v2] ∧ W.grownBy W' (some b) :=
  ⟨_, rfl, ((h.set_ 0 v0).set_ 1 v1).set_ 2 v2, grown_set (grown_set (grown_set (grown_refl _ _) _ _) _ _) _ _⟩

set_option maxHeartbeats 4000000 in
set_option maxRecDepth 100000 in
/-- drawPuzzle. -/
theorem drawPz (g : Nat) (w : World) (hs : Src w g) :
    Calls Try.prog 97 #[.pointer (some ⟨g, 0, none⟩)] w fun e w' => ∃ (z : Int) (s : ByteArray) (A : Option Addr) (m c : Nat) (us : List SV) (gs : List (List Int)), e = .returned (.agg #[.int .i64 z, .string s, .slice A m c]) ∧ SS w' w.heap.size w.heap.size A m c us gs ∧ 1 ≤ z ∧ z ≤ 20 ∧ s.size ≤ 8 ∧ m ≤ 4 ∧ (∀ i, i < m → (us.getD i sd0).2.1 ≤ 20) ∧ Src w' g ∧ w.grownBy w' (some g) := by
  have hg := hs.lt
  have Sr0 : Hid (Src (w.alloc (.cells #[.int .i64 0, .string ⟨#[]⟩, .slice none 0 0] 26)) g) := Lib.hid (hs.below ((Below.refl w.heap.size w).alloc (Nat.le_refl _) _) hg)
  have P0 : Hid (Blk (w.alloc (.cells #[.int .i64 0, .string ⟨#[]⟩, .slice none 0 0] 26)) w.heap.size 26 #[.int .i64 0, .string ⟨#[]⟩, .slice none 0 0]) := Lib.hid (Blk.new w _ _)
  have G0 : Hid (w.grownBy (w.alloc (.cells #[.int .i64 0, .string ⟨#[]⟩, .slice none 0 0] 26)) (some g)) := Lib.hid (grown_alloc2 (grown_refl _ _) _)
  clear hs
  go_enter Try.func97, Try.ntmps97
  go_wp2_with fail
  refine (srcOne g _ 4 _ Sr0.out rfl (by omega) (by omega)).mono ?_
  rintro e w1 ⟨b, rfl, s1, g1⟩
  have Sr1 := Lib.hid s1
  have P1 := Lib.hid (P0.out.grown g1 (fun e => by injection e with e; omega))
  have G1 : Hid (w.grownBy w1 (some g)) := Lib.hid (grown_trans' G0.out g1)
  have z1 : w.heap.size + 1 ≤ w1.heap.size := by have := g1.size; simpa using this
  clear s1 g1
  cases b
  · go_wp2_with fail
    refine (srcBetween g 2 5 w1 Sr1.out (by omega) (by omega)).mono ?_
    rintro e w2 ⟨n, h1, h2, rfl, s2, g2⟩
    have Sr2 := Lib.hid s2
    have P2 := Lib.hid (P1.out.grown g2 (fun e => by injection e with e; omega))
    have G2 : Hid (w.grownBy w2 (some g)) := Lib.hid (grown_trans' G1.out g2)
    have z2 : w.heap.size + 1 ≤ w2.heap.size := by have := g2.size; omega
    clear s2 g2
    go_wp2_with fail
    refine (drawGens g n w2 Sr2.out (by omega) (by omega)).mono ?_
    rintro e w3 ⟨A, m, c, us, xss, rfl, ss3, ln3, hm3, s3, g3⟩
    have P3 := Lib.hid (P2.out.grown g3 (fun e => by injection e with e; omega))
    have G3 : Hid (w.grownBy w3 (some g)) := Lib.hid (grown_trans' G2.out g3)
    have Ss3 := Lib.hid ss3
    have Sr3 := Lib.hid s3
    have Ln3 := Lib.hid ln3
    have m8 : (m : Int) ≤ 8 := by omega
    have y0 := P3.out.cell 0
    have y1 := P3.out.cell 1
    have y2 := P3.out.cell 2
    have f0 := P3.out.frozen 0
    have f1 := P3.out.frozen 1
    have f2 := P3.out.frozen 2
    clear ss3 s3 ln3
    go_wp2_with fail
    obtain ⟨W, eW, D, GW⟩ := put3 P3.out (.int .i64 (n : Int)) (.string (ByteArray.extract ⟨#[65, 66, 67, 68, 69, 70, 71, 72]⟩ 0 m)) (.slice A m c)
    rw [← eW]
    clear eW
    have r0 := D.cell 0
    have r1 := D.cell 1
    have r2 := D.cell 2
    have hz := g3.size
    exact bodyPost_ret (v := .agg #[.int .i64 (n : Int), .string (ByteArray.extract ⟨#[65, 66, 67, 68, 69, 70, 71, 72]⟩ 0 m), .slice A m c]) (by simp [results, Try.results97, r0, r1, r2, go_sem]) rfl
      ⟨_, _, A, m, c, us, xss, rfl, (Ss3.out.farR GW Ss3.out.lt_ (fun t ht => (Ss3.out.row t ht).lt_) (.inl (by omega))).mono (by omega) (by omega), by omega, by omega, by simp [ByteArray.size_extract]; omega, by omega, fun i hi => by rw [Ln3.out i hi]; omega, Sr3.out.gro2 GW (fun r e => by injection e with e; omega), grown_new2 G3.out GW (fun r e => by injection e with e; omega)⟩
  · go_wp2_with fail
    refine (specKnownPuzzle 0 w1).mono ?_
    rintro e w2 ⟨A, m, c, us, rfl, ss2, hm2, ln2, b2⟩
    have Sr2 := Lib.hid (Sr1.out.below b2 Sr1.out.lt)
    have P2 := Lib.hid (P1.out.below b2 P1.out.lt)
    have G2 : Hid (w.grownBy w2 (some g)) := Lib.hid (grown_below2 G1.out b2)
    have Ss2 := Lib.hid ss2
    have Ln2 := Lib.hid ln2
    have hz := b2.size
    have P3 : Hid (Blk (w2.alloc (.cells #[.int .i64 (knN 0), .string (knS 0), .slice A m c] 26)) w.heap.size 26 #[.int .i64 0, .string ⟨#[]⟩, .slice none 0 0]) := Lib.hid (P2.out.alloc _)
    have X3 := Blk.new w2 26 #[.int .i64 (knN 0), .string (knS 0), .slice A m c]
    have x0 := X3.cell 0
    have x1 := X3.cell 1
    have x2 := X3.cell 2
    have y0 := P3.out.cell 0
    have y1 := P3.out.cell 1
    have y2 := P3.out.cell 2
    have f0 := P3.out.frozen 0
    have f1 := P3.out.frozen 1
    have f2 := P3.out.frozen 2
    have Ss3 := Lib.hid (Ss2.out.up ((Below.refl _ w2).alloc (Nat.le_refl _) (.cells #[.int .i64 (knN 0), .string (knS 0), .slice A m c] 26)))
    have Sr3 := Lib.hid (Sr2.out.below ((Below.refl w2.heap.size w2).alloc (Nat.le_refl _) (.cells #[.int .i64 (knN 0), .string (knS 0), .slice A m c] 26)) Sr2.out.lt)
    have G3 := Lib.hid (grown_alloc2 G2.out (.cells #[.int .i64 (knN 0), .string (knS 0), .slice A m c] 26))
    clear ss2 ln2 X3
    go_wp2_with fail
    obtain ⟨W, eW, D, GW⟩ := put3 P3.out (.int .i64 (knN 0)) (.string (knS 0)) (.slice A m c)
    rw [← eW]
    clear eW
    have r0 := D.cell 0
    have r1 := D.cell 1
    have r2 := D.cell 2
    exact bodyPost_ret (v := .agg #[.int .i64 (knN 0), .string (knS 0), .slice A m c]) (by simp [results, Try.results97, r0, r1, r2, go_sem]) rfl
      ⟨_, _, A, m, c, us, _, rfl, (Ss3.out.farR GW Ss3.out.lt_ (fun t ht => (Ss3.out.row t ht).lt_) (.inl (by omega))).mono (by omega) (by omega), by decide, by decide, by decide, by omega, Ln2.out, Sr3.out.gro2 GW (fun r e => by injection e with e; omega), grown_new2 G3.out GW (fun r e => by injection e with e; omega)⟩
end Go.Proofs.Ytkjokchhffjidaa

/- Slices of numbers that can be read and lie in blocks of a set: so a store elsewhere leaves them alone. -/
namespace Go.Proofs.Ytkjokchhffjidaa
open Go.RowKit

structure RP (w : World) (S : Nat → Prop) (A : Option Addr) (n : Nat) (vs : List SV) (xss : List (List Int)) : Prop where
  rr : RR w w.heap.size A n vs xss
  outer : 0 < n → ∀ b off, A = some ⟨b, off, none⟩ → S b
  inner : ∀ j, j < n → ∀ b off, (vs.getD j sd0).1 = some ⟨b, off, none⟩ → 0 < (xss.getD j []).length → S b
section
variable {w w' : World} {S : Nat → Prop} {g n : Nat} {A : Option Addr} {vs : List SV} {xss : List (List Int)}
theorem RP.nil_ {c : Option Addr} : RP w S c 0 [] [] := ⟨RR.nil_, fun h => absurd h (Nat.lt_irrefl _), fun j h => absurd h (Nat.not_lt_zero _)⟩
theorem RP.of_ss {bo bi c : Nat} (h : SS w bo bi A n c vs xss) (h1 : ∀ b, (Value.slice A n c).ownBlock = some b → S b) (h2 : ∀ j, j < n → ∀ b, (sval (vs.getD j sd0)).ownBlock = some b → S b) : RP w S A n vs xss :=
  ⟨h.rr, fun _ b off e => h1 b (by subst e; rfl), fun j hj b off e _ => h2 j hj b (by unfold sval; rw [e]; rfl)⟩
theorem RP.gro (h : RP w S A n vs xss) (hg : w.grownBy w' (some g)) (hl : ¬ S g) : RP w' S A n vs xss :=
  ⟨⟨h.rr.lv, h.rr.lx, fun hn => by
      obtain ⟨b, off, e, hb, hc⟩ := h.rr.cells hn
      have := h.outer hn b off e
      exact ⟨b, off, e, Nat.lt_of_lt_of_le hb hg.size, fun j hj => (World.cell?_of_block (a := ⟨b, off + j, none⟩) (hg.block b hb (by intro e2; injection e2 with e2; exact hl (e2 ▸ this)))).trans (hc j hj)⟩,
    fun j hj hp => by
      obtain ⟨b, off, e, hb, hc⟩ := h.rr.rows j hj hp
      have := h.inner j hj b off e hp
      exact ⟨b, off, e, Nat.lt_of_lt_of_le hb hg.size, fun t ht => (World.cell?_of_block (a := ⟨b, off + t, none⟩) (hg.block b hb (by intro e2; injection e2 with e2; exact hl (e2 ▸ this)))).trans (hc t ht)⟩, h.rr.lens, h.rr.caps⟩, h.outer, h.inner⟩
theorem RP.rx {lo : Nat} (h : RP w S A n vs xss) (hl : ∀ b, S b → lo ≤ b) : RX w lo A n vs xss := ⟨h.rr, fun hn b off e => hl b (h.outer hn b off e), fun j hj b off e hp => hl b (h.inner j hj b off e hp)⟩
end
section
variable {w w' : World} {base n c : Nat} {A : Option Addr} {vs : List SV} {xss : List (List Int)}
/-- A slice that can be read, appended onto a slice of slices of the call's own, in a region that draws its order. -/
theorem step_app2P {ops : Array Oper} {o : Oper} {a : Act} {K : Act → World → Prop} {Q : Exit → Act → World → Prop} {E : Prop} (hgd : o.guard = none) (s x : Operand)
    (ho : o.op = .call { callee := .builtin .append, args := #[s, x], argTypes := #[24, 24] })
    (S : Nat → Prop) (hs : a.eval s = .slice A n c) (hss : SS w base base A n c vs xss) (h1 : ∀ b, (Value.slice A n c).ownBlock = some b → S b) (h2 : ∀ j, j < n → ∀ b, (sval (vs.getD j sd0)).ownBlock = some b → S b)
    (g : Nat) (dA : Option Addr) (dn dc lo : Nat) (ys : List Int) (hx : a.eval x = .slice (some ⟨g, 0, none⟩) 1 1)
    (hcell : w.cell? ⟨g, 0, none⟩ = some (.slice dA dn dc)) (hys : Pm w lo dA dn dc ys) (hlo : ∀ k, (Value.slice A n c).ownBlock = some k → k < lo) (hS : ∀ k, lo ≤ k → S k) (hn : n ≤ 1000000000) (hbase : base ≤ w.heap.size) (hlw : lo ≤ w.heap.size)
    (h : ∀ A' c' w', RP w' S A' (n + 1) (vs ++ [(dA, dn, dc)]) (xss ++ [ys]) → w.grownBy w' (Value.slice A n c).ownBlock → K (a.put o.dst (.slice A' (n + 1) c')) w') : if Region.wanted o (yielded ops a.tmps) = true then Oper.wp Try.prog o a w K Q else E := by
  obtain ⟨i0, hi, hz0, hz1, hz2⟩ := info_parts infoS
  refine step_append_lies w hgd s x 24 ho base 27 i0 (.slice none 0 0) 1 24 Try.underlying24 hi hz0 hz1 hz2 rfl (by decide) _ n _ hs hss.own ⟨g, 0, none⟩ 1 1 [.slice dA dn dc] hx rfl ?_ ?_ (by decide) ?_ (by omega) hbase w.heap.size rfl ?_
  · intro j v hj
    match j, hj with
    | 0, hj => simp at hj; subst hj; simpa [Addr.add] using hcell
    | j + 1, hj => simp at hj
  · intro v hv; simp at hv; subst hv; rfl
  · unfold maxLen; omega
  · intro g' cap w' hown' hg hat hg'
    refine h (some ⟨g', 0, none⟩) cap w' ⟨⟨by simp [hss.lv], by simp [hss.lx], fun _ => ⟨g', 0, rfl, hg', fun j hj => ?_⟩, fun j hj => ?_, fun j hj => ?_, fun j hj => ?_⟩, fun _ b off e => ?_, fun j hj b off e hp => ?_⟩ hg
    · rw [Nat.zero_add, hown'.cellAt j (by omega)]
      by_cases e : j < n
      · rw [List.getElem?_append_left (by rw [List.length_map, hss.lv]; exact e), List.getElem?_map, getD_app _ _ _ _ (by rw [hss.lv]; exact e), List.getD_eq_getElem?_getD, List.getElem?_eq_getElem (by rw [hss.lv]; exact e)]; rfl
      · obtain rfl : j = n := by omega
        rw [List.getElem?_append_right (by rw [List.length_map, hss.lv]; exact Nat.le_refl _), List.length_map, hss.lv, Nat.sub_self, getD_snoc _ _ _ _ hss.lv.symm]; rfl
    · by_cases e : j < n
      · rw [getD_app _ _ _ _ (by rw [hss.lv]; exact e), getD_app _ _ _ _ (by rw [hss.lx]; exact e)]
        exact ((hss.row j e).kept hg (apart_types (hss.row j e) hss.own)).ri_
      · obtain rfl : j = n := by omega
        rw [getD_snoc _ _ _ _ hss.lv.symm, getD_snoc _ _ _ _ hss.lx.symm]
        intro hp
        obtain ⟨b, off, e1, h1, h2, hc⟩ := hys.2.2 (by rw [← hys.1]; exact hp)
        refine ⟨b, off, e1, Nat.lt_of_lt_of_le h2 hg.size, fun t ht => (World.cell?_of_block (a := ⟨b, off + t, none⟩) (hg.block b h2 fun e2 => ?_)).trans (hc t (by rw [← hys.1]; exact ht))⟩
        have := hlo b e2.symm
        omega
    · by_cases e : j < n
      · rw [getD_app _ _ _ _ (by rw [hss.lx]; exact e), getD_app _ _ _ _ (by rw [hss.lv]; exact e)]; exact (hss.row j e).1
      · obtain rfl : j = n := by omega
        rw [getD_snoc _ _ _ _ hss.lx.symm, getD_snoc _ _ _ _ hss.lv.symm]; exact hys.1
    · by_cases e : j < n
      · rw [getD_app _ _ _ _ (by rw [hss.lv]; exact e)]; exact (hss.row j e).le.1
      · obtain rfl : j = n := by omega
        rw [getD_snoc _ _ _ _ hss.lv.symm]; exact hys.2.1
    · injection e with e; injection e with e
      rcases hat with e2 | e2
      · exact e ▸ h1 g' e2
      · exact hS b (by omega)
    · by_cases e9 : j < n
      · rw [getD_app _ _ _ _ (by rw [hss.lv]; exact e9)] at e
        exact h2 j e9 b (by unfold sval; rw [e]; rfl)
      · obtain rfl : j = n := by omega
        rw [getD_snoc _ _ _ _ hss.lv.symm] at e
        rw [getD_snoc _ _ _ _ hss.lx.symm] at hp
        obtain ⟨b2, off2, e1, h3, _⟩ := hys.2.2 (by rw [← hys.1]; exact hp)
        have e3 : (some ⟨b, off, none⟩ : Option Addr) = some ⟨b2, off2, none⟩ := e.symm.trans e1
        injection e3 with e3; injection e3 with e3
        exact hS b (by omega)
end
end Go.Proofs.Ytkjokchhffjidaa

/- The draws of chapter 4's named laws. Condition: at most 4096 bytes. -/
namespace Go.Proofs.Ytkjokchhffjidaa
open Go.RowKit

theorem drawAnyK (g n : Nat) (N : Int) (w : World) (hs : Src w g) (hN : N = (n : Int)) (h1 : 1 ≤ n) (hn : n ≤ 20) :
    Calls Try.prog 101 #[.pointer (some ⟨g, 0, none⟩), .int .i64 N] w fun e w' => ∃ A m c xs, e = .returned (.slice A m c) ∧ Pm w' w.heap.size A m c xs ∧ m ≤ 21 ∧ Src w' g ∧ w.grownBy w' (some g) := by
  subst hN; exact drawAny g n w hs h1 hn

set_option maxHeartbeats 4000000 in
set_option maxRecDepth 100000 in
/-- drawMember. -/
theorem drawMemberT (g lo : Nat) (z : Int) (A : Option Addr) (m c : Nat) (vs : List SV) (xss : List (List Int)) (w : World) (hs : Src w g) (hB : B64 z) (rx : RX w lo A m vs xss) (hg : g < lo) (hm : m ≤ 9) (hln : ∀ i, i < m → (vs.getD i sd0).2.1 ≤ 21) :
    Calls Try.prog 102 #[.pointer (some ⟨g, 0, none⟩), .int .i64 z, .slice A m c] w fun e w' => ∃ (A' : Option Addr) (n' c' : Nat) (p : List Int), e = .returned (.slice A' n' c') ∧ Pm w' w.heap.size A' n' c' p ∧ n' ≤ 21 ∧ Src w' g ∧ w.grownBy w' (some g) := by
  have Sr0 := Lib.hid hs
  have Rx0 := Lib.hid rx
  have hgw := hs.lt
  have Ln : Hid (∀ i, i < m → (vs.getD i sd0).2.1 ≤ 1048576) := Lib.hid fun i hi => by have := hln i hi; omega
  have hlx : Hid (xss.length = m) := Lib.hid rx.rr.lx
  clear hs rx hln
  go_enter Try.func102, Try.ntmps102
  go_wp2_with fail
  refine (specGS z A m c vs xss w Rx0.out.rr (by omega) Ln hB).mono ?_
  rintro e w1 ⟨rfl, b1⟩
  have Sr1 := Lib.hid (Sr0.out.below b1 hgw)
  have Rx1 := Lib.hid (Rx0.out.up b1)
  have G1 : Hid (w.grownBy w1 (some g)) := Lib.hid (grown_below2 (grown_refl w _) b1)
  clear b1
  rcases hq : gB z xss with _ | _
  · clear hq
    obtain hz | hz | hz : z < 1 ∨ (1 ≤ z ∧ z ≤ 7) ∨ 7 < z := by omega
    · go_wp2_with fail
      refine (drawAnyK g 1 1 w1 Sr1.out rfl (by omega) (by omega)).mono ?_
      rintro e w2 ⟨A2, n2, c2, p2, rfl, pm2, hn2, s2, g2⟩
      have Pm2 : Hid (Pm w2 w.heap.size A2 n2 c2 p2) := Lib.hid (pm2.mono G1.out.size)
      have Sr2 := Lib.hid s2
      have G2 : Hid (w.grownBy w2 (some g)) := Lib.hid (grown_trans' G1.out g2)
      clear pm2 s2 g2
      go_wp2_with fail
      go_ret
      exact ⟨_, _, _, _, rfl, Pm2.out, hn2, Sr2.out, G2.out⟩
    · obtain ⟨n, rfl⟩ : ∃ n : Nat, z = (n : Int) := ⟨z.toNat, by omega⟩
      obtain ⟨hz1, hz2⟩ := hz
      go_wp2_with fail
      all_goals
        refine (drawAnyK g n _ w1 Sr1.out (by omega) (by omega) (by omega)).mono ?_
        rintro e w2 ⟨A2, n2, c2, p2, rfl, pm2, hn2, s2, g2⟩
        have Pm2 : Hid (Pm w2 w.heap.size A2 n2 c2 p2) := Lib.hid (pm2.mono G1.out.size)
        have Sr2 := Lib.hid s2
        have G2 : Hid (w.grownBy w2 (some g)) := Lib.hid (grown_trans' G1.out g2)
        clear pm2 s2 g2
        go_wp2_with fail
        go_ret
        exact ⟨_, _, _, _, rfl, Pm2.out, hn2, Sr2.out, G2.out⟩
    · go_wp2_with fail
      refine (drawAnyK g 7 7 w1 Sr1.out rfl (by omega) (by omega)).mono ?_
      rintro e w2 ⟨A2, n2, c2, p2, rfl, pm2, hn2, s2, g2⟩
      have Pm2 : Hid (Pm w2 w.heap.size A2 n2 c2 p2) := Lib.hid (pm2.mono G1.out.size)
      have Sr2 := Lib.hid s2
      have G2 : Hid (w.grownBy w2 (some g)) := Lib.hid (grown_trans' G1.out g2)
      clear pm2 s2 g2
      go_wp2_with fail
      go_ret
      exact ⟨_, _, _, _, rfl, Pm2.out, hn2, Sr2.out, G2.out⟩
  · obtain ⟨N, rfl, hN1, hN2, hg8, hpm, hok⟩ := gB_pm hq
    have Ok := Lib.hid hok
    clear hq hpm hok
    go_wp2_with fail
    refine (specIdent N w1 (by omega)).mono ?_
    rintro e w2 ⟨A2, c2, rfl, s2, b2⟩
    have Sl2 : Hid (Slc w2 w.heap.size A2 N c2 (idL N)) := Lib.hid (s2.mono G1.out.size)
    have Sr2 := Lib.hid (Sr1.out.below b2 Sr1.out.lt)
    have Rx2 := Lib.hid (Rx1.out.up b2)
    have G2 : Hid (w.grownBy w2 (some g)) := Lib.hid (grown_below2 G1.out b2)
    clear s2 b2
    go_wp2_with fail
    refine (srcBelow g _ 8 w2 Sr2.out rfl (by omega) (by omega)).mono ?_
    rintro e w3 ⟨r3, hr3, rfl, s3, g3⟩
    have Sr3 := Lib.hid s3
    have Sl3 : Hid (Slc w3 w.heap.size A2 N c2 (idL N)) := Lib.hid (Sl2.out.kept g3 (.inr fun e => by have := (Sl2.out.lt_ g e).1; omega))
    have Rx3 := Lib.hid (Rx2.out.gro g3 hg)
    have G3 : Hid (w.grownBy w3 (some g)) := Lib.hid (grown_trans' G2.out g3)
    have I0 : Hid (Pn N (idL N)) := Lib.hid (pn_id hN1 hN2)
    clear s3 g3
    go_wp2_with fail
    go_loopg [7, 8] 8 (fun gg v i wr => ∃ (k cc : Nat) (A' : Option Addr) (p : List Int), k ≤ 8 ∧ k ≤ gg ∧ i = .int .i64 (k : Nat) ∧ v = .slice A' N cc ∧ Slc wr w.heap.size A' N cc p ∧ Pn N p ∧ Src wr g ∧ RX wr lo A m vs xss ∧ w.grownBy wr (some g))
    case atStart => exact ⟨r3, _, _, _, by omega, by omega, rfl, rfl, Sl3.out, I0.out, Sr3.out, Rx3.out, G3.out⟩
    case round =>
      clear Sl3 I0 Sr3 Rx3 G3 Sl2 Sr2 Rx2 G2
      obtain ⟨k, cc, A3, p, hk, hkg, rfl, rfl, hsl, hpp, hsr, hrx, hgr⟩ := hrel
      have Sl := Lib.hid hsl
      have Pp := Lib.hid hpp
      have Sr := Lib.hid hsr
      have Rx := Lib.hid hrx
      have Gr := Lib.hid hgr
      have hwr := hgr.size
      clear hsl hpp hsr hrx hgr
      by_cases hk0 : 0 < k ∧ 0 < m
      · obtain ⟨hk1, hm1⟩ := hk0
        have d1 : decide (0 < k) = true := decide_eq_true hk1
        have d2 : decide (0 < m) = true := decide_eq_true hm1
        have d3 : decide ((0 : Int) < (k : Int)) = true := by simp; omega
        have d4 : decide ((0 : Int) < (m : Int)) = true := by simp; omega
        have wk : IntKind.i64.wrap ((k : Int) - 1) = ((k - 1 : Nat) : Int) := by rw [IntKind.wrap_i64]; omega
        have Hk1 := Lib.hid hk1
        clear hk1
        go_wp2_with fail
        refine (srcBelow g _ m wr Sr.out rfl (by omega) (by omega)).mono ?_
        rintro e w4 ⟨r4, hr4, rfl, s4, g4⟩
        have Sr4 := Lib.hid s4
        have Sl4 : Hid (Slc w4 w.heap.size A3 N cc p) := Lib.hid (Sl.out.kept g4 (.inr fun e => by have := (Sl.out.lt_ g e).1; omega))
        have Rx4 := Lib.hid (Rx.out.gro g4 hg)
        have G4 : Hid (w.grownBy w4 (some g)) := Lib.hid (grown_trans' Gr.out g4)
        clear s4 g4
        obtain ⟨b, off, A5, l, c5, y, rfl, hb, hv, ey, x1, ri, ly, hl5⟩ := Rx4.out.rr.at_ hr4
        have hyP := Ok.out y (by rw [← ey]; exact getD_memL (by rw [hlx.out]; exact hr4))
        obtain rfl : l = N := by omega
        have Yp : Hid (Pn l y) := Lib.hid hyP
        have Ri := Lib.hid ri
        have q0 : (0 : Int) ≤ r4 := by omega
        have q1 : (r4 : Int) < m := by omega
        clear hb hv ey ri ly hl5 hyP
        go_wp2_with fail
        refine (specComp A3 A5 cc c5 l p y w4 Sl4.out.ri_ Ri.out (Lib.hid Pp.out.2) (Lib.hid Yp.out.2) (Lib.hid Pp.out.1) hN2).mono ?_
        rintro e w5 ⟨A6, c6, rfl, s5, b5⟩
        have Sl5 : Hid (Slc w5 w.heap.size A6 l c6 (compL p y)) := Lib.hid (s5.mono G4.out.size)
        have Sr5 := Lib.hid (Sr4.out.below b5 Sr4.out.lt)
        have Rx5 := Lib.hid (Rx4.out.up b5)
        have G5 : Hid (w.grownBy w5 (some g)) := Lib.hid (grown_below2 G4.out b5)
        have P5 : Hid (Pn l (compL p y)) := Lib.hid (Pp.out.comp Yp.out)
        clear s5 b5
        go_wp2_with fail
        go_roundg (k - 1)
        case rel => exact ⟨k - 1, _, _, _, by omega, by omega, by go_num, rfl, Sl5.out, P5.out, Sr5.out, Rx5.out, G5.out⟩
        case measure => have := Hk1.out; omega
      · have Done : Hid (¬ (0 < k ∧ 0 < m)) := Lib.hid hk0
        have d1 : (decide (0 < k) && decide (0 < m)) = false := by
          rw [Bool.and_eq_false_iff, decide_eq_false_iff_not, decide_eq_false_iff_not]; omega
        by_cases hk1 : 0 < k
        · have d2 : decide (0 < k) = true := decide_eq_true hk1
          have d3 : decide ((0 : Int) < (k : Int)) = true := by simp; omega
          have d4 : decide (0 < m) = false := decide_eq_false (by omega)
          have d5 : decide ((0 : Int) < (m : Int)) = false := by simp; omega
          clear hk0 hk1 d1
          go_wp2_with fail
          refine (srcOne g _ 3 wr Sr.out rfl (by omega) (by omega)).mono ?_
          rintro e w4 ⟨bb, rfl, s4, g4⟩
          have Sr4 := Lib.hid s4
          have Sl4 : Hid (Slc w4 w.heap.size A3 N cc p) := Lib.hid (Sl.out.kept g4 (.inr fun e => by have := (Sl.out.lt_ g e).1; omega))
          have G4 : Hid (w.grownBy w4 (some g)) := Lib.hid (grown_trans' Gr.out g4)
          clear s4 g4
          cases bb
          · go_wp2_with fail
            go_ret
            exact ⟨_, _, _, _, rfl, Pm.of_slc Sl4.out, by omega, Sr4.out, G4.out⟩
          · go_wp2_with fail
            refine (drawAnyK g N _ w4 Sr4.out rfl hN1 hN2).mono ?_
            rintro e w5 ⟨A5, n5, c5, p5, rfl, pm5, hn5, s5, g5⟩
            have Pm5 : Hid (Pm w5 w.heap.size A5 n5 c5 p5) := Lib.hid (pm5.mono G4.out.size)
            have Sr5 := Lib.hid s5
            have G5 : Hid (w.grownBy w5 (some g)) := Lib.hid (grown_trans' G4.out g5)
            clear pm5 s5 g5
            go_wp2_with fail
            go_ret
            exact ⟨_, _, _, _, rfl, Pm5.out, hn5, Sr5.out, G5.out⟩
        · have d2 : decide (0 < k) = false := decide_eq_false hk1
          have d3 : decide ((0 : Int) < (k : Int)) = false := by simp; omega
          clear hk0 hk1 d1
          go_wp2_with fail
          refine (srcOne g _ 3 wr Sr.out rfl (by omega) (by omega)).mono ?_
          rintro e w4 ⟨bb, rfl, s4, g4⟩
          have Sr4 := Lib.hid s4
          have Sl4 : Hid (Slc w4 w.heap.size A3 N cc p) := Lib.hid (Sl.out.kept g4 (.inr fun e => by have := (Sl.out.lt_ g e).1; omega))
          have G4 : Hid (w.grownBy w4 (some g)) := Lib.hid (grown_trans' Gr.out g4)
          clear s4 g4
          cases bb
          · go_wp2_with fail
            go_ret
            exact ⟨_, _, _, _, rfl, Pm.of_slc Sl4.out, by omega, Sr4.out, G4.out⟩
          · go_wp2_with fail
            refine (drawAnyK g N _ w4 Sr4.out rfl hN1 hN2).mono ?_
            rintro e w5 ⟨A5, n5, c5, p5, rfl, pm5, hn5, s5, g5⟩
            have Pm5 : Hid (Pm w5 w.heap.size A5 n5 c5 p5) := Lib.hid (pm5.mono G4.out.size)
            have Sr5 := Lib.hid s5
            have G5 : Hid (w.grownBy w5 (some g)) := Lib.hid (grown_trans' G4.out g5)
            clear pm5 s5 g5
            go_wp2_with fail
            go_ret
            exact ⟨_, _, _, _, rfl, Pm5.out, hn5, Sr5.out, G5.out⟩
end Go.Proofs.Ytkjokchhffjidaa
