/- Part 2 of the texts: SrcA, SS, Supp, Cyc, All, Orb, TypM, TypC, FindM, Shelf, Row, FindI, CycS. No condition of its own: each text tells its own. -/
import Derived.Test.YtcjcmhoalomjfabMg1
import Derived.Deep.LoopGhost
import Derived.Shelf.SortM.Plain
import Derived.Shelf.SlicesE.Reverse
import Derived.Shelf.SlicesE.Equal
import Derived.Shelf.SlicesE.Delete
import Derived.Shelf.SlicesE.IndexFunc
import Derived.Test.YtcjcmhoalomjfabProg
import Derived.Sort.Grow
set_option linter.unusedVariables false
set_option linter.unusedSimpArgs false

/- The model's draws of any permutation. Condition: degrees from 1 to 20. -/
namespace Go.Proofs.Ytcjcmhoalomjfab
open Go.RowKit

/-- A literal row of numbers, read later. -/
theorem lit_at {w w1 : World} {g : Nat} {cs : Array Value} {r : Nat} (hg : g < w.heap.size) (hb : (w.alloc (.cells cs 2)).grownBy w1 (some g)) (hr : r < cs.size) (hall : ∀ (i : Nat) (h : i < cs.size), ∃ z : Int, cs[i] = .int .i64 z) : ∃ z : Int, w1.cell? ⟨w.heap.size, r, none⟩ = some (.int .i64 z) := by
  obtain ⟨z, hz⟩ := hall r hr
  refine ⟨z, ?_⟩
  rw [World.cell?_of_block (hb.block w.heap.size (by simp) (by intro e; injection e with e; omega)), World.cell?_alloc_at _ _ _ _ rfl]
  show cs[r]? = _
  rw [Array.getElem?_eq_getElem hr, hz]

set_option maxHeartbeats 1600000 in
theorem srcExtreme (g : Nat) (w : World) (hs : Src w g) :
    Calls Try.prog 106 #[.pointer (some ⟨g, 0, none⟩)] w fun e w' => ∃ z : Int, e = .returned (.int .i64 z) ∧ Src w' g ∧ w.grownBy w' (some g) := by
  have hg := hs.lt
  have Hs := Lib.hid hs
  clear hs
  go_enter Try.func106, Try.ntmps106
  go_wp2_with fail
  refine (srcBelow g _ 10 _ (Hs.out.below ((Below.refl w.heap.size w).alloc (Nat.le_refl _) _) hg) rfl (by omega) (by omega)).mono ?_
  rintro e w1 ⟨r, hr, rfl, s1, g1⟩
  have S1 := Lib.hid s1
  have G1 : Hid (w.grownBy w1 (some g)) := Lib.hid (grown_trans' (grown_alloc2 (grown_refl _ _) _) g1)
  obtain ⟨z, hz⟩ := lit_at (r := r) hg g1 hr (by
    intro i h
    have h : i < 10 := h
    rcases i with _ | _ | _ | _ | _ | _ | _ | _ | _ | _ | i
    all_goals first | exact ⟨_, rfl⟩ | omega)
  have p0 : (0 : Int) ≤ r := by omega
  have p1 : (r : Int) < 10 := by omega
  clear s1 g1
  go_wp2_with fail
  go_ret
  exact ⟨z, rfl, S1.out, G1.out⟩

set_option maxHeartbeats 1600000 in
theorem srcNumber (g n : Nat) (w : World) (hs : Src w g) (h1 : 1 ≤ n) (hn : n ≤ 100) :
    Calls Try.prog 83 #[.pointer (some ⟨g, 0, none⟩), .int .i64 (n : Int)] w fun e w' => ∃ z : Int, e = .returned (.int .i64 z) ∧ Src w' g ∧ w.grownBy w' (some g) := by
  go_enter Try.func83, Try.ntmps83
  go_wp2_with fail
  refine (srcOne g _ 10 w hs rfl (by omega) (by omega)).mono ?_
  rintro e w1 ⟨b, rfl, s1, g1⟩
  have S1 := Lib.hid s1
  have G1 := Lib.hid g1
  clear s1 g1
  cases b
  · go_wp2_with fail
    refine (srcOne g _ 2 w1 S1.out rfl (by omega) (by omega)).mono ?_
    rintro e w2 ⟨b, rfl, s2, g2⟩
    have S2 := Lib.hid s2
    have G2 : Hid (w.grownBy w2 (some g)) := Lib.hid (grown_trans' G1.out g2)
    clear s2 g2
    cases b
    · go_wp2_with fail
      refine (srcBelow g _ (n + 1) w2 S2.out (by omega) (by omega) (by omega)).mono ?_
      rintro e w3 ⟨r, hr, rfl, s3, g3⟩
      have S3 := Lib.hid s3
      have G3 : Hid (w.grownBy w3 (some g)) := Lib.hid (grown_trans' G2.out g3)
      clear s3 g3
      go_wp2_with fail
      go_ret
      exact ⟨r, rfl, S3.out, G3.out⟩
    · by_cases h4 : n ≤ 4
      · have hm : (min (n : Int) 4) = (n : Int) := by omega
        have d4 : decide ((n : Int) ≤ 4) = true := by simp; omega
        go_wp2_with fail
        refine (srcBelow g _ (n + 1) w2 S2.out (by omega) (by omega) (by omega)).mono ?_
        rintro e w3 ⟨r, hr, rfl, s3, g3⟩
        have S3 := Lib.hid s3
        have G3 : Hid (w.grownBy w3 (some g)) := Lib.hid (grown_trans' G2.out g3)
        clear s3 g3
        go_wp2_with fail
        go_ret
        exact ⟨r, rfl, S3.out, G3.out⟩
      · have hm : (min (n : Int) 4) = 4 := by omega
        have d4 : decide ((n : Int) ≤ 4) = false := by simp; omega
        go_wp2_with fail
        refine (srcBelow g _ (5) w2 S2.out (by omega) (by omega) (by omega)).mono ?_
        rintro e w3 ⟨r, hr, rfl, s3, g3⟩
        have S3 := Lib.hid s3
        have G3 : Hid (w.grownBy w3 (some g)) := Lib.hid (grown_trans' G2.out g3)
        clear s3 g3
        go_wp2_with fail
        go_ret
        exact ⟨r, rfl, S3.out, G3.out⟩
  · go_wp2_with fail
    refine (srcExtreme g w1 S1.out).mono ?_
    rintro e w2 ⟨z, rfl, s2, g2⟩
    have S2 := Lib.hid s2
    have hg2 := s2.lt
    have G2 : Hid (w.grownBy w2 (some g)) := Lib.hid (grown_trans' G1.out g2)
    clear s2 g2
    go_wp2_with fail
    refine (srcBelow g _ 4 _ (S2.out.below ((Below.refl w2.heap.size w2).alloc (Nat.le_refl _) _) hg2) rfl (by omega) (by omega)).mono ?_
    rintro e w3 ⟨r, hr, rfl, s3, g3⟩
    have S3 := Lib.hid s3
    have G3 : Hid (w.grownBy w3 (some g)) := Lib.hid (grown_trans' (grown_alloc2 G2.out _) g3)
    obtain ⟨y, hy⟩ := lit_at (r := r) hg2 g3 hr (by
      intro i h
      have h : i < 4 := h
      rcases i with _ | _ | _ | _ | i
      all_goals first | exact ⟨_, rfl⟩ | omega)
    have p0 : (0 : Int) ≤ r := by omega
    have p1 : (r : Int) < 4 := by omega
    clear s3 g3
    go_wp2_with fail
    go_ret
    exact ⟨y, rfl, S3.out, G3.out⟩

/-- What can be read: m numbers, in a block from base on. -/
def Pm (w : World) (base : Nat) (A : Option Addr) (m c : Nat) (xs : List Int) : Prop :=
  xs.length = m ∧ m ≤ c ∧ (0 < m → ∃ b off, A = some ⟨b, off, none⟩ ∧ base ≤ b ∧ b < w.heap.size ∧ ∀ j, j < m → w.cell? ⟨b, off + j, none⟩ = some (.int .i64 (xs.getD j 0)))
theorem Pm.of_slc {w : World} {base n c : Nat} {A : Option Addr} {xs : List Int} (h : Slc w base A n c xs) : Pm w base A n c xs := by
  refine ⟨h.1, h.le.1, fun hp => ?_⟩
  have hri := h.ri_
  obtain ⟨b, o, e, hb, hc⟩ := hri (by rw [h.1]; exact hp)
  refine ⟨b, o, e, (h.lt_ b (by subst e; rfl)).1, hb, fun j hj => hc j (by rw [h.1]; exact hj)⟩
theorem Pm.ri {w : World} {base n c : Nat} {A : Option Addr} {xs : List Int} (h : Pm w base A n c xs) : RI w w.heap.size A xs := fun hp => by
  obtain ⟨b, o, e, h1, h2, hc⟩ := h.2.2 (by rw [← h.1]; exact hp)
  exact ⟨b, o, e, h2, fun j hj => hc j (by rw [← h.1]; exact hj)⟩
theorem Pm.gro {w w' : World} {base n c g : Nat} {A : Option Addr} {xs : List Int} (h : Pm w base A n c xs) (hg : w.grownBy w' (some g)) (hb : g < base) : Pm w' base A n c xs := by
  refine ⟨h.1, h.2.1, fun hp => ?_⟩
  obtain ⟨b, o, e, h1, h2, hc⟩ := h.2.2 hp
  exact ⟨b, o, e, h1, Nat.lt_of_lt_of_le h2 hg.size, fun j hj => (World.cell?_of_block (a := ⟨b, o + j, none⟩) (hg.block b h2 (by intro e2; injection e2 with e2; omega))).trans (hc j hj)⟩
theorem Pm.up {w w' : World} {base n c : Nat} {A : Option Addr} {xs : List Int} (h : Pm w base A n c xs) (hb : Below w.heap.size w w') : Pm w' base A n c xs := by
  refine ⟨h.1, h.2.1, fun hp => ?_⟩
  obtain ⟨b, o, e, h1, h2, hc⟩ := h.2.2 hp
  exact ⟨b, o, e, h1, Nat.lt_of_lt_of_le h2 hb.size, fun j hj => (hb.cell (p := ⟨b, o + j, none⟩) h2).trans (hc j hj)⟩
theorem Pm.mono {w : World} {base base' n c : Nat} {A : Option Addr} {xs : List Int} (h : Pm w base A n c xs) (hb : base' ≤ base) : Pm w base' A n c xs := by
  refine ⟨h.1, h.2.1, fun hp => ?_⟩
  obtain ⟨b, o, e, h1, h2, hc⟩ := h.2.2 hp
  exact ⟨b, o, e, by omega, h2, hc⟩
theorem Pm.tail {w : World} {base n c q : Nat} {xs : List Int} (h : Slc w base (some ⟨q, 0, none⟩) n c xs) {A : Option Addr} (hA : 1 < n → A = some ⟨q, 1, none⟩) : Pm w base A (n - 1) (c - 1) (xs.drop 1) := by
  refine ⟨by rw [List.length_drop, h.1], by have := h.le.1; omega, fun hp => ?_⟩
  have hri : RI w w.heap.size (some ⟨q, 0, none⟩) xs := h.ri_
  have lx := h.1
  refine ⟨q, 1, hA (by omega), (h.lt_ q rfl).1, (h.lt_ q rfl).2, fun j hj => ?_⟩
  have := (hri.cellAt (j := 1 + j) (by omega)).2
  rw [Nat.zero_add] at this
  rw [this, List.getD_eq_getElem?_getD, List.getD_eq_getElem?_getD, List.getElem?_drop]

theorem grown_below3 {w w1 w' : World} {row : Option Nat} (h : w.grownBy w1 row) (b : Below w.heap.size w1 w') : w.grownBy w' row :=
  ⟨b.os.trans h.os, b.tape.trans h.tape, b.output.trans h.output, Nat.le_trans h.size b.size, fun k hk hn => (b.block k hk).trans (h.block k hk hn)⟩
theorem drawPermK (g n : Nat) (N : Int) (w : World) (hs : Src w g) (hN : N = (n : Int)) (hn : n ≤ 100) :
    Calls Try.prog 82 #[.pointer (some ⟨g, 0, none⟩), .int .i64 N] w fun e w' => ∃ q c xs, e = .returned (.slice (some ⟨q, 0, none⟩) n c) ∧ Slc w' w.heap.size (some ⟨q, 0, none⟩) n c xs ∧ Src w' g ∧ w.grownBy w' (some g) := by
  subst hN; exact drawPerm g n w hs hn
theorem grown_far {w w1 : World} {g q : Nat} (h : w.grownBy w1 (some g)) (hq : w.heap.size ≤ q) (j : Nat) (u : Value) : w.grownBy (w1.setCell ⟨q, j, none⟩ u) (some g) :=
  ⟨h.os, h.tape, h.output, by simpa [World.setCell] using h.size, fun k hk hn => (Below.heap_setCell w1 _ u k (by show k ≠ q; omega)).trans (h.block k hk hn)⟩

set_option maxHeartbeats 4000000 in
theorem drawAny (g n : Nat) (w : World) (hs : Src w g) (h1 : 1 ≤ n) (hn : n ≤ 20) :
    Calls Try.prog 50 #[.pointer (some ⟨g, 0, none⟩), .int .i64 (n : Int)] w fun e w' => ∃ A m c xs, e = .returned (.slice A m c) ∧ Pm w' w.heap.size A m c xs ∧ m ≤ 21 ∧ Src w' g ∧ w.grownBy w' (some g) := by
  have hg := hs.lt
  go_enter Try.func50, Try.ntmps50
  go_wp2_with fail
  refine (drawPerm g n w hs (by omega)).mono ?_
  rintro e w1 ⟨q, c, xs, rfl, sl1, s1, g1⟩
  have Sl1 := Lib.hid sl1
  have S1 := Lib.hid s1
  have G1 := Lib.hid g1
  have hq := (sl1.lt_ q rfl).1
  have hnc := sl1.le.1
  clear sl1 s1 g1
  go_wp2_with fail
  refine (srcOne g _ 12 w1 S1.out rfl (by omega) (by omega)).mono ?_
  rintro e w2 ⟨b2, rfl, s2, g2⟩
  have S2 := Lib.hid s2
  have G2 : Hid (w.grownBy w2 (some g)) := Lib.hid (grown_trans' G1.out g2)
  have Sl2 : Hid (Slc w2 w.heap.size (some ⟨q, 0, none⟩) n c xs) := Lib.hid (Sl1.out.kept g2 (.inr (by intro e; simp [Value.ownBlock] at e; omega)))
  clear s2 g2
  have hn0 : 0 < n := by omega
  cases b2
  · have S4 := S2
    have G4 := G2
    have P4 := Lib.hid (Pm.of_slc Sl2.out)
    have hm4 : n ≤ 21 := by omega
    go_wp2_with fail
    refine (srcOne g _ 60 _ S4.out rfl (by omega) (by omega)).mono ?_
    rintro e w5 ⟨b5, rfl, s5, g5⟩
    have S5 := Lib.hid s5
    have G5 : Hid (w.grownBy w5 (some g)) := Lib.hid (grown_trans' G4.out g5)
    have P5 := Lib.hid (P4.out.gro g5 hg)
    clear s5 g5
    cases b5
    · go_wp2_with fail
      go_ret
      exact ⟨_, _, _, _, rfl, P5.out, hm4, S5.out, G5.out⟩
    · go_wp2_with fail
      refine (srcBelow g _ 2 w5 S5.out rfl (by omega) (by omega)).mono ?_
      rintro e w6 ⟨r6, hr6, rfl, s6, g6⟩
      have S6 := Lib.hid s6
      have G6 : Hid (w.grownBy w6 (some g)) := Lib.hid (grown_trans' G5.out g6)
      clear s6 g6
      go_wp2_with fail
      refine (drawPermK g (20 + r6) _ w6 S6.out (by push_cast; rfl) (by omega)).mono ?_
      rintro e w7 ⟨q7, c7, xs7, rfl, sl7, s7, g7⟩
      have S7 := Lib.hid s7
      have G7 : Hid (w.grownBy w7 (some g)) := Lib.hid (grown_trans' G6.out g7)
      have P7 : Hid (Pm w7 w.heap.size (some ⟨q7, 0, none⟩) (20 + r6) c7 xs7) := Lib.hid ((Pm.of_slc sl7).mono G6.out.size)
      clear s7 g7 sl7
      go_wp2_with fail
      go_ret
      exact ⟨_, _, _, _, rfl, P7.out, by omega, S7.out, G7.out⟩
  · go_wp2_with fail
    refine (srcBelow g _ 3 w2 S2.out rfl (by omega) (by omega)).mono ?_
    rintro e w3 ⟨r3, hr3, rfl, s3, g3⟩
    have S3 := Lib.hid s3
    have G3 : Hid (w.grownBy w3 (some g)) := Lib.hid (grown_trans' G2.out g3)
    have Sl3 : Hid (Slc w3 w.heap.size (some ⟨q, 0, none⟩) n c xs) := Lib.hid (Sl2.out.kept g3 (.inr (by intro e; simp [Value.ownBlock] at e; omega)))
    clear s3 g3
    obtain rfl | rfl | rfl : r3 = 0 ∨ r3 = 1 ∨ r3 = 2 := by omega
    · go_wp2_with fail
      refine (srcBelow g _ n w3 S3.out rfl (by omega) (by omega)).mono ?_
      rintro e w8 ⟨i, hi, rfl, s8, g8⟩
      have S8 := Lib.hid s8
      have G8 : Hid (w.grownBy w8 (some g)) := Lib.hid (grown_trans' G3.out g8)
      have Sl8 : Hid (Slc w8 w.heap.size (some ⟨q, 0, none⟩) n c xs) := Lib.hid (Sl3.out.kept g8 (.inr (by intro e; simp [Value.ownBlock] at e; omega)))
      clear s8 g8
      go_wp2_with fail
      refine (srcNumber g n w8 S8.out h1 (by omega)).mono ?_
      rintro e w9 ⟨z, rfl, s9, g9⟩
      have row : Row w9 w.heap.size q n c xs := Row.of_own (by have := (Sl8.out.kept g9 (.inr (by intro e; simp [Value.ownBlock] at e; omega))); have h2 := this.2; rw [← this.1] at h2; rw [this.1] at h2; exact h2)
      have c9 := row.cell hi
      have f9 := row.free i
      have p0 : (0 : Int) ≤ i := by omega
      have p1 : (i : Int) < n := by omega
      have P4 := Lib.hid (Pm.of_slc (row.store i z).slc)
      have S4 : Hid (Src (w9.setCell ⟨q, i, none⟩ (.int .i64 z)) g) := Lib.hid (s9.below ((Below.refl (g + 1) w9).setCell (by show g + 1 ≤ q; omega) _) (by omega))
      have G4 : Hid (w.grownBy (w9.setCell ⟨q, i, none⟩ (.int .i64 z)) (some g)) := Lib.hid (grown_far (grown_trans' G8.out g9) hq _ _)
      have hm4 : n ≤ 21 := by omega
      clear s9 g9 row
      go_wp2_with fail
      refine (srcOne g _ 60 _ S4.out rfl (by omega) (by omega)).mono ?_
      rintro e w5 ⟨b5, rfl, s5, g5⟩
      have S5 := Lib.hid s5
      have G5 : Hid (w.grownBy w5 (some g)) := Lib.hid (grown_trans' G4.out g5)
      have P5 := Lib.hid (P4.out.gro g5 hg)
      clear s5 g5
      cases b5
      · go_wp2_with fail
        go_ret
        exact ⟨_, _, _, _, rfl, P5.out, hm4, S5.out, G5.out⟩
      · go_wp2_with fail
        refine (srcBelow g _ 2 w5 S5.out rfl (by omega) (by omega)).mono ?_
        rintro e w6 ⟨r6, hr6, rfl, s6, g6⟩
        have S6 := Lib.hid s6
        have G6 : Hid (w.grownBy w6 (some g)) := Lib.hid (grown_trans' G5.out g6)
        clear s6 g6
        go_wp2_with fail
        refine (drawPermK g (20 + r6) _ w6 S6.out (by push_cast; rfl) (by omega)).mono ?_
        rintro e w7 ⟨q7, c7, xs7, rfl, sl7, s7, g7⟩
        have S7 := Lib.hid s7
        have G7 : Hid (w.grownBy w7 (some g)) := Lib.hid (grown_trans' G6.out g7)
        have P7 : Hid (Pm w7 w.heap.size (some ⟨q7, 0, none⟩) (20 + r6) c7 xs7) := Lib.hid ((Pm.of_slc sl7).mono G6.out.size)
        clear s7 g7 sl7
        go_wp2_with fail
        go_ret
        exact ⟨_, _, _, _, rfl, P7.out, by omega, S7.out, G7.out⟩
    · have p1 : (1 : Int) ≤ n := by omega
      have p2 : (1 : Int) ≤ c := by omega
      have S4 := S3
      have G4 := G3
      have hm4 : n - 1 ≤ 21 := by omega
      by_cases hc1 : c = 1
      · have P4 : Hid (Pm w3 w.heap.size (some ⟨q, 0, none⟩) (n - 1) 0 (xs.drop 1)) := Lib.hid (by have := Pm.tail (A := some ⟨q, 0, none⟩) Sl3.out (fun h => by omega); rw [show c - 1 = 0 by omega] at this; exact this)
        go_wp2_with fail
        refine (srcOne g _ 60 _ S4.out rfl (by omega) (by omega)).mono ?_
        rintro e w5 ⟨b5, rfl, s5, g5⟩
        have S5 := Lib.hid s5
        have G5 : Hid (w.grownBy w5 (some g)) := Lib.hid (grown_trans' G4.out g5)
        have P5 := Lib.hid (P4.out.gro g5 hg)
        clear s5 g5
        cases b5
        · go_wp2_with fail
          go_ret
          exact ⟨_, _, _, _, rfl, P5.out, hm4, S5.out, G5.out⟩
        · go_wp2_with fail
          refine (srcBelow g _ 2 w5 S5.out rfl (by omega) (by omega)).mono ?_
          rintro e w6 ⟨r6, hr6, rfl, s6, g6⟩
          have S6 := Lib.hid s6
          have G6 : Hid (w.grownBy w6 (some g)) := Lib.hid (grown_trans' G5.out g6)
          clear s6 g6
          go_wp2_with fail
          refine (drawPermK g (20 + r6) _ w6 S6.out (by push_cast; rfl) (by omega)).mono ?_
          rintro e w7 ⟨q7, c7, xs7, rfl, sl7, s7, g7⟩
          have S7 := Lib.hid s7
          have G7 : Hid (w.grownBy w7 (some g)) := Lib.hid (grown_trans' G6.out g7)
          have P7 : Hid (Pm w7 w.heap.size (some ⟨q7, 0, none⟩) (20 + r6) c7 xs7) := Lib.hid ((Pm.of_slc sl7).mono G6.out.size)
          clear s7 g7 sl7
          go_wp2_with fail
          go_ret
          exact ⟨_, _, _, _, rfl, P7.out, by omega, S7.out, G7.out⟩
      · have P4 : Hid (Pm w3 w.heap.size (some ⟨q, 1, none⟩) (n - 1) (c - 1) (xs.drop 1)) := Lib.hid (Pm.tail Sl3.out (fun _ => rfl))
        go_wp2_with fail
        refine (srcOne g _ 60 _ S4.out rfl (by omega) (by omega)).mono ?_
        rintro e w5 ⟨b5, rfl, s5, g5⟩
        have S5 := Lib.hid s5
        have G5 : Hid (w.grownBy w5 (some g)) := Lib.hid (grown_trans' G4.out g5)
        have P5 := Lib.hid (P4.out.gro g5 hg)
        clear s5 g5
        cases b5
        · go_wp2_with fail
          go_ret
          exact ⟨_, _, _, _, rfl, P5.out, hm4, S5.out, G5.out⟩
        · go_wp2_with fail
          refine (srcBelow g _ 2 w5 S5.out rfl (by omega) (by omega)).mono ?_
          rintro e w6 ⟨r6, hr6, rfl, s6, g6⟩
          have S6 := Lib.hid s6
          have G6 : Hid (w.grownBy w6 (some g)) := Lib.hid (grown_trans' G5.out g6)
          clear s6 g6
          go_wp2_with fail
          refine (drawPermK g (20 + r6) _ w6 S6.out (by push_cast; rfl) (by omega)).mono ?_
          rintro e w7 ⟨q7, c7, xs7, rfl, sl7, s7, g7⟩
          have S7 := Lib.hid s7
          have G7 : Hid (w.grownBy w7 (some g)) := Lib.hid (grown_trans' G6.out g7)
          have P7 : Hid (Pm w7 w.heap.size (some ⟨q7, 0, none⟩) (20 + r6) c7 xs7) := Lib.hid ((Pm.of_slc sl7).mono G6.out.size)
          clear s7 g7 sl7
          go_wp2_with fail
          go_ret
          exact ⟨_, _, _, _, rfl, P7.out, by omega, S7.out, G7.out⟩
    · have hz := G3.out.size
      go_wp2_with (first | (at_builtin; refine wpList_app1 rfl _ _ rfl w.heap.size (some ⟨q, 0, none⟩) n c _ rfl (Sl3.out.alloc _) w3.heap.size (n : Int) rfl (by rw [World.cell?_alloc_at _ _ _ _ rfl]; rfl) (by omega) (by simp; omega) ?_; intro A4 c4 w4 s4 g4))
      have P4 := Lib.hid (Pm.of_slc s4)
      have B4 : Below w.heap.size w3 w4 := ((Below.refl _ w3).alloc hz _).grown g4 (by simp; omega) (fun j hj => (Sl3.out.lt_ j hj).1)
      have S4 : Hid (Src w4 g) := Lib.hid (S3.out.below B4 hg)
      have G4 : Hid (w.grownBy w4 (some g)) := Lib.hid (grown_below3 G3.out B4)
      have hm4 : n + 1 ≤ 21 := by omega
      clear s4 g4 B4
      go_wp2_with fail
      refine (srcOne g _ 60 _ S4.out rfl (by omega) (by omega)).mono ?_
      rintro e w5 ⟨b5, rfl, s5, g5⟩
      have S5 := Lib.hid s5
      have G5 : Hid (w.grownBy w5 (some g)) := Lib.hid (grown_trans' G4.out g5)
      have P5 := Lib.hid (P4.out.gro g5 hg)
      clear s5 g5
      cases b5
      · go_wp2_with fail
        go_ret
        exact ⟨_, _, _, _, rfl, P5.out, hm4, S5.out, G5.out⟩
      · go_wp2_with fail
        refine (srcBelow g _ 2 w5 S5.out rfl (by omega) (by omega)).mono ?_
        rintro e w6 ⟨r6, hr6, rfl, s6, g6⟩
        have S6 := Lib.hid s6
        have G6 : Hid (w.grownBy w6 (some g)) := Lib.hid (grown_trans' G5.out g6)
        clear s6 g6
        go_wp2_with fail
        refine (drawPermK g (20 + r6) _ w6 S6.out (by push_cast; rfl) (by omega)).mono ?_
        rintro e w7 ⟨q7, c7, xs7, rfl, sl7, s7, g7⟩
        have S7 := Lib.hid s7
        have G7 : Hid (w.grownBy w7 (some g)) := Lib.hid (grown_trans' G6.out g7)
        have P7 : Hid (Pm w7 w.heap.size (some ⟨q7, 0, none⟩) (20 + r6) c7 xs7) := Lib.hid ((Pm.of_slc sl7).mono G6.out.size)
        clear s7 g7 sl7
        go_wp2_with fail
        go_ret
        exact ⟨_, _, _, _, rfl, P7.out, by omega, S7.out, G7.out⟩
end Go.Proofs.Ytcjcmhoalomjfab

/- Words for slices of slices of int64 that the call itself made. No condition. -/
namespace Go.Proofs.Ytcjcmhoalomjfab
open Go.RowKit

abbrev SV := Option Addr × Nat × Nat
def sval (d : SV) : Value := .slice d.1 d.2.1 d.2.2
def sd0 : SV := (none, 0, 0)

/-- '.slice A n c' is a row of the call's own of n slices vs, which are rows of the call's own that hold the lists xss; no two of them share a block. -/
structure SS (w : World) (base bi : Nat) (A : Option Addr) (n c : Nat) (vs : List SV) (xss : List (List Int)) : Prop where
  own : w.ownsRow base 22 1 (.slice A n c) n (vs.map sval)
  lv : vs.length = n
  lx : xss.length = n
  row : ∀ i, i < n → Slc w bi (vs.getD i sd0).1 (vs.getD i sd0).2.1 (vs.getD i sd0).2.2 (xss.getD i [])
  dis : ∀ i j, i < j → j < n → (sval (vs.getD i sd0)).ownBlock = none ∨ (sval (vs.getD i sd0)).ownBlock ≠ (sval (vs.getD j sd0)).ownBlock

theorem infoS : (Try.prog.info? 22).map (fun i => (i.zero, i.size, i.bytes)) = some (some (.slice none 0 0), 1, 24) := by kernel_rfl

theorem getD_app {α : Type} (l l' : List α) (d : α) (i : Nat) (h : i < l.length) : (l ++ l').getD i d = l.getD i d := by
  rw [List.getD_eq_getElem?_getD, List.getElem?_append_left h, ← List.getD_eq_getElem?_getD]
theorem getD_snoc {α : Type} (l : List α) (x d : α) (i : Nat) (h : i = l.length) : (l ++ [x]).getD i d = x := by
  subst h
  rw [List.getD_eq_getElem?_getD, List.getElem?_append_right (Nat.le_refl _), Nat.sub_self]; rfl

section
variable {w w' : World} {base bi n c B : Nat} {A : Option Addr} {vs : List SV} {xss : List (List Int)}
theorem SS.nil_ : SS w base bi none 0 0 [] [] := ⟨World.ownsRow_nil _ _ _ _, rfl, rfl, fun i h => absurd h (by omega), fun i j _ h => absurd h (by omega)⟩
theorem SS.lit0 (w : World) (base bi : Nat) (hb : base ≤ w.heap.size) : SS (w.alloc (.cells #[] 22)) base bi (some ⟨w.heap.size, 0, none⟩) 0 0 [] [] :=
  ⟨World.ownsRow_lit (size := 1) w #[] 0 hb (Nat.zero_le _) rfl, rfl, rfl, fun i h => absurd h (by omega), fun i j _ h => absurd h (by omega)⟩
/-- An inner row never lies in the outer row's block: their elements' types differ. -/
theorem apart_types {a n' c' : Nat} {A' : Option Addr} {xs : List Int} {base' : Nat} {v : Value} {ys : List Value} (h : Slc w base' A' n' c' xs) (ho : w.ownsRow base 22 1 v a ys) :
    (Value.slice A' n' c').ownBlock = none ∨ (Value.slice A' n' c').ownBlock ≠ v.ownBlock := by
  rcases h.2.2 with ⟨e, _⟩ | ⟨g, cap, cur, e, hb, hg, _⟩
  · left; rw [e]; rfl
  · right
    rw [e]
    rcases ho.2 with ⟨rfl, _⟩ | ⟨g', cap', cur', rfl, hb', hg', _⟩
    · simp [Value.ownBlock]
    · simp only [Value.ownBlock]
      intro e2
      injection e2 with e2
      subst e2
      rw [hg] at hg'
      injection hg' with hg'
      injection hg' with _ ht
      exact absurd ht (by decide)
theorem SS.below_lt (h : SS w base bi A n c vs xss) (hb : Below B w w') (hB : w.heap.size ≤ B) : SS w' base bi A n c vs xss := by
  refine ⟨⟨h.own.1, ?_⟩, h.lv, h.lx, fun i hi => (h.row i hi).below hb hB, h.dis⟩
  rcases h.own.2 with hn | ⟨g, cap, cur, e, hb', hg, rest⟩
  · exact .inl hn
  · exact .inr ⟨g, cap, cur, e, hb', by rw [hb.block g (by have := (Array.getElem?_eq_some_iff.1 hg).1; omega)]; exact hg, rest⟩
theorem SS.up (h : SS w base bi A n c vs xss) (hb : Below w.heap.size w w') : SS w' base bi A n c vs xss := h.below_lt hb (Nat.le_refl _)
theorem SS.drewN (h : SS w base bi A n c vs xss) (k : Nat) : SS (w.drewN k) base bi A n c vs xss := ⟨h.own, h.lv, h.lx, fun i hi => (h.row i hi).drewN k, h.dis⟩
theorem SS.mono (h : SS w base bi A n c vs xss) {base' bi' : Nat} (hb : base' ≤ base) (hi' : bi' ≤ bi) : SS w base' bi' A n c vs xss := by
  refine ⟨⟨h.own.1, ?_⟩, h.lv, h.lx, fun i hi => (h.row i hi).mono hi', h.dis⟩
  rcases h.own.2 with hn | ⟨g, cap, cur, e, hb', rest⟩
  · exact .inl hn
  · exact .inr ⟨g, cap, cur, e, by omega, rest⟩
theorem SS.alloc (h : SS w base bi A n c vs xss) (o : Obj) : SS (w.alloc o) base bi A n c vs xss := ⟨World.ownsRow.alloc h.own o, h.lv, h.lx, fun i hi => (h.row i hi).alloc o, h.dis⟩
/-- The outer row's cells. -/
theorem SS.at_ (h : SS w base bi A n c vs xss) (hn : 0 < n) : ∃ g, A = some ⟨g, 0, none⟩ ∧ base ≤ g ∧ g < w.heap.size ∧ ∀ i, i < n → w.cell? ⟨g, i, none⟩ = some (.slice (vs.getD i sd0).1 (vs.getD i sd0).2.1 (vs.getD i sd0).2.2) := by
  rcases h.own.2 with ⟨e, h0⟩ | ⟨g, cap, cur, e, hb, hg, rest⟩
  · omega
  · injection e with e1 e2 e3
    subst e1
    refine ⟨g, rfl, hb, (Array.getElem?_eq_some_iff.1 hg).1, fun i hi => ?_⟩
    rw [h.own.cellAt i (by omega), List.getElem?_map, List.getD_eq_getElem?_getD, List.getElem?_eq_getElem (by rw [h.lv]; exact hi)]
    rfl
theorem SS.lt_ (h : SS w base bi A n c vs xss) : ∀ k, (Value.slice A n c).ownBlock = some k → base ≤ k ∧ k < w.heap.size := World.ownsRow.lt h.own

/-- append of one slice onto a slice of slices of the call's own. -/
theorem wpList_app2_at {ops : Array Oper} {rest : List Oper} {o : Oper} {a : Act} {Q : Exit → Act → World → Prop} (hgd : o.guard = none) (s x : Operand)
    (ho : o.op = .call { callee := .builtin .append, args := #[s, x], argTypes := #[28, 28] })
    (hs : a.eval s = .slice A n c) (hss : SS w base bi A n c vs xss) (g : Nat) (dA : Option Addr) (dn dc : Nat) (ys : List Int) (hx : a.eval x = .slice (some ⟨g, 0, none⟩) 1 1)
    (hcell : w.cell? ⟨g, 0, none⟩ = some (.slice dA dn dc)) (hys : Slc w bi dA dn dc ys)
    (hdis : ∀ i, i < n → (sval (vs.getD i sd0)).ownBlock = none ∨ (sval (vs.getD i sd0)).ownBlock ≠ (Value.slice dA dn dc).ownBlock) (hn : n ≤ 1000000000) (hbase : base ≤ w.heap.size)
    (h : ∀ A' c' w', SS w' base bi A' (n + 1) c' (vs ++ [(dA, dn, dc)]) (xss ++ [ys]) → w.grownBy w' (Value.slice A n c).ownBlock → ((Value.slice A' (n + 1) c').ownBlock = (Value.slice A n c).ownBlock ∨ (Value.slice A' (n + 1) c').ownBlock = some w.heap.size) → wpList Try.prog ops Q rest (a.put o.dst (.slice A' (n + 1) c')) w') : wpList Try.prog ops Q (o :: rest) a w := by
  obtain ⟨i0, hi, hz0, hz1, hz2⟩ := info_parts infoS
  refine wpList_append_own_at w hgd s x 28 ho base 22 i0 (.slice none 0 0) 1 24 Try.underlying28 hi hz0 hz1 hz2 rfl (by decide) _ n _ hs hss.own ⟨g, 0, none⟩ 1 1 [.slice dA dn dc] hx rfl ?_ ?_ ?_ (by omega) hbase ?_
  · intro j v hj
    match j, hj with
    | 0, hj => simp at hj; subst hj; simpa [Addr.add] using hcell
    | j + 1, hj => simp at hj
  · intro v hv; simp at hv; subst hv; rfl
  · unfold maxLen; omega
  · intro v' w' hown' hg _ hat
    have hform : ∃ A' c', v' = .slice A' (n + 1) c' := by
      rcases hown'.2 with ⟨rfl, h0⟩ | ⟨g', cap, cur, rfl, _⟩
      · omega
      · exact ⟨_, _, rfl⟩
    obtain ⟨A', c', rfl⟩ := hform
    refine h A' c' w' ⟨?_, by simp [hss.lv], by simp [hss.lx], fun i hi' => ?_, fun i j hij hj => ?_⟩ hg hat
    · rw [List.map_append]; exact hown'
    · by_cases e : i < n
      · rw [getD_app _ _ _ _ (by rw [hss.lv]; exact e), getD_app _ _ _ _ (by rw [hss.lx]; exact e)]
        exact (hss.row i e).kept hg (apart_types (hss.row i e) hss.own)
      · obtain rfl : i = n := by omega
        rw [getD_snoc _ _ _ _ hss.lv.symm, getD_snoc _ _ _ _ hss.lx.symm]
        exact hys.kept hg (apart_types hys hss.own)
    · rw [getD_app _ _ _ i (by rw [hss.lv]; omega)]
      by_cases e : j < n
      · rw [getD_app _ _ _ j (by rw [hss.lv]; exact e)]; exact hss.dis i j hij e
      · obtain rfl : j = n := by omega
        rw [getD_snoc _ _ _ _ hss.lv.symm]
        exact hdis i hij
/-- append of one slice onto a slice of slices of the call's own. -/
theorem wpList_app2 {ops : Array Oper} {rest : List Oper} {o : Oper} {a : Act} {Q : Exit → Act → World → Prop} (hgd : o.guard = none) (s x : Operand)
    (ho : o.op = .call { callee := .builtin .append, args := #[s, x], argTypes := #[28, 28] })
    (hs : a.eval s = .slice A n c) (hss : SS w base bi A n c vs xss) (g : Nat) (dA : Option Addr) (dn dc : Nat) (ys : List Int) (hx : a.eval x = .slice (some ⟨g, 0, none⟩) 1 1)
    (hcell : w.cell? ⟨g, 0, none⟩ = some (.slice dA dn dc)) (hys : Slc w bi dA dn dc ys)
    (hdis : ∀ i, i < n → (sval (vs.getD i sd0)).ownBlock = none ∨ (sval (vs.getD i sd0)).ownBlock ≠ (Value.slice dA dn dc).ownBlock) (hn : n ≤ 1000000000) (hbase : base ≤ w.heap.size)
    (h : ∀ A' c' w', SS w' base bi A' (n + 1) c' (vs ++ [(dA, dn, dc)]) (xss ++ [ys]) → w.grownBy w' (Value.slice A n c).ownBlock → wpList Try.prog ops Q rest (a.put o.dst (.slice A' (n + 1) c')) w') : wpList Try.prog ops Q (o :: rest) a w :=
  wpList_app2_at hgd s x ho hs hss g dA dn dc ys hx hcell hys hdis hn hbase fun A' c' w' h1 h2 _ => h A' c' w' h1 h2
/-- What lies from block lo on is kept where those blocks are. -/
theorem Slc.mid {base n c lo : Nat} {A : Option Addr} {xs : List Int} (h : Slc w base A n c xs) (hm : ∀ k, lo ≤ k → k < w.heap.size → w'.heap[k]? = w.heap[k]?) (hl : lo ≤ base) : Slc w' base A n c xs := by
  refine ⟨h.1, h.2.1, ?_⟩
  rcases h.2.2 with hn | ⟨g, cap, cur, e, hb, hg, rest⟩
  · exact .inl hn
  · exact .inr ⟨g, cap, cur, e, hb, by rw [hm g (by omega) (Array.getElem?_eq_some_iff.1 hg).1]; exact hg, rest⟩
theorem SS.mid {lo : Nat} (h : SS w base bi A n c vs xss) (hm : ∀ k, lo ≤ k → k < w.heap.size → w'.heap[k]? = w.heap[k]?) (hl : lo ≤ base) (hi : lo ≤ bi) : SS w' base bi A n c vs xss := by
  refine ⟨⟨h.own.1, ?_⟩, h.lv, h.lx, fun i hi' => (h.row i hi').mid hm hi, h.dis⟩
  rcases h.own.2 with hn | ⟨g, cap, cur, e, hb, hg, rest⟩
  · exact .inl hn
  · exact .inr ⟨g, cap, cur, e, hb, by rw [hm g (by omega) (Array.getElem?_eq_some_iff.1 hg).1]; exact hg, rest⟩
end
theorem lies_dis {w : World} {base bi n c : Nat} {A : Option Addr} {vs : List SV} {xss : List (List Int)} (h : SS w base bi A n c vs xss) {dA : Option Addr} {dn dc lo hi : Nat} (l : Lies dA dn dc lo hi) (hlo : w.heap.size ≤ lo) :
    ∀ i, i < n → (sval (vs.getD i sd0)).ownBlock = none ∨ (sval (vs.getD i sd0)).ownBlock ≠ (Value.slice dA dn dc).ownBlock :=
  fun i hi => (h.row i hi).lies.apart l (.inl hlo)
end Go.Proofs.Ytcjcmhoalomjfab

/- Support, of the program and of the model, and the program's search for points. Condition: at most 2097152 entries. -/
namespace Go.Proofs.Ytcjcmhoalomjfab
open Go.RowKit

def ptsL (f : Nat → Bool) (k : Nat) : List Int := ((List.range k).filter f).map Int.ofNat
theorem ptsL_yes {f : Nat → Bool} {k : Nat} (h : f k = true) : ptsL f (k + 1) = ptsL f k ++ [(k : Int)] := by simp [ptsL, List.range_succ, List.filter_append, h]
theorem ptsL_no {f : Nat → Bool} {k : Nat} (h : f k = false) : ptsL f (k + 1) = ptsL f k := by simp [ptsL, List.range_succ, List.filter_append, h]
theorem ptsL_le (f : Nat → Bool) (k : Nat) : (ptsL f k).length ≤ k := by
  unfold ptsL; rw [List.length_map]; exact Nat.le_trans (List.length_filter_le _ _) (by simp)
def movesB (p : List Int) (x : Nat) : Bool := p.getD x 0 != (x : Int)
theorem supp_eq (p : List Int) : supp p = ptsL (movesB p) p.length := rfl
def suppL (p : List Int) : List Int := if isP p = true then supp p else []

end Go.Proofs.Ytcjcmhoalomjfab

/- Cycles, point by point: cycleFrom and startsCycle of the program, cycleOf and isSmallest of the model. Condition: the list is a permutation. -/
namespace Go.Proofs.Ytcjcmhoalomjfab
open Go.RowKit

def lenV : Value → Nat | .slice _ n _ => n | _ => 0
/-- The first k points from x on. -/
def cycTo (p : List Int) (x k : Nat) : List Int := (List.range k).map fun j => (it p j x : Int)
theorem cycTo_succ (p : List Int) (x k : Nat) : cycTo p x (k + 1) = cycTo p x k ++ [(it p k x : Int)] := by simp [cycTo, List.range_succ]
theorem cycTo_one (p : List Int) (x : Nat) : cycTo p x 1 = [(x : Int)] := rfl
theorem cyc_eq (p : List Int) (x : Nat) : cyc p x = cycTo p x (per p x) := rfl
theorem cyc_getD {p : List Int} {x j : Nat} (h : j < per p x) : (cyc p x).getD j 0 = (it p j x : Int) := by
  rw [List.getD_eq_getElem?_getD, List.getElem?_eq_getElem (by rw [cyc_length]; exact h)]; simp [cyc]

set_option maxHeartbeats 400000 in
/-- cycleFrom. -/
theorem implCycleFrom (A : Option Addr) (c n x : Nat) (p : List Int) (w : World) (hp : RI w w.heap.size A p) (lp : Hid (p.length = n)) (ip : Hid (IsP p)) (hx : x < n) (hn : n ≤ 20) :
    Calls Try.prog 90 #[.slice A n c, .int .i64 x] w fun e w' => ∃ A' m c', e = .returned (.slice A' m c') ∧ Slc w' w.heap.size A' m c' (cyc p x) ∧ m ≤ 20 ∧ Below w.heap.size w w' := by
  obtain ⟨b, off, rfl, hb, hc⟩ := hp (by rw [lp.out]; omega)
  have C : Hid (∀ j, j < n → w.cell? ⟨b, off + j, none⟩ = some (.int .i64 (nx p j : Int))) := Lib.hid fun j hj => by rw [← nx_val ip.out (by rw [lp.out]; exact hj)]; exact hc j (by rw [lp.out]; exact hj)
  have PS := Lib.hid (per_spec ip.out (x := x) (by rw [lp.out]; exact hx))
  have hper : per p x ≤ n := by rw [← lp.out]; exact PS.out.2.1
  clear hc
  have c0 := C.out x hx
  rw [World.cell?_alloc_lt w (.cells #[.int .i64 x] 2) ⟨b, off + x, none⟩ hb |>.symm] at c0
  go_enter Try.func90, Try.ntmps90
  go_wp2
  go_loopw [5, 6] (fun v y wr => ∃ k A' c', 1 ≤ k ∧ k ≤ per p x ∧ v = .slice A' k c' ∧ y = .int .i64 (it p k x : Nat) ∧ Slc wr w.heap.size A' k c' (cycTo p x k) ∧ Below w.heap.size w wr) (fun v _ _ => per p x - lenV v)
  case atStart => exact ⟨1, _, _, Nat.le_refl _, PS.out.1, rfl, rfl, Slc.lit1 w _ x (Nat.le_refl _), (Below.refl _ _).alloc (Nat.le_refl _) _⟩
  case round =>
    clear c0
    obtain ⟨k, A', c', hk1, hk, rfl, rfl, own, bel⟩ := hrel
    have Own' := Lib.hid own
    have Bel := Lib.hid bel
    clear own bel
    by_cases hlt : k < per p x
    · have hne := PS.out.2.2.2 k hk1 hlt
      obtain ⟨y, ey⟩ : ∃ y, it p k x = y := ⟨_, rfl⟩
      have hy : y < n := by rw [← ey, ← lp.out]; exact it_lt ip.out (by rw [lp.out]; exact hx) k
      rw [ey] at hne ⊢
      have Ey := Lib.hid ey
      have hd : ((y : Int) != (x : Int)) = true := by rw [bne_iff_ne]; omega
      have hd' : ((y : Int) == (x : Int)) = false := by rw [beq_eq_false_iff_ne]; omega
      clear ey hne
      go_wp2_with (first | (at_builtin; refine wpList_app1 rfl _ _ rfl w.heap.size A' k c' _ rfl (Own'.out.alloc _) wr.heap.size y rfl (by rw [World.cell?_alloc_at _ _ _ _ rfl]; rfl) (by omega) (by have := Bel.out.size; simp; omega) ?_; intro A1 c1' w1 own1 hg1; have Own1 := Lib.hid own1; have Bel1 : Hid (Below w.heap.size w w1) := Lib.hid ((Bel.out.alloc Bel.out.size _).grown hg1 (by have := Bel.out.size; simp; omega) (fun j hj => (Own'.out.lt_ j hj).1)); clear own1 hg1; have c1 := (Bel1.out.cell (p := ⟨b, off + y, none⟩) hb).trans (C.out y hy)))
      go_roundw
      case rel => exact ⟨k + 1, A1, c1', by omega, by omega, rfl, by show Value.int .i64 (nx p y : Int) = .int .i64 ((nx p (it p k x) : Nat) : Int); rw [Ey.out], by rw [cycTo_succ, Ey.out]; exact Own1.out, Bel1.out⟩
      case measure => simp [lenV]; omega
    · have hkn : k = per p x := by omega
      have hx' := PS.out.2.2.1
      subst hkn
      rw [hx']
      have hd : ((x : Int) != (x : Int)) = false := by simp
      clear hx'
      go_wp2
      go_ret
      exact ⟨_, _, _, rfl, by rw [cyc_eq]; exact Own'.out, by omega, Bel.out⟩
set_option maxHeartbeats 400000 in
/-- cycleOf. -/
theorem specCycleOf (A : Option Addr) (c n x : Nat) (p : List Int) (w : World) (hp : RI w w.heap.size A p) (lp : Hid (p.length = n)) (ip : Hid (IsP p)) (hx : x < n) (hn : n ≤ 20) :
    Calls Try.prog 107 #[.slice A n c, .int .i64 x] w fun e w' => ∃ A' m c', e = .returned (.slice A' m c') ∧ Slc w' w.heap.size A' m c' (cyc p x) ∧ m ≤ 20 ∧ Below w.heap.size w w' := by
  obtain ⟨b, off, rfl, hb, hc⟩ := hp (by rw [lp.out]; omega)
  have C : Hid (∀ j, j < n → w.cell? ⟨b, off + j, none⟩ = some (.int .i64 (nx p j : Int))) := Lib.hid fun j hj => by rw [← nx_val ip.out (by rw [lp.out]; exact hj)]; exact hc j (by rw [lp.out]; exact hj)
  have PS := Lib.hid (per_spec ip.out (x := x) (by rw [lp.out]; exact hx))
  have hper : per p x ≤ n := by rw [← lp.out]; exact PS.out.2.1
  clear hc
  have c0 := C.out x hx
  rw [World.cell?_alloc_lt w (.cells #[.int .i64 x] 2) ⟨b, off + x, none⟩ hb |>.symm] at c0
  go_enter Try.func107, Try.ntmps107
  go_wp2
  go_loopw [5, 6] (fun v y wr => ∃ k A' c', 1 ≤ k ∧ k ≤ per p x ∧ v = .slice A' k c' ∧ y = .int .i64 (it p k x : Nat) ∧ Slc wr w.heap.size A' k c' (cycTo p x k) ∧ Below w.heap.size w wr) (fun v _ _ => per p x - lenV v)
  case atStart => exact ⟨1, _, _, Nat.le_refl _, PS.out.1, rfl, rfl, Slc.lit1 w _ x (Nat.le_refl _), (Below.refl _ _).alloc (Nat.le_refl _) _⟩
  case round =>
    clear c0
    obtain ⟨k, A', c', hk1, hk, rfl, rfl, own, bel⟩ := hrel
    have Own' := Lib.hid own
    have Bel := Lib.hid bel
    clear own bel
    by_cases hlt : k < per p x
    · have hne := PS.out.2.2.2 k hk1 hlt
      obtain ⟨y, ey⟩ : ∃ y, it p k x = y := ⟨_, rfl⟩
      have hy : y < n := by rw [← ey, ← lp.out]; exact it_lt ip.out (by rw [lp.out]; exact hx) k
      rw [ey] at hne ⊢
      have Ey := Lib.hid ey
      have hd : ((y : Int) != (x : Int)) = true := by rw [bne_iff_ne]; omega
      have hd' : ((y : Int) == (x : Int)) = false := by rw [beq_eq_false_iff_ne]; omega
      clear ey hne
      go_wp2_with (first | (at_builtin; refine wpList_app1 rfl _ _ rfl w.heap.size A' k c' _ rfl (Own'.out.alloc _) wr.heap.size y rfl (by rw [World.cell?_alloc_at _ _ _ _ rfl]; rfl) (by omega) (by have := Bel.out.size; simp; omega) ?_; intro A1 c1' w1 own1 hg1; have Own1 := Lib.hid own1; have Bel1 : Hid (Below w.heap.size w w1) := Lib.hid ((Bel.out.alloc Bel.out.size _).grown hg1 (by have := Bel.out.size; simp; omega) (fun j hj => (Own'.out.lt_ j hj).1)); clear own1 hg1; have c1 := (Bel1.out.cell (p := ⟨b, off + y, none⟩) hb).trans (C.out y hy)))
      go_roundw
      case rel => exact ⟨k + 1, A1, c1', by omega, by omega, rfl, by show Value.int .i64 (nx p y : Int) = .int .i64 ((nx p (it p k x) : Nat) : Int); rw [Ey.out], by rw [cycTo_succ, Ey.out]; exact Own1.out, Bel1.out⟩
      case measure => simp [lenV]; omega
    · have hkn : k = per p x := by omega
      have hx' := PS.out.2.2.1
      subst hkn
      rw [hx']
      have hd : ((x : Int) != (x : Int)) = false := by simp
      clear hx'
      go_wp2
      go_ret
      exact ⟨_, _, _, rfl, by rw [cyc_eq]; exact Own'.out, by omega, Bel.out⟩

theorem st_true {p : List Int} {x : Nat} (h : ∀ j, j < per p x → x ≤ it p j x) : st p x = true := by
  unfold st; rw [List.all_eq_true]; intro j hj; rw [decide_eq_true_eq]; exact h j (List.mem_range.1 hj)
theorem st_false {p : List Int} {x j : Nat} (hj : j < per p x) (h : it p j x < x) : st p x = false := by
  unfold st; rw [List.all_eq_false]; exact ⟨j, List.mem_range.2 hj, by simp; omega⟩

set_option maxHeartbeats 400000 in
/-- startsCycle. -/
theorem implStarts (A : Option Addr) (c n x : Nat) (p : List Int) (w : World) (B : Nat) (hp : RI w B A p) (lp : Hid (p.length = n)) (ip : Hid (IsP p)) (hx : x < n) (hn : n ≤ 20) (ans : Bool) (ha : Hid (st p x = ans)) :
    Calls Try.prog 89 #[.slice A n c, .int .i64 x] w fun e w' => e = .returned (.bool ans) ∧ w = w' := by
  obtain ⟨b, off, rfl, hb, hc⟩ := hp (by rw [lp.out]; omega)
  have C : Hid (∀ j, j < n → w.cell? ⟨b, off + j, none⟩ = some (.int .i64 (nx p j : Int))) := Lib.hid fun j hj => by rw [← nx_val ip.out (by rw [lp.out]; exact hj)]; exact hc j (by rw [lp.out]; exact hj)
  have PS := Lib.hid (per_spec ip.out (x := x) (by rw [lp.out]; exact hx))
  have hper : per p x ≤ n := by rw [← lp.out]; exact PS.out.2.1
  clear hc
  have c0 := C.out x hx
  go_enter Try.func89, Try.ntmps89
  go_wp2
  go_loopg [5] (per p x) (fun g y wr => ∃ k, 1 ≤ k ∧ k + g = per p x + 1 ∧ 1 ≤ g ∧ y = .int .i64 (it p k x : Nat) ∧ (∀ j, 1 ≤ j → j < k → x < it p j x) ∧ w = wr)
  case atStart => exact ⟨1, Nat.le_refl _, by omega, PS.out.1, rfl, fun j h1 h2 => absurd h2 (by omega), rfl⟩
  case round =>
    clear c0
    obtain ⟨k, hk1, hkg, hg1, rfl, hall, rfl⟩ := hrel
    have Hall := Lib.hid hall
    have Hkg := Lib.hid hkg
    have hkle : k ≤ per p x := by omega
    clear hall hkg
    obtain ⟨y, ey⟩ : ∃ y, it p k x = y := ⟨_, rfl⟩
    have hy : y < n := by rw [← ey, ← lp.out]; exact it_lt ip.out (by rw [lp.out]; exact hx) k
    rw [ey]
    have Ey := Lib.hid ey
    clear ey
    by_cases hgt : x < y
    · have hd : decide ((x : Int) < (y : Int)) = true := by simpa using hgt
      have c1 := C.out y hy
      have hlt : k < per p x := by
        have h1 := PS.out.2.2.1
        have h2 := Ey.out
        rcases Nat.lt_or_ge k (per p x) with h | h
        · exact h
        · have : k = per p x := by omega
          rw [this, h1] at h2; omega
      go_wp2
      go_roundg (gk - 1)
      case measure => omega
      case rel =>
        have := Hkg.out
        exact ⟨k + 1, by omega, by omega, by omega, by show Value.int .i64 (nx p y : Int) = .int .i64 ((nx p (it p k x) : Nat) : Int); rw [Ey.out], fun j h1 h2 => by
          by_cases e : j = k
          · subst e; rw [Ey.out]; exact hgt
          · exact Hall.out j h1 (by omega), rfl⟩
    · have hd : decide ((x : Int) < (y : Int)) = false := by simp; omega
      have Fin : Hid (((y : Int) == (x : Int)) = ans) := by
        apply Lib.hid
        rw [← ha.out]
        by_cases e : y = x
        · have hkp : k = per p x := by
            rcases Nat.lt_or_ge k (per p x) with h | h
            · exact absurd (Ey.out.trans e) (PS.out.2.2.2 k hk1 h)
            · omega
          rw [st_true (fun j hj => by
            by_cases h0 : j = 0
            · subst h0; exact Nat.le_refl _
            · exact Nat.le_of_lt (Hall.out j (by omega) (by omega)))]
          rw [beq_iff_eq]; omega
        · have hlt : k < per p x := by
            rcases Nat.lt_or_ge k (per p x) with h | h
            · exact h
            · have h3 : k = per p x := by omega
              have h2 := Ey.out
              rw [h3, PS.out.2.2.1] at h2; omega
          rw [st_false hlt (by rw [Ey.out]; omega)]
          rw [beq_eq_false_iff_ne]; omega
      go_wp2
      go_ret
      exact ⟨ret_bool Fin.out, rfl⟩

set_option maxHeartbeats 400000 in
/-- isSmallest, at the points that follow x. -/
theorem specSmallest (A : Option Addr) (c m x : Nat) (p : List Int) (w : World) (hp : RI w w.heap.size A (cyc p x)) (lm : Hid (per p x = m)) (hm1 : 1 ≤ m) (hm : m ≤ 20) (ans : Bool) (ha : Hid (st p x = ans)) :
    Calls Try.prog 108 #[.slice A m c] w fun e w' => e = .returned (.bool ans) ∧ Below w.heap.size w w' := by
  obtain ⟨b, off, rfl, hb, hc⟩ := hp (by rw [cyc_length, lm.out]; omega)
  have C : Hid (∀ j, j < m → w.cell? ⟨b, off + j, none⟩ = some (.int .i64 (it p j x : Int))) := Lib.hid fun j hj => by
    rw [← cyc_getD (p := p) (x := x) (j := j) (by rw [lm.out]; exact hj)]; exact hc j (by rw [cyc_length, lm.out]; exact hj)
  clear hc
  refine quiet_below ?_
  have c0 := C.out 0 (by omega)
  rw [Nat.add_zero] at c0
  have c0' : w.cell? ⟨b, off, none⟩ = some (.int .i64 (x : Int)) := c0
  clear c0
  go_enter Try.func108, Try.ntmps108
  go_wp2
  go_loopw [3] (fun i wr => ∃ k : Nat, 1 ≤ k ∧ k ≤ m ∧ i = .int .i64 (k : Nat) ∧ (∀ j, j < k → x ≤ it p j x) ∧ ∃ q, wr = w.drewN q) (fun i _ => m - (intOf i).toNat)
  case atStart => exact ⟨1, Nat.le_refl _, hm1, rfl, fun j h => by rw [show j = 0 from by omega]; exact Nat.le_refl _, 0, rfl⟩
  case round =>
    obtain ⟨k, hk1, hk, rfl, hall, q, rfl⟩ := hrel
    have Hall := Lib.hid hall
    clear hall
    by_cases hlt : k < m
    · obtain ⟨y, ey⟩ : ∃ y, it p k x = y := ⟨_, rfl⟩
      have c1 := C.out k hlt
      rw [ey] at c1
      have Ey := Lib.hid ey
      clear ey
      have p1 : (0 : Int) ≤ k := by omega
      have p2 : (k : Int) < m := by omega
      have p3 : (0 : Int) < m := by omega
      by_cases hyx : y < x
      · have hd : decide ((y : Int) < (x : Int)) = true := by simpa using hyx
        have Fin : Hid (ans = false) := Lib.hid (by rw [← ha.out]; exact st_false (by rw [lm.out]; exact hlt) (by rw [Ey.out]; exact hyx))
        go_wp2
        go_quiet (fail)
        go_wp2
        go_ret
        exact ⟨ret_bool Fin.out.symm, _, World.drewN_drewN _ _ _⟩
      · have hd : decide ((y : Int) < (x : Int)) = false := by simp; omega
        go_wp2
        go_quiet (fail)
        go_wp2
        go_roundw
        case rel => exact ⟨k + 1, by omega, by omega, by go_num, fun j hj => by
          by_cases e : j = k
          · subst e; rw [Ey.out]; omega
          · exact Hall.out j (by omega), _, rfl⟩
        case measure => simp [intOf]; omega
    · have hkm : k = m := by omega
      subst hkm
      have Fin : Hid (ans = true) := Lib.hid (by rw [← ha.out]; exact st_true (by rw [lm.out]; exact Hall.out))
      go_wp2
      go_ret
      exact ⟨ret_bool Fin.out.symm, _, rfl⟩

set_option maxHeartbeats 400000 in
/-- pointsWhere at a method value: the smallest points of the cycles. -/
theorem pwStarts (A : Option Addr) (c n : Nat) (p : List Int) (w : World) (hp : RI w w.heap.size A p) (lp : Hid (p.length = n)) (ip : Hid (IsP p)) (hn : n ≤ 20) :
    Calls Try.prog 88 #[.int .i64 n, .func (.func 89) #[.slice A n c] #[]] w fun e w' => ∃ A' n' c', e = .returned (.slice A' n' c') ∧ Slc w' w.heap.size A' n' c' (ptsL (st p) n) ∧ n' ≤ n ∧ Below w.heap.size w w' := by
  go_enter Try.func88, Try.ntmps88
  go_wp2
  go_loopw [5, 6, 8] (fun v _ i wr => ∃ k A' m c', k ≤ n ∧ m ≤ k ∧ i = .int .i64 (k : Nat) ∧ v = .slice A' m c' ∧ Slc wr w.heap.size A' m c' (ptsL (st p) k) ∧ Below w.heap.size w wr) (fun _ _ i _ => n - (intOf i).toNat)
  case atStart => exact ⟨0, _, _, _, Nat.zero_le _, Nat.le_refl _, rfl, rfl, Slc.nil_, Below.refl _ _⟩
  case round =>
    obtain ⟨k, A', m, c', hk, hmk, rfl, rfl, own, bel⟩ := hrel
    have Own' := Lib.hid own
    have Bel := Lib.hid bel
    clear own bel
    by_cases hlt : k < n
    · rcases hmv : st p k with _ | _
      · have Hm := Lib.hid hmv
        clear hmv
        go_wp2_with fail
        refine (implStarts A c n k p wr _ (hp.below Bel.out (Nat.le_refl _)) lp ip hlt hn false Hm).mono ?_
        rintro e w1 ⟨rfl, rfl⟩
        go_wp2_with fail
        go_roundw
        case rel => exact ⟨k + 1, A', m, c', by omega, by omega, by go_num, rfl, by rw [ptsL_no Hm.out]; exact Own'.out, Bel.out⟩
        case measure => simp [intOf]; omega
      · have Hm := Lib.hid hmv
        clear hmv
        go_wp2_with fail
        refine (implStarts A c n k p wr _ (hp.below Bel.out (Nat.le_refl _)) lp ip hlt hn true Hm).mono ?_
        rintro e w1 ⟨rfl, rfl⟩
        go_wp2_with (first | (at_builtin; refine wpList_app1 rfl _ _ rfl w.heap.size A' m c' _ rfl (Own'.out.alloc _) wr.heap.size k rfl (by rw [World.cell?_alloc_at _ _ _ _ rfl]; rfl) (by omega) (by have := Bel.out.size; simp; omega) ?_; intro A1 c1' w1 own1 hg1))
        have Own1 := Lib.hid own1
        have Bel1 : Hid (Below w.heap.size w w1) := Lib.hid ((Bel.out.alloc Bel.out.size _).grown hg1 (by have := Bel.out.size; simp; omega) (fun j hj => (Own'.out.lt_ j hj).1))
        clear own1 hg1
        go_wp2
        go_roundw
        case rel => exact ⟨k + 1, A1, m + 1, c1', by omega, by omega, by go_num, rfl, by rw [ptsL_yes Hm.out]; exact Own1.out, Bel1.out⟩
        case measure => simp [intOf]; omega
    · have hkn : k = n := by omega
      subst hkn
      go_wp2
      go_ret
      exact ⟨_, _, _, rfl, Own'.out, hmk, Bel.out⟩

end Go.Proofs.Ytcjcmhoalomjfab

/- All cycles of a permutation, of the program and of the model. Condition: the list is a permutation. -/
namespace Go.Proofs.Ytcjcmhoalomjfab
open Go.RowKit

/-- The smallest points of the cycles, as far as k. -/
def heads (p : List Int) (k : Nat) : List Nat := (List.range k).filter (st p)
theorem heads_yes {p : List Int} {k : Nat} (h : st p k = true) : heads p (k + 1) = heads p k ++ [k] := by simp [heads, List.range_succ, List.filter_append, h]
theorem heads_no {p : List Int} {k : Nat} (h : st p k = false) : heads p (k + 1) = heads p k := by simp [heads, List.range_succ, List.filter_append, h]
theorem cycs_heads (p : List Int) : cycs p = (heads p p.length).map (cyc p) := rfl
theorem heads_le (p : List Int) (k : Nat) : (heads p k).length ≤ k := Nat.le_trans (List.length_filter_le _ _) (by simp)
theorem pts_heads (p : List Int) (k : Nat) : ptsL (st p) k = (heads p k).map Int.ofNat := rfl
theorem heads_lt {p : List Int} {n k x : Nat} (hk : k < (heads p n).length) (e : (heads p n).getD k 0 = x) : x < n := by
  have : x ∈ heads p n := by rw [← e, List.getD_eq_getElem?_getD, List.getElem?_eq_getElem hk]; exact List.getElem_mem hk
  exact List.mem_range.1 (List.mem_filter.1 this).1

set_option maxHeartbeats 800000 in
/-- allCycles. -/
theorem implAll (A : Option Addr) (c n : Nat) (p : List Int) (w : World) (hp : RI w w.heap.size A p) (lp : Hid (p.length = n)) (ip : Hid (IsP p)) (hn : n ≤ 20) :
    Calls Try.prog 60 #[.slice A n c] w fun e w' => ∃ A' m c' vs, e = .returned (.slice A' m c') ∧ SS w' w.heap.size w.heap.size A' m c' vs (cycs p) ∧ m ≤ n ∧ Below w.heap.size w w' := by
  have hmf : ∀ (fn : Fn) (first cap : Array Value) (w : World), (Instr.makeFunc fn first cap).run Try.prog w = .ok (.func fn first cap) w := fun _ _ _ _ => rfl
  go_enter Try.func60, Try.ntmps60
  go_wp2_with fail
  refine (pwStarts A c n p w hp lp ip hn).mono ?_
  rintro e w1 ⟨A1, m, c1, rfl, s1, hm, b1⟩
  have S1 := Lib.hid s1
  have B1 := Lib.hid b1
  have lm : Hid ((heads p n).length = m) := Lib.hid (by rw [← s1.1, pts_heads, List.length_map])
  clear s1 b1
  go_wp2_with fail
  go_loopw [3, 5, 12] (fun v _ i wr => ∃ k A' c' vs, k ≤ m ∧ i = .int .i64 (k : Nat) ∧ v = .slice A' k c' ∧ SS wr w1.heap.size w1.heap.size A' k c' vs (((heads p n).take k).map (cyc p)) ∧ Below w1.heap.size w1 wr) (fun _ _ i _ => m - (intOf i).toNat)
  case atStart => exact ⟨0, _, _, _, Nat.zero_le _, rfl, rfl, SS.nil_, Below.refl _ _⟩
  case round =>
    obtain ⟨k, A', c', vs, hk, rfl, rfl, ss, bel⟩ := hrel
    have Ss := Lib.hid ss
    have Bel := Lib.hid bel
    have Bw : Hid (Below w.heap.size w wr) := Lib.hid (btr B1.out bel)
    clear ss bel
    by_cases hlt : k < m
    · obtain ⟨x, ex⟩ : ∃ x, (heads p n).getD k 0 = x := ⟨_, rfl⟩
      have hx : x < n := heads_lt (by rw [lm.out]; exact hlt) ex
      have R1 := S1.out.ri_.below Bel.out (Nat.le_refl _)
      obtain ⟨b, off, rfl, hb, hc⟩ := R1 (by rw [S1.out.1]; omega)
      have c0 := hc k (by rw [S1.out.1]; exact hlt)
      have ev : (ptsL (st p) n).getD k 0 = (x : Int) := by
        rw [pts_heads, List.getD_eq_getElem?_getD, List.getElem?_map, ← ex, List.getD_eq_getElem?_getD, List.getElem?_eq_getElem (by rw [lm.out]; exact hlt)]; rfl
      rw [ev] at c0
      have Ex := Lib.hid ex
      clear ex ev hc R1
      go_wp2_with fail
      refine (implCycleFrom A c n x p wr (hp.up Bw.out) lp ip hx hn).mono ?_
      rintro e w2 ⟨A2, m2, c2, rfl, s2, hm2, b2⟩
      have S2 := Lib.hid s2
      have B2 := Lib.hid b2
      have Bel2 : Hid (Below w1.heap.size w1 w2) := Lib.hid (btr Bel.out b2)
      have Ss2 := Lib.hid (Ss.out.up b2)
      have D2 := Lib.hid (lies_dis Ss.out s2.lies (Nat.le_refl _))
      clear s2 b2 c0
      go_wp2_with (first | (at_builtin; refine wpList_app2 rfl _ _ rfl rfl (Ss2.out.alloc _) w2.heap.size A2 m2 c2 _ rfl (by rw [World.cell?_alloc_at _ _ _ _ rfl]; rfl) ((S2.out.mono Bel.out.size).alloc _) D2.out (by omega) (by have := Bel2.out.size; simp; omega) ?_; intro A3 c3 w3 ss3 hg3))
      have Ss3 := Lib.hid ss3
      have Bel3 : Hid (Below w1.heap.size w1 w3) := Lib.hid ((Bel2.out.alloc Bel2.out.size _).grown hg3 (by have := Bel2.out.size; simp; omega) (fun j hj => (Ss.out.lt_ j hj).1))
      clear ss3 hg3
      go_wp2
      go_roundw
      case rel =>
        refine ⟨k + 1, A3, c3, vs ++ [(A2, m2, c2)], by omega, by go_num, rfl, ?_, Bel3.out⟩
        rw [List.take_succ_eq_append_getElem (by rw [lm.out]; exact hlt), List.map_append]
        have e2 : (heads p n)[k]'(by rw [lm.out]; exact hlt) = x := by rw [← Ex.out, List.getD_eq_getElem?_getD, List.getElem?_eq_getElem (by rw [lm.out]; exact hlt)]; rfl
        rw [e2]
        exact Ss3.out
      case measure => simp [intOf]; omega
    · have hkm : k = m := by omega
      subst hkm
      have Fin : Hid ((((heads p n).take k).map (cyc p)) = cycs p) := Lib.hid (by rw [List.take_of_length_le (by rw [lm.out]; exact Nat.le_refl _), cycs_heads, lp.out])
      go_wp2
      go_ret
      exact ⟨_, _, _, _, rfl, by rw [← Fin.out]; exact Ss.out.mono B1.out.size B1.out.size, hm, Bw.out⟩

set_option maxHeartbeats 800000 in
/-- The model's allCycles. -/
theorem specAll (A : Option Addr) (c n : Nat) (p : List Int) (w : World) (hp : RI w w.heap.size A p) (lp : Hid (p.length = n)) (ip : Hid (IsP p)) (hn : n ≤ 20) :
    Calls Try.prog 87 #[.slice A n c] w fun e w' => ∃ A' m c' vs, e = .returned (.slice A' m c') ∧ SS w' w.heap.size w.heap.size A' m c' vs (cycs p) ∧ m ≤ n ∧ Below w.heap.size w w' := by
  go_enter Try.func87, Try.ntmps87
  go_wp2
  go_loopw [3, 4, 5] (fun v i _ wr => ∃ k A' m c' vs, k ≤ n ∧ m ≤ k ∧ i = .int .i64 (k : Nat) ∧ v = .slice A' m c' ∧ SS wr w.heap.size w.heap.size A' m c' vs ((heads p k).map (cyc p)) ∧ Below w.heap.size w wr) (fun _ i _ _ => n - (intOf i).toNat)
  case atStart => exact ⟨0, _, _, _, _, Nat.zero_le _, Nat.le_refl _, rfl, rfl, SS.lit0 w _ _ (Nat.le_refl _), (Below.refl _ _).alloc (Nat.le_refl _) _⟩
  case round =>
    obtain ⟨k, A', m, c', vs, hk, hmk, rfl, rfl, ss, bel⟩ := hrel
    have Ss := Lib.hid ss
    have Bel := Lib.hid bel
    clear ss bel
    by_cases hlt : k < n
    · have Per := Lib.hid (per_spec ip.out (x := k) (by rw [lp.out]; exact hlt))
      have hp1 := Per.out.1
      have hp2 : per p k ≤ 20 := by have := Per.out.2.1; have := lp.out; omega
      rcases hst : st p k with _ | _
      · have Hst := Lib.hid hst
        clear hst
        go_wp2_with fail
        refine (specCycleOf A c n k p wr (hp.up Bel.out) lp ip hlt hn).mono ?_
        rintro e w2 ⟨A2, m2, c2, rfl, s2, hm2, b2⟩
        have S2 := Lib.hid s2
        have Bel2 : Hid (Below w.heap.size w w2) := Lib.hid (btr Bel.out b2)
        have Ss2 := Lib.hid (Ss.out.up b2)
        have lm2 : Hid (per p k = m2) := Lib.hid (by rw [← s2.1, cyc_length])
        have h1m2 : 1 ≤ m2 := by rw [← lm2.out]; exact hp1
        clear s2 b2
        go_wp2_with fail
        refine (specSmallest A2 c2 m2 k p w2 S2.out.ri_ lm2 h1m2 hm2 false Hst).mono ?_
        rintro e w3 ⟨rfl, b3⟩
        have Bel3 : Hid (Below w.heap.size w w3) := Lib.hid (btr Bel2.out b3)
        have Ss3 := Lib.hid (Ss2.out.up b3)
        clear b3
        go_wp2_with fail
        go_roundw
        case rel => exact ⟨k + 1, A', m, c', vs, by omega, by omega, by go_num, rfl, by rw [heads_no Hst.out]; exact Ss3.out, Bel3.out⟩
        case measure => simp [intOf]; omega
      · have Hst := Lib.hid hst
        clear hst
        go_wp2_with fail
        refine (specCycleOf A c n k p wr (hp.up Bel.out) lp ip hlt hn).mono ?_
        rintro e w2 ⟨A2, m2, c2, rfl, s2, hm2, b2⟩
        have S2 := Lib.hid s2
        have Bel2 : Hid (Below w.heap.size w w2) := Lib.hid (btr Bel.out b2)
        have Ss2 := Lib.hid (Ss.out.up b2)
        have D2 := Lib.hid (lies_dis Ss.out s2.lies (Nat.le_refl _))
        have lm2 : Hid (per p k = m2) := Lib.hid (by rw [← s2.1, cyc_length])
        have h1m2 : 1 ≤ m2 := by rw [← lm2.out]; exact hp1
        clear s2 b2
        go_wp2_with fail
        refine (specSmallest A2 c2 m2 k p w2 S2.out.ri_ lm2 h1m2 hm2 true Hst).mono ?_
        rintro e w3 ⟨rfl, b3⟩
        have Bel3 : Hid (Below w.heap.size w w3) := Lib.hid (btr Bel2.out b3)
        have Ss3 := Lib.hid (Ss2.out.up b3)
        have S3 := Lib.hid (S2.out.up b3)
        clear b3
        go_wp2_with (first | (at_builtin; refine wpList_app2 rfl _ _ rfl rfl (Ss3.out.alloc _) w3.heap.size A2 m2 c2 _ rfl (by rw [World.cell?_alloc_at _ _ _ _ rfl]; rfl) ((S3.out.mono Bel.out.size).alloc _) D2.out (by omega) (by have := Bel3.out.size; simp; omega) ?_; intro A4 c4 w4 ss4 hg4))
        have Ss4 := Lib.hid ss4
        have Bel4 : Hid (Below w.heap.size w w4) := Lib.hid ((Bel3.out.alloc Bel3.out.size _).grown hg4 (by have := Bel3.out.size; simp; omega) (fun j hj => (Ss.out.lt_ j hj).1))
        clear ss4 hg4
        go_wp2
        go_roundw
        case rel => exact ⟨k + 1, A4, m + 1, c4, _, by omega, by omega, by go_num, rfl, by rw [heads_yes Hst.out, List.map_append]; exact Ss4.out, Bel4.out⟩
        case measure => simp [intOf]; omega
    · have hkn : k = n := by omega
      subst hkn
      have Fin : Hid ((heads p k).map (cyc p) = cycs p) := Lib.hid (by rw [cycs_heads, lp.out])
      go_wp2
      go_ret
      exact ⟨_, _, _, _, rfl, by rw [← Fin.out]; exact Ss.out, hmk, Bel.out⟩
end Go.Proofs.Ytcjcmhoalomjfab

/- Plain facts: the cycles part the points. No Go in it. Condition: the list is a permutation. -/
namespace Go.Proofs.Ytcjcmhoalomjfab

theorem st_iff {p : List Int} (h : IsP p) {y : Nat} (hy : y < p.length) : st p y = true ↔ ∀ k, y ≤ it p k y := by
  unfold st
  rw [List.all_eq_true]
  constructor
  · intro hs k
    rw [it_mod h hy k]
    have := hs (k % per p y) (List.mem_range.2 (Nat.mod_lt _ (per_spec h hy).1))
    simpa using this
  · intro hs k _
    simpa using hs k
theorem surj {p : List Int} (h : IsP p) {j : Nat} (hj : j < p.length) : ∃ x, x < p.length ∧ nx p x = j := by
  obtain ⟨h1, _, h3, _⟩ := per_spec h hj
  refine ⟨it p (per p j - 1) j, it_lt h hj _, ?_⟩
  have : it p (per p j - 1 + 1) j = j := by rw [show per p j - 1 + 1 = per p j from by omega]; exact h3
  exact this
/-- The number of cycles. -/
theorem head_eq {p : List Int} (h : IsP p) {x y a b : Nat} (hx : x < p.length) (hy : y < p.length) (sx : st p x = true) (sy : st p y = true) (e : it p a x = it p b y) : x = y := by
  have lo : ∀ {u v c d : Nat}, u < p.length → v < p.length → st p u = true → it p c u = it p d v → u ≤ v := by
    intro u v c d hu hv su e
    have hv1 := per_spec h hv
    -- v is an iterate of u
    have : ∃ k, it p k u = v := by
      refine ⟨(per p v - d % per p v) + c, ?_⟩
      rw [it_add, e, ← it_add, it_mod h hv]
      have : (per p v - d % per p v + d) % per p v = 0 := by
        have h1 := Nat.mod_lt d (show 0 < per p v by omega)
        have h2 := Nat.div_add_mod d (per p v)
        have h3 : per p v - d % per p v + d = per p v * (d / per p v + 1) := by
          rw [Nat.mul_add, Nat.mul_one]; omega
        rw [h3]; exact Nat.mul_mod_right _ _
      rw [this]; rfl
    obtain ⟨k, ek⟩ := this
    have := (st_iff h hu).1 su k
    omega
  have h1 := lo hx hy sx e
  have h2 := lo hy hx sy e.symm
  omega
def longH (p : List Int) : List Nat := ((List.range p.length).filter (st p)).filter fun h => decide (1 < per p h)
theorem cycl_longH (p : List Int) : cycl p = (longH p).map (cyc p) := by
  unfold cycl longH cycs
  rw [List.filter_map]
  congr 1
  refine List.filter_congr fun x _ => ?_
  simp [cyc_length]
theorem sum_cycl (p : List Int) : ((cycl p).map List.length).sum = ((longH p).flatMap fun h => (List.range (per p h)).map fun k => it p k h).length := by
  rw [List.length_flatMap, cycl_longH, List.map_map]
  congr 1
  refine List.map_congr_left fun x _ => ?_
  simp [cyc_length]
theorem moved_count {p : List Int} (h : IsP p) : ((cycl p).map List.length).sum = (supp p).length := by
  rw [sum_cycl]
  unfold supp
  rw [List.length_map]
  apply List.Perm.length_eq
  rw [List.perm_ext_iff_of_nodup]
  · intro x
    rw [List.mem_flatMap, List.mem_filter, List.mem_range]
    constructor
    · rintro ⟨c, hc, hx⟩
      rw [List.mem_map] at hx
      obtain ⟨k, _, rfl⟩ := hx
      unfold longH at hc
      rw [List.mem_filter, List.mem_filter, List.mem_range] at hc
      obtain ⟨⟨hcl, hst⟩, hp⟩ := hc
      have hxl := it_lt h hcl k
      refine ⟨hxl, ?_⟩
      rw [bne_iff_ne, nx_val h hxl]
      intro e
      have h1 := per_spec h hxl
      rw [per_it h hcl k] at h1
      exact h1.2.2.2 1 (Nat.le_refl _) (by simpa using hp) (by show nx p (it p k c) = _; omega)
    · rintro ⟨hx, hm⟩
      obtain ⟨c, j, hc, hst, hj, e⟩ := min_ex h hx
      refine ⟨c, ?_, List.mem_map.2 ⟨j, List.mem_range.2 hj, e⟩⟩
      unfold longH
      rw [List.mem_filter, List.mem_filter, List.mem_range]
      refine ⟨⟨hc, hst⟩, ?_⟩
      have h1 := per_spec h hx
      rw [← e, per_it h hc j] at h1
      rw [decide_eq_true_eq]
      rw [bne_iff_ne, nx_val h hx] at hm
      rcases Nat.lt_or_ge 1 (per p c) with h2 | h2
      · exact h2
      · have h3 : per p c = 1 := by omega
        have h4 := h1.2.2.1
        rw [h3, e] at h4
        have h5 : nx p x = x := h4
        omega
  · unfold List.Nodup
    rw [List.pairwise_flatMap]
    constructor
    · intro c hc
      unfold longH at hc
      rw [List.mem_filter, List.mem_filter, List.mem_range] at hc
      have hcl := hc.1.1
      rw [List.pairwise_map, List.pairwise_iff_getElem]
      intro i j hi hj hij e
      simp only [List.length_range] at hi hj
      simp only [List.getElem_range] at e
      have h1 := per_spec h hcl
      have e2 : it p i (it p (j - i) c) = it p i c := by rw [← it_add, e]; congr 1; omega
      exact h1.2.2.2 (j - i) (by omega) (by omega) (it_inj h (it_lt h hcl _) hcl i e2)
    · have hnd : (longH p).Nodup := ((List.nodup_range).filter _).filter _
      refine hnd.imp_of_mem ?_
      intro a b ha hb hab x hx y hy e
      unfold longH at ha hb
      rw [List.mem_filter, List.mem_filter, List.mem_range] at ha hb
      rw [List.mem_map] at hx hy
      obtain ⟨k, _, rfl⟩ := hx
      obtain ⟨k', _, e'⟩ := hy
      exact hab (head_eq h ha.1.1 hb.1.1 ha.1.2 hb.1.2 (e.trans e'.symm))
  · exact (List.nodup_range).filter _

end Go.Proofs.Ytcjcmhoalomjfab

/- Plain facts on cycle types: the lengths of all cycles, in descending order. No Go in it. No condition. -/
namespace Go.Proofs.Ytcjcmhoalomjfab

def lens (p : List Int) : List Nat := (cycs p).map List.length
/-- Those of the numbers that are at most n, and at least 1, in descending order. -/
def desc : Nat → List Nat → List Int
  | 0, _ => []
  | n + 1, l => List.replicate (l.count (n + 1)) (((n + 1 : Nat) : Int)) ++ desc n l
def ctype (p : List Int) : List Int := desc p.length (lens p)
def ctypeL (p : List Int) : List Int := if isP p = true then ctype p else []
theorem desc_count (n : Nat) (l : List Nat) (x : Int) : (desc n l).count x = if 1 ≤ x ∧ x ≤ n then l.count x.toNat else 0 := by
  induction n with
  | zero => rw [if_neg (by omega)]; rfl
  | succ n ih =>
    rw [desc, List.count_append, ih, List.count_replicate]
    by_cases e : x = ((n + 1 : Nat) : Int)
    · subst e
      rw [if_pos (by simp), if_neg (by omega), if_pos (by omega)]; simp
    · rw [if_neg (by simpa using Ne.symm e)]
      by_cases h : 1 ≤ x ∧ x ≤ n
      · rw [if_pos h, if_pos (by omega)]; omega
      · rw [if_neg h, if_neg (by omega)]
theorem desc_mem (n : Nat) (l : List Nat) {x : Int} (h : x ∈ desc n l) : 1 ≤ x ∧ x ≤ n := by
  have := List.count_pos_iff.2 h
  rw [desc_count] at this
  split at this
  · assumption
  · omega
theorem desc_sorted (n : Nat) (l : List Nat) : (desc n l).Pairwise fun a b => b ≤ a := by
  induction n with
  | zero => exact List.Pairwise.nil
  | succ n ih =>
    rw [desc, List.pairwise_append]
    refine ⟨List.pairwise_replicate.2 (.inr (Int.le_refl _)), ih, fun a ha b hb => ?_⟩
    rw [List.mem_replicate] at ha
    have := desc_mem n l hb
    omega
theorem sort_desc (n : Nat) (l : List Nat) (h : ∀ x ∈ l, 1 ≤ x ∧ x ≤ n) : ((l.map Int.ofNat).mergeSort fun x y => decide (x ≤ y)).reverse = desc n l := by
  apply List.Perm.eq_of_pairwise (le := fun (a b : Int) => b ≤ a)
  · intro a b _ _ h1 h2; omega
  · rw [List.pairwise_reverse]
    have := List.pairwise_mergeSort (le := fun (x y : Int) => decide (x ≤ y)) (fun a b c h1 h2 => by simp at *; omega) (fun a b => by simp; omega) (l.map Int.ofNat)
    exact this.imp fun h => by simpa using h
  · exact desc_sorted n l
  · refine (List.reverse_perm _).trans ((List.mergeSort_perm _ _).trans ?_)
    rw [List.perm_iff_count]
    intro x
    rw [desc_count]
    by_cases hx : 0 ≤ x
    · have e1 : (l.map Int.ofNat).count x = l.count x.toNat := by
        clear h
        induction l with
        | nil => rfl
        | cons a t ih =>
          rw [List.map_cons, List.count_cons, List.count_cons, ih]
          by_cases e : a = x.toNat
          · have e2 : Int.ofNat a = x := by rw [e]; simp; omega
            rw [if_pos (by simpa using e2), if_pos (by simpa using e)]
          · have e2 : Int.ofNat a ≠ x := by intro e3; apply e; rw [← e3]; rfl
            have : ¬ ((a : Int) = x) := e2
            simp [e, this]
      rw [e1]
      split
      · rfl
      · rename_i hn
        rw [List.count_eq_zero]
        intro hm
        have := h _ hm
        omega
    · rw [if_neg (by omega), List.count_eq_zero]
      intro hm
      rw [List.mem_map] at hm
      obtain ⟨a, _, e⟩ := hm
      have : (a : Int) = x := e
      omega
theorem lens_heads (p : List Int) : lens p = (heads p p.length).map (per p) := by
  unfold lens; rw [cycs_heads, List.map_map]; congr 1; funext x; simp [cyc_length]
theorem lens_mem {p : List Int} (h : IsP p) : ∀ x ∈ lens p, 1 ≤ x ∧ x ≤ p.length := by
  intro x hx
  rw [lens_heads, List.mem_map] at hx
  obtain ⟨a, ha, rfl⟩ := hx
  have ha' : a < p.length := List.mem_range.1 (List.mem_filter.1 ha).1
  have := per_spec h ha'
  exact ⟨this.1, this.2.1⟩
theorem ctype_sort {p : List Int} (h : IsP p) : (((lens p).map Int.ofNat).mergeSort fun x y => decide (x ≤ y)).reverse = ctype p := sort_desc _ _ (lens_mem h)
theorem lens_len (p : List Int) : (lens p).length = (cycs p).length := by simp [lens]
theorem cycs_pos {p : List Int} (h : IsP p) : 1 ≤ (cycs p).length := by
  obtain ⟨c, j, hc, hs, _⟩ := min_ex h (x := 0) (by have := h.pos; omega)
  rw [cycs_heads, List.length_map]
  have : c ∈ heads p p.length := List.mem_filter.2 ⟨List.mem_range.2 hc, hs⟩
  cases e : heads p p.length with
  | nil => rw [e] at this; cases this
  | cons => simp
theorem ctype_len {p : List Int} (h : IsP p) : (ctype p).length = (cycs p).length := by rw [← ctype_sort h, List.length_reverse, List.length_mergeSort, List.length_map, lens_len]
/-- The lengths of the first k cycles. -/
def lensI (p : List Int) (k : Nat) : List Int := ((lens p).take k).map Int.ofNat
theorem lensI_succ {p : List Int} {k l : Nat} (hk : k < (lens p).length) (e : (lens p)[k] = l) : lensI p (k + 1) = lensI p k ++ [(l : Int)] := by
  unfold lensI; rw [List.take_succ_eq_append_getElem hk, List.map_append, e]; rfl
theorem count_take {l : List Nat} {k x y : Nat} (hk : k < l.length) (e : l[k] = y) : (l.take (k + 1)).count x = (l.take k).count x + if y = x then 1 else 0 := by
  rw [List.take_succ_eq_append_getElem hk, List.count_append, e, List.count_singleton]
  simp
end Go.Proofs.Ytcjcmhoalomjfab

/- Plain facts: the cycle type tells the degree; a conjugate has the cycle type of the permutation. No Go in it. Condition: the lists are permutations. -/
namespace Go.Proofs.Ytcjcmhoalomjfab

/-- The points, cycle by cycle. -/
def flat (p : List Int) : List Nat := (heads p p.length).flatMap fun h => (List.range (per p h)).map fun k => it p k h
theorem flat_perm {p : List Int} (h : IsP p) : (flat p).Perm (List.range p.length) := by
  rw [List.perm_ext_iff_of_nodup]
  · intro x
    unfold flat
    rw [List.mem_flatMap, List.mem_range]
    constructor
    · rintro ⟨c, hc, hx⟩
      rw [List.mem_map] at hx
      obtain ⟨k, _, rfl⟩ := hx
      exact it_lt h (List.mem_range.1 (List.mem_filter.1 hc).1) k
    · intro hx
      obtain ⟨c, j, hc, hst, hj, e⟩ := min_ex h hx
      exact ⟨c, List.mem_filter.2 ⟨List.mem_range.2 hc, hst⟩, List.mem_map.2 ⟨j, List.mem_range.2 hj, e⟩⟩
  · unfold flat List.Nodup
    rw [List.pairwise_flatMap]
    constructor
    · intro c hc
      have hcl := List.mem_range.1 (List.mem_filter.1 hc).1
      rw [List.pairwise_map, List.pairwise_iff_getElem]
      intro i j hi hj hij e
      simp only [List.length_range] at hi hj
      simp only [List.getElem_range] at e
      have h1 := per_spec h hcl
      have e2 : it p i (it p (j - i) c) = it p i c := by rw [← it_add, e]; congr 1; omega
      exact h1.2.2.2 (j - i) (by omega) (by omega) (it_inj h (it_lt h hcl _) hcl i e2)
    · have hnd : (heads p p.length).Nodup := (List.nodup_range).filter _
      refine hnd.imp_of_mem ?_
      intro a b ha hb hab x hx y hy e
      unfold heads at ha hb
      rw [List.mem_filter, List.mem_range] at ha hb
      rw [List.mem_map] at hx hy
      obtain ⟨k, _, rfl⟩ := hx
      obtain ⟨k', _, e'⟩ := hy
      exact hab (head_eq h ha.1 hb.1 ha.2 hb.2 (e.trans e'.symm))
  · exact List.nodup_range
theorem lens_sum {p : List Int} (h : IsP p) : (lens p).sum = p.length := by
  have := (flat_perm h).length_eq
  rw [List.length_range] at this
  rw [← this, lens_heads]
  unfold flat
  rw [List.length_flatMap]
  congr 1
  refine List.map_congr_left fun x _ => ?_
  simp
theorem countP_flatMap' {α β : Type} (f : α → List β) (P : β → Bool) (l : List α) : (l.flatMap f).countP P = (l.map fun a => (f a).countP P).sum := by
  induction l with
  | nil => rfl
  | cons a t ih => rw [List.flatMap_cons, List.countP_append, ih, List.map_cons, List.sum_cons]
/-- How many points have a cycle of length L. -/
theorem per_count {p : List Int} (h : IsP p) (L : Nat) : (List.range p.length).countP (fun i => per p i == L) = L * (lens p).count L := by
  rw [← (flat_perm h).countP_eq]
  unfold flat
  rw [countP_flatMap', lens_heads]
  have hm : ∀ x ∈ heads p p.length, x < p.length := fun x hx => List.mem_range.1 (List.mem_filter.1 hx).1
  generalize heads p p.length = H at hm ⊢
  induction H with
  | nil => rfl
  | cons x t ih =>
    rw [List.map_cons, List.sum_cons, ih fun y hy => hm y (by simp [hy]), List.map_cons, List.count_cons]
    have hx := hm x (by simp)
    have e1 : ((List.range (per p x)).map fun k => it p k x).countP (fun i => per p i == L) = if per p x = L then per p x else 0 := by
      by_cases e : per p x = L
      · rw [if_pos e]
        rw [List.countP_map]
        have : (List.range (per p x)).countP ((fun i => per p i == L) ∘ fun k => it p k x) = (List.range (per p x)).length := by
          rw [List.countP_eq_length]
          intro k _
          simp [per_it h hx k, e]
        rw [this, List.length_range]
      · rw [if_neg e, List.countP_eq_zero]
        intro y hy
        rw [List.mem_map] at hy
        obtain ⟨k, _, rfl⟩ := hy
        simpa [per_it h hx k] using e
    rw [e1]
    by_cases e : per p x = L
    · rw [if_pos e, if_pos (by simpa using e), Nat.mul_add, e]; omega
    · rw [if_neg e, if_neg (by simpa using e), Nat.add_zero, Nat.zero_add]
theorem ctype_of_count {p q : List Int} (hl : p.length = q.length) (h : ∀ L, 1 ≤ L → (lens p).count L = (lens q).count L) : ctype p = ctype q := by
  unfold ctype
  rw [← hl]
  have : ∀ n, desc n (lens p) = desc n (lens q) := by
    intro n
    induction n with
    | zero => rfl
    | succ n ih => rw [desc, desc, ih, h (n + 1) (by omega)]
  exact this _
theorem count_of_ctype {p q : List Int} (hp : IsP p) (hq : IsP q) (h : ctype p = ctype q) (hl : p.length = q.length) (L : Nat) : (lens p).count L = (lens q).count L := by
  by_cases hL : 1 ≤ L ∧ L ≤ p.length
  · have h1 := desc_count p.length (lens p) (L : Int)
    have h2 := desc_count q.length (lens q) (L : Int)
    rw [if_pos (by omega)] at h1
    rw [if_pos (by omega)] at h2
    have e : desc p.length (lens p) = desc q.length (lens q) := h
    rw [e] at h1
    simpa using h1.symm.trans h2
  · rw [List.count_eq_zero.2 fun hm => hL (lens_mem hp _ hm), List.count_eq_zero.2 fun hm => hL (by rw [hl]; exact lens_mem hq _ hm)]
theorem ctype_perm {p : List Int} (h : IsP p) : ((ctype p).map Int.toNat).Perm (lens p) := by
  rw [← ctype_sort h]
  have h1 := ((List.reverse_perm (((lens p).map Int.ofNat).mergeSort fun x y => decide (x ≤ y))).trans (List.mergeSort_perm _ _)).map Int.toNat
  rw [List.map_map] at h1
  have e : (lens p).map (Int.toNat ∘ Int.ofNat) = lens p := by
    conv => rhs; rw [← List.map_id (lens p)]
    rfl
  rw [e] at h1
  exact h1
theorem ctype_deg {p q : List Int} (hp : IsP p) (hq : IsP q) (h : ctype p = ctype q) : p.length = q.length := by
  rw [← lens_sum hp, ← lens_sum hq, ← (ctype_perm hp).sum_nat, ← (ctype_perm hq).sum_nat, h]

section
variable {p x : List Int}
theorem conj_length (hl : p.length = x.length) : (conjP p x).length = p.length := by
  unfold conjP; rw [compL_length, compL_length, invL_length]; exact hl.symm
theorem isP_conj (hp : IsP p) (hx : IsP x) (hl : p.length = x.length) : IsP (conjP p x) :=
  isP_comp (isP_comp (isP_inv hx) hp ((invL_length _ _).trans hl.symm)) hx (by rw [compL_length, invL_length])
/-- A conjugate moves x's image of i to x's image of p's image of i. -/
theorem conj_nx (hp : IsP p) (hx : IsP x) (hl : p.length = x.length) {i : Nat} (hi : i < p.length) : nx (conjP p x) (nx x i) = nx x (nx p i) := by
  have hxi : nx x i < x.length := nx_lt hx (by omega)
  unfold conjP
  rw [nx_comp (by rw [compL_length, invL_length]; exact hxi), nx_comp (by rw [invL_length]; exact hxi)]
  have : nx (invL x x.length) (nx x i) = i := by
    have := invL_at hx x.length (Nat.le_refl _) i (by omega)
    unfold nx at this ⊢
    omega
  rw [this]
theorem conj_it (hp : IsP p) (hx : IsP x) (hl : p.length = x.length) {i : Nat} (hi : i < p.length) (k : Nat) : it (conjP p x) k (nx x i) = nx x (it p k i) := by
  induction k with
  | zero => rfl
  | succ k ih => show nx (conjP p x) (it (conjP p x) k (nx x i)) = nx x (nx p (it p k i)); rw [ih, conj_nx hp hx hl (it_lt hp hi k)]
end
/-- The period is the one number at which the point comes back first. -/
theorem per_uniq {p : List Int} (h : IsP p) {x m : Nat} (hx : x < p.length) (h1 : 1 ≤ m) (hm : it p m x = x) (h2 : ∀ k, 1 ≤ k → k < m → it p k x ≠ x) : per p x = m := by
  have hs := per_spec h hx
  rcases Nat.lt_trichotomy (per p x) m with e | e | e
  · exact absurd hs.2.2.1 (h2 _ hs.1 e)
  · exact e
  · exact absurd hm (hs.2.2.2 m h1 e)
theorem conj_per {p x : List Int} (hp : IsP p) (hx : IsP x) (hl : p.length = x.length) {i : Nat} (hi : i < p.length) : per (conjP p x) (nx x i) = per p i := by
  have hs := per_spec hp hi
  refine per_uniq (isP_conj hp hx hl) (by rw [conj_length hl, hl]; exact nx_lt hx (by omega)) hs.1 ?_ ?_
  · rw [conj_it hp hx hl hi, hs.2.2.1]
  · intro k h1 h2 e
    rw [conj_it hp hx hl hi] at e
    exact hs.2.2.2 k h1 h2 (nx_inj hx (by rw [← hl]; exact it_lt hp hi k) (by omega) e)
theorem map_nx_perm {x : List Int} (hx : IsP x) : ((List.range x.length).map (nx x)).Perm (List.range x.length) := by
  rw [List.perm_ext_iff_of_nodup]
  · intro y
    rw [List.mem_map, List.mem_range]
    constructor
    · rintro ⟨i, hi, rfl⟩; exact nx_lt hx (List.mem_range.1 hi)
    · intro hy
      obtain ⟨i, hi, e⟩ := surj hx hy
      exact ⟨i, List.mem_range.2 hi, e⟩
  · unfold List.Nodup
    rw [List.pairwise_map]
    refine (List.nodup_range (n := x.length)).imp_of_mem ?_
    intro a b ha hb hab e
    exact hab (nx_inj hx (List.mem_range.1 ha) (List.mem_range.1 hb) e)
  · exact List.nodup_range
theorem ctype_conj {p x : List Int} (hp : IsP p) (hx : IsP x) (hl : p.length = x.length) : ctype (conjP p x) = ctype p := by
  have hc := isP_conj hp hx hl
  refine ctype_of_count (conj_length hl) fun L hL => ?_
  have h1 := per_count hc L
  have h2 := per_count hp L
  rw [conj_length hl] at h1
  have h3 : (List.range p.length).countP (fun i => per (conjP p x) i == L) = (List.range p.length).countP (fun i => per p i == L) := by
    have := map_nx_perm hx
    rw [← hl] at this
    rw [← this.countP_eq, List.countP_map]
    refine List.countP_congr fun i hi => ?_
    rw [List.mem_range] at hi
    simp [conj_per hp hx hl hi]
  rw [h1, h2] at h3
  exact Nat.eq_of_mul_eq_mul_left (by omega) h3

/-- Are p and q permutations of one cycle type? -/
def sameType (p q : List Int) : Bool := sameD p q && decide (ctype p = ctype q)
end Go.Proofs.Ytcjcmhoalomjfab

/- Plain facts: of all that conjugate p to q, the one that takes the cycles of p in their order to the first cycles that are left comes first. No Go in it. Condition: permutations of one cycle type. -/
namespace Go.Proofs.Ytcjcmhoalomjfab

/-- The cycles (by their heads) that the heads hs are taken to: each time the first one left of the same length. -/
def mt (p q : List Int) : List Nat → List Nat → List Nat
  | [], _ => []
  | h :: hs, fs => fs.getD (fs.findIdx fun g => per q g == per p h) 0 :: mt p q hs (fs.eraseIdx (fs.findIdx fun g => per q g == per p h))
/-- What is left of fs behind k of the heads. -/
def lf (p q : List Int) : List Nat → List Nat → Nat → List Nat
  | _, fs, 0 => fs
  | [], fs, _ + 1 => fs
  | h :: hs, fs, k + 1 => lf p q hs (fs.eraseIdx (fs.findIdx fun g => per q g == per p h)) k
def Fits (p q : List Int) (hs fs : List Nat) : Prop := (fs.map (per q)).Perm (hs.map (per p))
theorem Fits.idx {p q : List Int} {h : Nat} {hs fs : List Nat} (f : Fits p q (h :: hs) fs) : fs.findIdx (fun g => per q g == per p h) < fs.length := by
  rw [List.findIdx_lt_length]
  have : per p h ∈ fs.map (per q) := f.symm.subset (by simp)
  rw [List.mem_map] at this
  obtain ⟨g, hg, e⟩ := this
  exact ⟨g, hg, by simpa using e⟩
theorem Fits.per {p q : List Int} {h : Nat} {hs fs : List Nat} (f : Fits p q (h :: hs) fs) : per q (fs[fs.findIdx (fun g => per q g == per p h)]'f.idx) = per p h := by
  have := List.findIdx_getElem (w := f.idx)
  simpa using this
theorem perm_eraseIdx {α : Type} (l : List α) (k : Nat) (hk : k < l.length) : l.Perm (l[k] :: l.eraseIdx k) := by
  induction l generalizing k with
  | nil => simp at hk
  | cons a t ih =>
    cases k with
    | zero => simp
    | succ k =>
      simp at hk
      have := ih k hk
      simp only [List.getElem_cons_succ, List.eraseIdx_cons_succ]
      exact (List.Perm.cons a this).trans (List.Perm.swap _ _ _)
theorem Fits.next {p q : List Int} {h : Nat} {hs fs : List Nat} (f : Fits p q (h :: hs) fs) : Fits p q hs (fs.eraseIdx (fs.findIdx fun g => Go.Proofs.Ytcjcmhoalomjfab.per q g == Go.Proofs.Ytcjcmhoalomjfab.per p h)) := by
  have h1 := ((perm_eraseIdx fs _ f.idx).map (Go.Proofs.Ytcjcmhoalomjfab.per q)).symm.trans f
  rw [List.map_cons, List.map_cons, f.per] at h1
  exact h1.cons_inv
theorem Fits.len {p q : List Int} {hs fs : List Nat} (f : Fits p q hs fs) : fs.length = hs.length := by
  have := f.length_eq
  simpa using this
theorem mt_len (p q : List Int) (hs fs : List Nat) : (mt p q hs fs).length = hs.length := by
  induction hs generalizing fs with
  | nil => rfl
  | cons h t ih => rw [mt, List.length_cons, List.length_cons, ih]
theorem nodup_eraseIdx {α : Type} {l : List α} {k : Nat} (hk : k < l.length) (h : l.Nodup) : l[k] ∉ l.eraseIdx k ∧ (l.eraseIdx k).Nodup := by
  have := (perm_eraseIdx l k hk).nodup h
  exact List.nodup_cons.1 this
theorem nodup_inj {l : List Nat} (h : l.Nodup) {i j : Nat} {hi : i < l.length} {hj : j < l.length} (e : l[i] = l[j]) : i = j := by
  rcases Nat.lt_trichotomy i j with hlt | he | hgt
  · exact absurd e (List.pairwise_iff_getElem.1 h _ _ hi hj hlt)
  · exact he
  · exact absurd e.symm (List.pairwise_iff_getElem.1 h _ _ hj hi hgt)
/-- What the choice keeps: out of fs, no one twice, of the same length, the least that could be taken. -/
theorem mt_facts {p q : List Int} : ∀ (hs fs : List Nat), Fits p q hs fs → fs.Pairwise (· < ·) →
    (∀ g ∈ mt p q hs fs, g ∈ fs) ∧ (mt p q hs fs).Nodup ∧ (∀ k, k < hs.length → per q ((mt p q hs fs).getD k 0) = per p (hs.getD k 0)) ∧
    ∀ k, k < hs.length → ∀ g ∈ fs, per q g = per p (hs.getD k 0) → (∀ j, j < k → (mt p q hs fs).getD j 0 ≠ g) → (mt p q hs fs).getD k 0 ≤ g := by
  intro hs
  induction hs with
  | nil => intro fs _ _; exact ⟨fun g hg => (nomatch hg), List.nodup_nil, fun k hk => absurd hk (by simp), fun k hk => absurd hk (by simp)⟩
  | cons h t ih =>
    intro fs f hso
    have hi := f.idx
    have hnd : fs.Nodup := hso.imp fun h => Nat.ne_of_lt h
    obtain ⟨n1, n2⟩ := nodup_eraseIdx hi hnd
    obtain ⟨i1, i2, i3, i4⟩ := ih _ f.next (hso.sublist (List.eraseIdx_sublist _ _))
    have e0 : fs.getD (fs.findIdx fun g => per q g == per p h) 0 = fs[fs.findIdx fun g => per q g == per p h]'hi := by rw [List.getD_eq_getElem?_getD, List.getElem?_eq_getElem hi]; rfl
    rw [mt, e0]
    refine ⟨?_, ?_, ?_, ?_⟩
    · intro g hg
      rw [List.mem_cons] at hg
      rcases hg with rfl | hg
      · exact List.getElem_mem hi
      · exact (List.eraseIdx_sublist _ _).subset (i1 g hg)
    · rw [List.nodup_cons]
      exact ⟨fun hm => n1 (i1 _ hm), i2⟩
    · intro k hk
      cases k with
      | zero => exact f.per
      | succ k => simp at hk; exact i3 k hk
    · intro k hk g hg hp hj
      cases k with
      | zero =>
        show fs[fs.findIdx fun g => per q g == per p h]'hi ≤ g
        obtain ⟨a, ha, rfl⟩ := List.getElem_of_mem hg
        have hle : fs.findIdx (fun g => per q g == per p h) ≤ a := by
          refine Nat.le_of_not_lt fun hlt => ?_
          have := List.not_of_lt_findIdx hlt
          have hp' : per q fs[a] = per p h := hp
          rw [hp'] at this; simp at this
        rcases Nat.lt_or_eq_of_le hle with hlt | he
        · exact Nat.le_of_lt ((List.pairwise_iff_getElem.1 hso) _ _ hi ha hlt)
        · simp only [he]; exact Nat.le_refl _
      | succ k =>
        simp at hk
        refine i4 k hk g ?_ hp fun j hj' => hj (j + 1) (by omega)
        have h0 := hj 0 (by omega)
        have := (perm_eraseIdx fs _ hi).subset hg
        rw [List.mem_cons] at this
        rcases this with e | e
        · exact absurd e.symm h0
        · exact e

theorem lf_fits {p q : List Int} : ∀ (hs fs : List Nat) (k : Nat), Fits p q hs fs → k ≤ hs.length → Fits p q (hs.drop k) (lf p q hs fs k)
  | hs, fs, 0, f, _ => by rw [show hs.drop 0 = hs from rfl]; cases hs <;> exact f
  | [], fs, k + 1, f, h => absurd h (by simp)
  | h :: t, fs, k + 1, f, hk => lf_fits t _ k f.next (by simpa using hk)
theorem mt_lf {p q : List Int} : ∀ (hs fs : List Nat) (k : Nat), k < hs.length → (mt p q hs fs).getD k 0 = (lf p q hs fs k).getD ((lf p q hs fs k).findIdx fun g => per q g == per p (hs.getD k 0)) 0
  | [], fs, k, h => absurd h (by simp)
  | h :: t, fs, 0, _ => rfl
  | h :: t, fs, k + 1, hk => mt_lf t _ k (by simpa using hk)
theorem lf_succ {p q : List Int} : ∀ (hs fs : List Nat) (k : Nat), k < hs.length → lf p q hs fs (k + 1) = (lf p q hs fs k).eraseIdx ((lf p q hs fs k).findIdx fun g => per q g == per p (hs.getD k 0))
  | [], fs, k, h => absurd h (by simp)
  | h :: t, fs, 0, _ => by cases t <;> rfl
  | h :: t, fs, k + 1, hk => lf_succ t _ k (by simpa using hk)
/-- What the choice finds at step k. -/
theorem lf_idx {p q : List Int} (hs fs : List Nat) (k : Nat) (f : Fits p q hs fs) (hk : k < hs.length) : (lf p q hs fs k).findIdx (fun g => per q g == per p (hs.getD k 0)) < (lf p q hs fs k).length ∧ (lf p q hs fs k).length = hs.length - k ∧
    per q ((mt p q hs fs).getD k 0) = per p (hs.getD k 0) := by
  have h1 := lf_fits hs fs k f (by omega)
  have e : hs.drop k = hs.getD k 0 :: hs.drop (k + 1) := by
    rw [List.getD_eq_getElem?_getD, List.getElem?_eq_getElem hk]; exact List.drop_eq_getElem_cons hk
  have h2 := h1.len
  rw [e] at h1
  have hi := h1.idx
  refine ⟨hi, by rw [h2, List.length_drop], ?_⟩
  rw [mt_lf hs fs k hk, List.getD_eq_getElem?_getD (l := lf p q hs fs k), List.getElem?_eq_getElem hi]
  exact h1.per

/-- One cycle of p laid onto one of q. -/
def putc (p q : List Int) (h g : Nat) (x : List Int) (k : Nat) : List Int := (List.range k).foldl (fun x j => x.set (it p j h) (it q j g : Int)) x
theorem putc_succ (p q : List Int) (h g : Nat) (x : List Int) (k : Nat) : putc p q h g x (k + 1) = (putc p q h g x k).set (it p k h) (it q k g : Int) := by
  unfold putc; rw [List.range_succ, List.foldl_append]; rfl
theorem putc_len (p q : List Int) (h g : Nat) (x : List Int) (k : Nat) : (putc p q h g x k).length = x.length := by
  induction k with
  | zero => rfl
  | succ k ih => rw [putc_succ, List.length_set, ih]
theorem setD {x : List Int} {i j : Nat} (hj : j < x.length) (u : Int) : (x.set i u).getD j 0 = if i = j then u else x.getD j 0 := by
  rw [List.getD_eq_getElem?_getD, List.getElem?_set]
  by_cases e : i = j
  · subst e; rw [if_pos rfl, if_pos hj, if_pos rfl]; rfl
  · rw [if_neg e, if_neg e, ← List.getD_eq_getElem?_getD]
theorem putc_far {p q : List Int} {h g : Nat} {x : List Int} {i : Nat} (hi : i < x.length) (k : Nat) (hn : ∀ j, j < k → it p j h ≠ i) : (putc p q h g x k).getD i 0 = x.getD i 0 := by
  induction k with
  | zero => rfl
  | succ k ih => rw [putc_succ, setD (by rw [putc_len]; exact hi), if_neg (hn k (by omega)), ih fun j hj => hn j (by omega)]
theorem it_ne {p : List Int} (hp : IsP p) {h a b : Nat} (hh : h < p.length) (hab : a < b) (hb : b < per p h) : it p a h ≠ it p b h := fun e => by
  have e2 : it p a (it p (b - a) h) = it p a h := by rw [← it_add, e]; congr 1; omega
  exact (per_spec hp hh).2.2.2 (b - a) (by omega) (by omega) (it_inj hp (it_lt hp hh _) hh a e2)
theorem putc_hit {p q : List Int} (hp : IsP p) {h g : Nat} {x : List Int} (hx : x.length = p.length) (hh : h < p.length) (k j : Nat) (hj : j < k) (hk : k ≤ per p h) : (putc p q h g x k).getD (it p j h) 0 = (it q j g : Int) := by
  induction k with
  | zero => omega
  | succ k ih =>
    rw [putc_succ, setD (by rw [putc_len, hx]; exact it_lt hp hh _)]
    by_cases e : j = k
    · subst e; rw [if_pos rfl]
    · rw [if_neg (fun e2 => it_ne hp hh (show j < k by omega) (by omega) e2.symm)]
      exact ih (by omega) (by omega)
/-- The first k cycles laid. -/
def xAt (p q : List Int) : Nat → List Int
  | 0 => List.replicate p.length 0
  | k + 1 => putc p q ((heads p p.length).getD k 0) ((mt p q (heads p p.length) (heads q q.length)).getD k 0) (xAt p q k) (per p ((heads p p.length).getD k 0))
theorem xAt_len (p q : List Int) (k : Nat) : (xAt p q k).length = p.length := by
  induction k with
  | zero => simp [xAt]
  | succ k ih => rw [xAt, putc_len, ih]
def grL (p q : List Int) : List Int := xAt p q (heads p p.length).length

theorem fits_type {p q : List Int} (hp : IsP p) (hq : IsP q) (h : ctype p = ctype q) : Fits p q (heads p p.length) (heads q q.length) := by
  unfold Fits
  rw [← lens_heads, ← lens_heads]
  exact (ctype_perm hq).symm.trans (h ▸ ctype_perm hp)
theorem heads_sorted (p : List Int) (k : Nat) : (heads p k).Pairwise (· < ·) := (List.pairwise_lt_range).filter _
theorem head_facts {p : List Int} {k : Nat} (hk : k < (heads p p.length).length) : (heads p p.length).getD k 0 < p.length ∧ st p ((heads p p.length).getD k 0) = true := by
  have : (heads p p.length).getD k 0 ∈ heads p p.length := by rw [List.getD_eq_getElem?_getD, List.getElem?_eq_getElem hk]; exact List.getElem_mem hk
  have h2 := List.mem_filter.1 this
  exact ⟨List.mem_range.1 h2.1, h2.2⟩
theorem head_inj {p : List Int} {a b : Nat} (ha : a < (heads p p.length).length) (hb : b < (heads p p.length).length) (e : (heads p p.length).getD a 0 = (heads p p.length).getD b 0) : a = b := by
  have hnd : (heads p p.length).Nodup := (heads_sorted p _).imp fun h => Nat.ne_of_lt h
  rw [List.getD_eq_getElem?_getD, List.getD_eq_getElem?_getD, List.getElem?_eq_getElem ha, List.getElem?_eq_getElem hb] at e
  exact nodup_inj hnd e
theorem head_at {p : List Int} (hp : IsP p) {i : Nat} (hi : i < p.length) : ∃ a j, a < (heads p p.length).length ∧ j < per p ((heads p p.length).getD a 0) ∧ it p j ((heads p p.length).getD a 0) = i := by
  obtain ⟨c, j, hc, hst, hj, e⟩ := min_ex hp hi
  have : c ∈ heads p p.length := List.mem_filter.2 ⟨List.mem_range.2 hc, hst⟩
  obtain ⟨a, ha, e2⟩ := List.getElem_of_mem this
  have e3 : (heads p p.length).getD a 0 = c := by rw [List.getD_eq_getElem?_getD, List.getElem?_eq_getElem ha]; exact e2
  exact ⟨a, j, ha, by rw [e3]; exact hj, by rw [e3]; exact e⟩

section
variable {p q : List Int} (hp : IsP p)
include hp

theorem xAt_val (k a j : Nat) (hk : k ≤ (heads p p.length).length) (ha : a < k) (hj : j < per p ((heads p p.length).getD a 0)) :
    (xAt p q k).getD (it p j ((heads p p.length).getD a 0)) 0 = (it q j ((mt p q (heads p p.length) (heads q q.length)).getD a 0) : Int) := by
  induction k with
  | zero => omega
  | succ k ih =>
    obtain ⟨l1, s1⟩ := head_facts (p := p) (k := k) (by omega)
    rw [xAt]
    by_cases e : a = k
    · subst e
      exact putc_hit hp (xAt_len _ _ _) l1 _ j hj (Nat.le_refl _)
    · obtain ⟨l2, s2⟩ := head_facts (p := p) (k := a) (by omega)
      rw [putc_far (by rw [xAt_len]; exact it_lt hp l2 _)]
      · exact ih (by omega) (by omega)
      · intro j' hj' e2
        exact e (head_inj (by omega) (by omega) (head_eq hp l2 l1 s2 s1 e2.symm))
end
theorem gr_val {p q : List Int} (hp : IsP p) (a j : Nat) (ha : a < (heads p p.length).length) (hj : j < per p ((heads p p.length).getD a 0)) :
    nx (grL p q) (it p j ((heads p p.length).getD a 0)) = it q j ((mt p q (heads p p.length) (heads q q.length)).getD a 0) := by
  have := xAt_val (q := q) hp _ a j (Nat.le_refl _) ha hj
  unfold nx grL
  rw [this]; rfl
theorem gr_len (p q : List Int) : (grL p q).length = p.length := xAt_len _ _ _
section
variable {p q : List Int} (hp : IsP p) (hq : IsP q) (ht : ctype p = ctype q)
include hp hq ht
theorem mtF : (∀ g ∈ mt p q (heads p p.length) (heads q q.length), g ∈ heads q q.length) ∧ (mt p q (heads p p.length) (heads q q.length)).Nodup ∧ (∀ k, k < (heads p p.length).length → per q ((mt p q (heads p p.length) (heads q q.length)).getD k 0) = per p ((heads p p.length).getD k 0)) ∧
    ∀ k, k < (heads p p.length).length → ∀ g ∈ heads q q.length, per q g = per p ((heads p p.length).getD k 0) → (∀ j, j < k → (mt p q (heads p p.length) (heads q q.length)).getD j 0 ≠ g) → (mt p q (heads p p.length) (heads q q.length)).getD k 0 ≤ g :=
  mt_facts _ _ (fits_type hp hq ht) (heads_sorted q _)
theorem mt_head {k : Nat} (hk : k < (heads p p.length).length) : (mt p q (heads p p.length) (heads q q.length)).getD k 0 < q.length ∧ st q ((mt p q (heads p p.length) (heads q q.length)).getD k 0) = true := by
  have : (mt p q (heads p p.length) (heads q q.length)).getD k 0 ∈ mt p q (heads p p.length) (heads q q.length) := by
    rw [List.getD_eq_getElem?_getD, List.getElem?_eq_getElem (by rw [mt_len]; exact hk)]; exact List.getElem_mem _
  have h2 := List.mem_filter.1 ((mtF hp hq ht).1 _ this)
  exact ⟨List.mem_range.1 h2.1, h2.2⟩
theorem gr_isP : IsP (grL p q) := by
  have hl := gr_len p q
  have hd := ctype_deg hp hq ht
  have hv : ∀ i, i < p.length → ∃ z : Nat, z < q.length ∧ (grL p q).getD i 0 = (z : Int) := by
    intro i hi
    obtain ⟨a, j, ha, hj, e⟩ := head_at hp hi
    have := xAt_val (q := q) hp _ a j (Nat.le_refl _) ha hj
    rw [e] at this
    exact ⟨_, it_lt hq (mt_head hp hq ht ha).1 _, this⟩
  refine ⟨by rw [hl]; exact hp.pos, by rw [hl]; exact hp.le, ?_, ?_, ?_⟩
  · intro i hi
    rw [hl] at hi
    obtain ⟨z, hz, e⟩ := hv i hi
    omega
  · intro i hi
    rw [hl] at hi ⊢
    obtain ⟨z, hz, e⟩ := hv i hi
    omega
  · intro i i' hi hi' e
    rw [hl] at hi hi'
    obtain ⟨a, j, ha, hj, rfl⟩ := head_at hp hi
    obtain ⟨a', j', ha', hj', rfl⟩ := head_at hp hi'
    have v1 := gr_val (q := q) hp a j ha hj
    have v2 := gr_val (q := q) hp a' j' ha' hj'
    have e3 : it q j ((mt p q (heads p p.length) (heads q q.length)).getD a 0) = it q j' ((mt p q (heads p p.length) (heads q q.length)).getD a' 0) := by
      rw [← v1, ← v2]; unfold nx; rw [e]
    obtain ⟨l1, s1⟩ := mt_head hp hq ht ha
    obtain ⟨l2, s2⟩ := mt_head hp hq ht ha'
    have e4 := head_eq hq l1 l2 s1 s2 e3
    have e5 : a = a' := by
      have hnd := (mtF hp hq ht).2.1
      have b1 : a < (mt p q (heads p p.length) (heads q q.length)).length := by rw [mt_len]; exact ha
      have b2 : a' < (mt p q (heads p p.length) (heads q q.length)).length := by rw [mt_len]; exact ha'
      rw [List.getD_eq_getElem?_getD, List.getD_eq_getElem?_getD, List.getElem?_eq_getElem b1, List.getElem?_eq_getElem b2] at e4
      exact nodup_inj hnd e4
    subst e5
    have hper := (mtF hp hq ht).2.2.1 a ha
    rcases Nat.lt_trichotomy j j' with hlt | he | hgt
    · exact absurd e3 (it_ne hq l1 hlt (by rw [hper]; exact hj'))
    · rw [he]
    · exact absurd e3.symm (it_ne hq l1 hgt (by rw [hper]; exact hj))
theorem gr_nx {i : Nat} (hi : i < p.length) : nx (grL p q) (nx p i) = nx q (nx (grL p q) i) := by
  obtain ⟨a, j, ha, hj, rfl⟩ := head_at hp hi
  rw [gr_val (q := q) hp a j ha hj]
  have hper := (mtF hp hq ht).2.2.1 a ha
  obtain ⟨l1, s1⟩ := head_facts (p := p) ha
  obtain ⟨l2, s2⟩ := mt_head hp hq ht ha
  show nx (grL p q) (it p (j + 1) _) = it q (j + 1) _
  by_cases e : j + 1 < per p ((heads p p.length).getD a 0)
  · exact gr_val (q := q) hp a (j + 1) ha e
  · have e1 : j + 1 = per p ((heads p p.length).getD a 0) := by omega
    have h1 := (per_spec hp l1).2.2.1
    have h2 := (per_spec hq l2).2.2.1
    rw [hper] at h2
    rw [e1, h1, h2]
    have := gr_val (q := q) hp a 0 ha (by omega)
    exact this
end
/-- Conjugation by y takes p to q just where y takes p's images to q's. -/
theorem conj_iff {p q y : List Int} (hp : IsP p) (hq : IsP q) (hy : IsP y) (hl : p.length = y.length) (hlq : p.length = q.length) : conjP p y = q ↔ ∀ i, i < p.length → nx y (nx p i) = nx q (nx y i) := by
  constructor
  · intro e i hi
    rw [← conj_nx hp hy hl hi, e]
  · intro h
    have hc := isP_conj hp hy hl
    refine ext_getD (conj_length hl) hlq.symm fun j hj => ?_
    obtain ⟨i, hi, rfl⟩ := surj hy (j := j) (by omega)
    have h1 := conj_nx hp hy hl (i := i) (by omega)
    have h2 := h i (by omega)
    rw [nx_val hc (by rw [conj_length hl]; exact hj), nx_val hq (by omega), h1, h2]
/-- a comes ahead of b, or is b. -/
def Lex (a b : List Int) : Prop := ∀ i, i < a.length → (∀ j, j < i → a.getD j 0 = b.getD j 0) → a.getD i 0 ≤ b.getD i 0
theorem Lex.anti {a b : List Int} {n : Nat} (la : a.length = n) (lb : b.length = n) (h : Lex a b) (k : Lex b a) : a = b := by
  refine ext_getD la lb fun j hj => ?_
  induction j using Nat.strongRecOn with
  | _ j ih =>
    have e : ∀ i, i < j → a.getD i 0 = b.getD i 0 := fun i hi => ih i hi (by omega)
    have := h j (by omega) e
    have := k j (by omega) fun i hi => (e i hi).symm
    omega
theorem y_it {p q y : List Int} (hp : IsP p) (h : ∀ i, i < p.length → nx y (nx p i) = nx q (nx y i)) {i : Nat} (hi : i < p.length) (k : Nat) : nx y (it p k i) = it q k (nx y i) := by
  induction k with
  | zero => rfl
  | succ k ih => show nx y (nx p (it p k i)) = nx q (it q k (nx y i)); rw [h _ (it_lt hp hi k), ih]
theorem gr_conj {p q : List Int} (hp : IsP p) (hq : IsP q) (ht : ctype p = ctype q) : conjP p (grL p q) = q :=
  (conj_iff hp hq (gr_isP hp hq ht) (gr_len p q).symm (ctype_deg hp hq ht)).2 fun _ hi => gr_nx hp hq ht hi
theorem gr_least {p q y : List Int} (hp : IsP p) (hq : IsP q) (ht : ctype p = ctype q) (hy : IsP y) (hl : p.length = y.length) (hc : conjP p y = q) : Lex (grL p q) y := by
  have hd := ctype_deg hp hq ht
  have hY := (conj_iff hp hq hy hl hd).1 hc
  have hX := fun i (hi : i < p.length) => gr_nx hp hq ht hi
  have gi := gr_isP hp hq ht
  intro i hi hag
  rw [gr_len p q] at hi
  obtain ⟨a, j, ha, hj, e⟩ := head_at hp hi
  obtain ⟨l1, s1⟩ := head_facts (p := p) ha
  have hle : (heads p p.length).getD a 0 ≤ i := by rw [← e]; exact (st_iff hp l1).1 s1 j
  rw [nx_val gi (by rw [gr_len p q]; exact hi), nx_val hy (by omega)]
  rcases Nat.lt_or_eq_of_le hle with hlt | heq
  · have e1 : nx (grL p q) ((heads p p.length).getD a 0) = nx y ((heads p p.length).getD a 0) := by unfold nx; rw [hag _ hlt]
    rw [← e, y_it hp hX l1 j, y_it hp hY l1 j, e1]
    exact Int.le_refl _
  · have e0 := gr_val (q := q) hp a 0 ha (by omega)
    have e0' : nx (grL p q) i = (mt p q (heads p p.length) (heads q q.length)).getD a 0 := by rw [← heq]; exact e0
    rw [e0']
    have hz : nx y i < q.length := by rw [← hd, hl]; exact nx_lt hy (by omega)
    obtain ⟨g, b, hg, sg, hb, eg⟩ := min_ex hq hz
    have gz : g ≤ nx y i := by rw [← eg]; exact (st_iff hq hg).1 sg b
    have pz : per q (nx y i) = per p i := by
      have := conj_per hp hy hl hi
      rw [hc] at this
      exact this
    have pg : per q g = per p ((heads p p.length).getD a 0) := by rw [heq, ← pz, ← eg, per_it hq hg]
    have := (mtF hp hq ht).2.2.2 a ha g (List.mem_filter.2 ⟨List.mem_range.2 hg, sg⟩) pg ?_
    · omega
    · intro a' ha' eg'
      obtain ⟨l2, s2⟩ := head_facts (p := p) (k := a') (by omega)
      have hlt : (heads p p.length).getD a' 0 < i := by
        rw [← heq]
        have hs := List.pairwise_iff_getElem.1 (heads_sorted p p.length) a' a (by omega) ha ha'
        rw [List.getD_eq_getElem?_getD, List.getD_eq_getElem?_getD, List.getElem?_eq_getElem ha, List.getElem?_eq_getElem (by omega)]
        exact hs
      have e3 := gr_val (q := q) hp a' 0 (by omega) (by have := (per_spec hp l2).1; omega)
      have e4 : nx y ((heads p p.length).getD a' 0) = g := by
        rw [← eg', ← show nx (grL p q) ((heads p p.length).getD a' 0) = (mt p q (heads p p.length) (heads q q.length)).getD a' 0 from e3]
        unfold nx; rw [hag _ hlt]
      have e5 : nx y (it p b ((heads p p.length).getD a' 0)) = nx y i := by rw [y_it hp hY l2 b, e4, eg]
      have e6 := nx_inj hy (by rw [← hl]; exact it_lt hp l2 b) (by omega) e5
      have e7 : (heads p p.length).getD a' 0 = i := by
        rw [← heq]
        exact head_eq hp l2 l1 s2 s1 (a := b) (b := 0) (by rw [e6, ← heq]; rfl)
      omega
end Go.Proofs.Ytcjcmhoalomjfab

/- The library's contracts laid at this program: tables of numbers, and facts that the kernel compares. No condition. -/
namespace Go.Proofs.Ytcjcmhoalomjfab
open Go.Proofs Go.Shelf
def laySort_ren : Go.Shelf.Ren := ⟨fun | 5 => 61 | 8 => 92 | 7 => 91 | 19 => 118 | 20 => 119 | 10 => 109 | 11 => 110 | 12 => 111 | 13 => 112 | 14 => 113 | 15 => 114 | 16 => 115 | 17 => 116 | 18 => 117 | 30 => 124 | 31 => 125 | 32 => 126 | 33 => 127 | 34 => 128 | 35 => 129 | 40 => 130 | n => n, fun | 23 => 22 | 25 => 2 | 3 => 3 | 32 => 93 | 22 => 22 | 0 => 0 | 44 => 119 | 46 => 121 | 4 => 4 | 36 => 111 | 35 => 110 | 41 => 116 | 5 => 5 | 9 => 9 | 53 => 125 | 57 => 129 | 63 => 131 | 64 => 132 | n => n, fun | n => n⟩
theorem laySort : Go.Proofs.SlLaysM.n5 Try.prog laySort_ren := {
  mixed := by kernel_rfl
  f5 := ⟨Try.f61.name, by decide, Try.func61.trans (congrArg some (by kernel_rfl))⟩
  f7 := ⟨Try.f91.name, by decide, Try.func91.trans (congrArg some (by kernel_rfl))⟩
  f8 := Try.func92.trans (congrArg some (by kernel_rfl))
  f10 := ⟨Try.f109.name, by decide, Try.func109.trans (congrArg some (by kernel_rfl))⟩
  f11 := ⟨Try.f110.name, by decide, Try.func110.trans (congrArg some (by kernel_rfl))⟩
  f12 := ⟨Try.f111.name, by decide, Try.func111.trans (congrArg some (by kernel_rfl))⟩
  f13 := ⟨Try.f112.name, by decide, Try.func112.trans (congrArg some (by kernel_rfl))⟩
  f14 := ⟨Try.f113.name, by decide, Try.func113.trans (congrArg some (by kernel_rfl))⟩
  f15 := ⟨Try.f114.name, by decide, Try.func114.trans (congrArg some (by kernel_rfl))⟩
  f16 := ⟨Try.f115.name, by decide, Try.func115.trans (congrArg some (by kernel_rfl))⟩
  f17 := ⟨Try.f116.name, by decide, Try.func116.trans (congrArg some (by kernel_rfl))⟩
  f18 := ⟨Try.f117.name, by decide, Try.func117.trans (congrArg some (by kernel_rfl))⟩
  f19 := Try.func118.trans (congrArg some (by kernel_rfl))
  f20 := Try.func119.trans (congrArg some (by kernel_rfl))
  f30 := ⟨Try.f124.name, by decide, Try.func124.trans (congrArg some (by kernel_rfl))⟩
  f31 := Try.func125.trans (congrArg some (by kernel_rfl))
  f32 := Try.func126.trans (congrArg some (by kernel_rfl))
  f33 := ⟨Try.f127.name, by decide, Try.func127.trans (congrArg some (by kernel_rfl))⟩
  f34 := ⟨Try.f128.name, by decide, Try.func128.trans (congrArg some (by kernel_rfl))⟩
  f35 := ⟨Try.f129.name, by decide, Try.func129.trans (congrArg some (by kernel_rfl))⟩
  f40 := ⟨Try.f130.name, by decide, Try.func130.trans (congrArg some (by kernel_rfl))⟩
  t0 := Try.underlying0
  a0 := Try.isAgg0
  z0 := Try.sizeOf0
  v0 := Try.zeroValue0
  t3 := Try.underlying3
  a3 := Try.isAgg3
  z3 := Try.sizeOf3
  v3 := Try.zeroValue3
  t4 := Try.underlying4
  a4 := Try.isAgg4
  z4 := Try.sizeOf4
  v4 := Try.zeroValue4
  t5 := Try.underlying5
  a5 := Try.isAgg5
  z5 := Try.sizeOf5
  v5 := Try.zeroValue5
  t9 := Try.underlying9
  a9 := Try.isAgg9
  z9 := Try.sizeOf9
  v9 := Try.zeroValue9
  t22 := Try.underlying22
  a22 := Try.isAgg22
  z22 := Try.sizeOf22
  v22 := Try.zeroValue22
  t23 := Try.underlying22
  a23 := Try.isAgg22
  z23 := Try.sizeOf22
  v23 := Try.zeroValue22
  t25 := Try.underlying2
  a25 := Try.isAgg2
  z25 := Try.sizeOf2
  v25 := Try.zeroValue2
  t32 := Try.underlying93
  a32 := Try.isAgg93
  z32 := Try.sizeOf93
  v32 := Try.zeroValue93
  t35 := Try.underlying110
  a35 := Try.isAgg110
  z35 := Try.sizeOf110
  v35 := Try.zeroValue110
  t36 := Try.underlying111
  a36 := Try.isAgg111
  z36 := Try.sizeOf111
  v36 := Try.zeroValue111
  t41 := Try.underlying116
  a41 := Try.isAgg116
  z41 := Try.sizeOf116
  v41 := Try.zeroValue116
  t44 := Try.underlying119
  a44 := Try.isAgg119
  z44 := Try.sizeOf119
  v44 := Try.zeroValue119
  t46 := Try.underlying121
  a46 := Try.isAgg121
  z46 := Try.sizeOf121
  v46 := Try.zeroValue121
  t53 := Try.underlying125
  a53 := Try.isAgg125
  z53 := Try.sizeOf125
  v53 := Try.zeroValue125
  t57 := Try.underlying129
  a57 := Try.isAgg129
  z57 := Try.sizeOf129
  v57 := Try.zeroValue129
  t63 := Try.underlying131
  a63 := Try.isAgg131
  z63 := Try.sizeOf131
  v63 := Try.zeroValue131
  t64 := Try.underlying132
  a64 := Try.isAgg132
  z64 := Try.sizeOf132
  v64 := Try.zeroValue132 }
def layRev_ren : Go.Shelf.Ren := ⟨fun | 35 => 62 | n => n, fun | 22 => 22 | 23 => 2 | 3 => 3 | 4 => 4 | 0 => 0 | n => n, fun | n => n⟩
theorem layRev : Go.Proofs.SlLaysE.n35 Try.prog layRev_ren := {
  mixed := by kernel_rfl
  f35 := ⟨Try.f62.name, by decide, Try.func62.trans (congrArg some (by kernel_rfl))⟩
  t0 := Try.underlying0
  a0 := Try.isAgg0
  z0 := Try.sizeOf0
  v0 := Try.zeroValue0
  t3 := Try.underlying3
  a3 := Try.isAgg3
  z3 := Try.sizeOf3
  v3 := Try.zeroValue3
  t4 := Try.underlying4
  a4 := Try.isAgg4
  z4 := Try.sizeOf4
  v4 := Try.zeroValue4
  t22 := Try.underlying22
  a22 := Try.isAgg22
  z22 := Try.sizeOf22
  v22 := Try.zeroValue22
  a23 := Try.isAgg2
  z23 := Try.sizeOf2 }
def layEq_ren : Go.Shelf.Ren := ⟨fun | 33 => 52 | n => n, fun | 22 => 22 | 23 => 2 | 4 => 4 | 3 => 3 | 0 => 0 | n => n, fun | n => n⟩
theorem layEq : Go.Proofs.SlLaysE.n33 Try.prog layEq_ren := {
  mixed := by kernel_rfl
  f33 := ⟨Try.f52.name, by decide, Try.func52.trans (congrArg some (by kernel_rfl))⟩
  t0 := Try.underlying0
  a0 := Try.isAgg0
  z0 := Try.sizeOf0
  v0 := Try.zeroValue0
  t3 := Try.underlying3
  a3 := Try.isAgg3
  z3 := Try.sizeOf3
  v3 := Try.zeroValue3
  t4 := Try.underlying4
  a4 := Try.isAgg4
  z4 := Try.sizeOf4
  v4 := Try.zeroValue4
  t22 := Try.underlying22
  a22 := Try.isAgg22
  z22 := Try.sizeOf22
  v22 := Try.zeroValue22
  a23 := Try.isAgg2
  z23 := Try.sizeOf2 }
def layDel_ren : Go.Shelf.Ren := ⟨fun | 45 => 86 | n => n, fun | 22 => 28 | 23 => 22 | 3 => 3 | 4 => 4 | 0 => 0 | n => n, fun | n => n⟩
theorem layDel : Go.Proofs.SlLaysE.n45 Try.prog layDel_ren := {
  mixed := by kernel_rfl
  f45 := ⟨Try.f86.name, by decide, Try.func86.trans (congrArg some (by kernel_rfl))⟩
  t0 := Try.underlying0
  a0 := Try.isAgg0
  z0 := Try.sizeOf0
  v0 := Try.zeroValue0
  t3 := Try.underlying3
  a3 := Try.isAgg3
  z3 := Try.sizeOf3
  v3 := Try.zeroValue3
  t4 := Try.underlying4
  a4 := Try.isAgg4
  z4 := Try.sizeOf4
  v4 := Try.zeroValue4
  t22 := Try.underlying28
  a22 := Try.isAgg28
  z22 := Try.sizeOf28
  v22 := Try.zeroValue28
  a23 := Try.isAgg22
  z23 := Try.sizeOf22 }
def layIdx_ren : Go.Shelf.Ren := ⟨fun | 6 => 84 | n => n, fun | 22 => 28 | 23 => 22 | 25 => 37 | 3 => 3 | 0 => 0 | 4 => 4 | n => n, fun | n => n⟩
theorem layIdx : Go.Proofs.SlLaysH.n6 Try.prog layIdx_ren := {
  mixed := by kernel_rfl
  f6 := ⟨Try.f84.name, by decide, Try.func84.trans (congrArg some (by kernel_rfl))⟩
  t0 := Try.underlying0
  a0 := Try.isAgg0
  z0 := Try.sizeOf0
  v0 := Try.zeroValue0
  t3 := Try.underlying3
  a3 := Try.isAgg3
  z3 := Try.sizeOf3
  v3 := Try.zeroValue3
  t4 := Try.underlying4
  a4 := Try.isAgg4
  z4 := Try.sizeOf4
  v4 := Try.zeroValue4
  t22 := Try.underlying28
  a22 := Try.isAgg28
  z22 := Try.sizeOf28
  v22 := Try.zeroValue28
  a23 := Try.isAgg22
  z23 := Try.sizeOf22
  t25 := Try.underlying37
  a25 := Try.isAgg37
  z25 := Try.sizeOf37
  v25 := Try.zeroValue37 }
end Go.Proofs.Ytcjcmhoalomjfab

/- Rows of the call's own that the library has written over. No condition. -/
namespace Go.Proofs.Ytcjcmhoalomjfab
open Go.RowKit Go.Sort

theorem heap_put {α : Type} [Inhabited α] (enc : α → Value) (w : World) (k g : Nat) (d : Array α) (os : Array Obj) {cur : Array Value} {e : TypeId} {fr : Nat × Nat} (hb : w.heap[g]? = some (.cells cur e fr)) :
    (grow (putRow enc (Sort.ahead w k) g 0 d) os).heap[g]? = some (.cells (putCells enc 0 d cur) e fr) := by
  have hlt : g < w.heap.size := (Array.getElem?_eq_some_iff.1 hb).1
  rw [heap_grow_old _ _ (by simpa using hlt)]
  unfold putRow mapBlock
  simp [Array.getElem?_modify, hb, onCells]
theorem put_take {α : Type} [Inhabited α] (enc : α → Value) (ts : List α) (cur : Array Value) (n : Nat) (hn : n ≤ ts.length) (hc : ts.length ≤ cur.size) : (putCells enc 0 ts.toArray cur).toList.take n = (ts.take n).map enc := by
  apply List.ext_getElem
  · simp [putCells]; omega
  · intro i h1 h2
    simp [putCells] at h1 h2 ⊢
    rw [if_pos (by omega)]
    rw [List.getElem?_eq_getElem (by omega)]; rfl
theorem grown_put {α : Type} [Inhabited α] (enc : α → Value) (w : World) (k g : Nat) (d : Array α) (os : Array Obj) : w.grownBy (grow (putRow enc (Sort.ahead w k) g 0 d) os) (some g) := by
  refine ⟨rfl, rfl, rfl, by simp, fun i hi hne => ?_⟩
  rw [heap_grow_old _ _ (by simpa using hi)]
  unfold putRow mapBlock
  have : ¬ g = i := fun e => hne (by rw [e])
  simp [Array.getElem?_modify, this]
theorem own_put {α : Type} [Inhabited α] (enc : α → Value) {w : World} {base g cap n : Nat} {e : TypeId} {xs : List α} {ts : List α} (h : w.ownsRow base e 1 (.slice (some ⟨g, 0, none⟩) xs.length cap) xs.length (xs.map enc))
    (hl : ts.length = xs.length) (hn : n ≤ xs.length) (k : Nat) (os : Array Obj) :
    (grow (putRow enc (Sort.ahead w k) g 0 ts.toArray) os).ownsRow base e 1 (.slice (some ⟨g, 0, none⟩) n cap) n ((ts.take n).map enc) := by
  refine ⟨by simp; omega, .inr ?_⟩
  rcases h.2 with ⟨e1, _⟩ | ⟨g', cap', cur, e1, hb, hg, h1, h2, h3, h4⟩
  · cases e1
  · injection e1 with e1 e2 e3
    injection e1 with e1
    injection e1 with e1
    subst e1; subst e3
    refine ⟨g, cap, _, rfl, hb, heap_put enc w k g _ os hg, by omega, h2, by simp [putCells]; omega, ?_⟩
    rw [Nat.mul_one]
    exact put_take enc ts cur n (by omega) (by omega)
theorem holds_own {α : Type} [Inhabited α] (enc : α → Value) {w : World} {base g cap : Nat} {e : TypeId} {xs : List α} (h : w.ownsRow base e 1 (.slice (some ⟨g, 0, none⟩) xs.length cap) xs.length (xs.map enc)) :
    Holds enc w g 0 xs.toArray := by
  intro j hj
  simp at hj
  rw [Nat.zero_add]
  refine ⟨?_, h.frozenAt j⟩
  rw [h.cellAt j (by omega), List.getElem?_map, List.getElem?_eq_getElem hj, getElem!_pos _ j (by simpa using hj)]
  simp

/-- slices.Sort at a row of the call's own. -/
theorem sortT (base : Nat) (A : Option Addr) (n c : Nat) (xs : List Int) (w : World) (h : Slc w base A n c xs) (h1 : 1 ≤ n) (hn : n ≤ 2097152) :
    Calls Try.prog 61 #[.slice A n c] w fun e w' => e = .returned (.tuple #[]) ∧ Slc w' base A n c (xs.mergeSort fun x y => decide (x ≤ y)) ∧ w.grownBy w' (Value.slice A n c).ownBlock := by
  obtain ⟨hl, ho⟩ := h
  subst hl
  rcases Slc.at_ ⟨rfl, ho⟩ with ⟨_, _, e0, _⟩ | ⟨g, rfl, hb, hg⟩
  · omega
  have hho : w.ownsRow base 2 1 (.slice (some ⟨g, 0, none⟩) xs.length c) xs.length (xs.map (Value.int .i64)) := ho
  refine (AnyM.slices_Sort_int laySort g 0 c xs w (holds_own _ hho) hg (by omega)).mono ?_
  rintro e w' ⟨rfl, k, os, rfl⟩
  have hlen : (xs.mergeSort fun x y => decide (x ≤ y)).length = xs.length := List.length_mergeSort _
  refine ⟨rfl, ⟨hlen, ?_⟩, grown_put _ _ _ _ _ _⟩
  have := own_put (Value.int .i64) hho hlen (Nat.le_refl _) k os
  rw [List.take_of_length_le (by omega)] at this
  unfold Own
  rw [hlen]
  exact this
/-- slices.Reverse at a row of the call's own. -/
theorem revT (base : Nat) (A : Option Addr) (n c : Nat) (xs : List Int) (w : World) (h : Slc w base A n c xs) (h1 : 1 ≤ n) (hn : n ≤ 2097152) :
    Calls Try.prog 62 #[.slice A n c] w fun e w' => e = .returned (.tuple #[]) ∧ Slc w' base A n c xs.reverse ∧ w.grownBy w' (Value.slice A n c).ownBlock := by
  obtain ⟨hl, ho⟩ := h
  subst hl
  rcases Slc.at_ ⟨rfl, ho⟩ with ⟨_, _, e0, _⟩ | ⟨g, rfl, hb, hg⟩
  · omega
  have hho : w.ownsRow base 2 1 (.slice (some ⟨g, 0, none⟩) xs.length c) xs.length (xs.map (Value.int .i64)) := ho
  refine (AnyE.slices_Reverse layRev (Value.int .i64) (fun _ => rfl) g 0 c xs w (holds_own _ hho) (by omega)).mono ?_
  rintro e w' ⟨rfl, k, rfl⟩
  have hlen : xs.reverse.length = xs.length := List.length_reverse
  have e0 : ∀ v : World, grow v #[] = v := fun v => by simp
  refine ⟨rfl, ⟨hlen, ?_⟩, by rw [← e0 (putRow _ _ _ _ _)]; exact grown_put _ _ _ _ _ _⟩
  have := own_put (Value.int .i64) hho hlen (Nat.le_refl _) k #[]
  rw [List.take_of_length_le (by omega), e0] at this
  unfold Own
  rw [hlen]
  exact this
theorem allEq_eq : ∀ xs ys : List Int, Lib.allEq (fun x y => x == y) xs ys = decide (xs = ys)
  | [], [] => rfl
  | [], y :: ys => by simp [Lib.allEq]
  | x :: xs, [] => by simp [Lib.allEq]
  | x :: xs, y :: ys => by
    rw [Lib.allEq, allEq_eq xs ys]
    by_cases h : x = y
    · subst h; simp
    · simp [h]
/-- slices.Equal. -/
theorem equalT (b1 b2 : Nat) (A B : Option Addr) (n c m d : Nat) (xs ys : List Int) (w : World) (hx : Slc w b1 A n c xs) (hy : Slc w b2 B m d ys) (h1 : 1 ≤ n) (h2 : 1 ≤ m) (hn : n ≤ 2097152) (hm : m ≤ 2097152) :
    Calls Try.prog 52 #[.slice A n c, .slice B m d] w fun e w' => e = .returned (.bool (decide (xs = ys))) ∧ Below w.heap.size w w' := by
  obtain ⟨lx, ox⟩ := hx
  obtain ⟨ly, oy⟩ := hy
  subst lx; subst ly
  rcases Slc.at_ ⟨rfl, ox⟩ with ⟨_, _, e0, _⟩ | ⟨g, rfl, hb, hg⟩
  · omega
  rcases Slc.at_ ⟨rfl, oy⟩ with ⟨_, _, e0, _⟩ | ⟨g2, rfl, hb2, hg2⟩
  · omega
  have c1 := holds_own (Value.int .i64) (show w.ownsRow b1 2 1 (.slice (some ⟨g, 0, none⟩) xs.length c) xs.length (xs.map (Value.int .i64)) from ox)
  have c2 := holds_own (Value.int .i64) (show w.ownsRow b2 2 1 (.slice (some ⟨g2, 0, none⟩) ys.length d) ys.length (ys.map (Value.int .i64)) from oy)
  refine (AnyE.slices_Equal layEq (Value.int .i64) (fun x y => x == y) (NeqAt.int _ _ _) g 0 xs.length c g2 0 ys.length d xs ys w (Nat.le_refl _) (Nat.le_refl _) (by omega) (by omega) (fun j hj => (c1 j (by simpa using hj)).1.trans (by simp)) (fun j hj => (c2 j (by simpa using hj)).1.trans (by simp))).mono ?_
  rintro e w' ⟨rfl, q, rfl⟩
  refine ⟨ret_bool ?_, below_quiet _ _⟩
  rw [List.take_of_length_le (Nat.le_refl _), List.take_of_length_le (Nat.le_refl _)]
  exact allEq_eq xs ys
end Go.Proofs.Ytcjcmhoalomjfab

/- The program's search for the first conjugator. Condition: permutations of one cycle type. -/
namespace Go.Proofs.Ytcjcmhoalomjfab
open Go.RowKit Go.Sort

theorem getD_erase {α : Type} (l : List α) (k i : Nat) (d : α) : (l.eraseIdx k).getD i d = l.getD (if i < k then i else i + 1) d := by
  rw [List.getD_eq_getElem?_getD, List.getElem?_eraseIdx, List.getD_eq_getElem?_getD]
  split <;> rfl
/-- One slice taken out of a slice of slices of the call's own. -/
theorem SS.erased {w : World} {base bi n c g k q : Nat} {vs : List SV} {xss : List (List Int)} (h : SS w base bi (some ⟨g, 0, none⟩) (n + 1) c vs xss) (hk : k ≤ n) :
    SS (putRow sval (Sort.ahead w q) g 0 (vs.take k ++ vs.drop (k + 1) ++ [sd0]).toArray) base bi (some ⟨g, 0, none⟩) n c (vs.eraseIdx k) (xss.eraseIdx k) := by
  have lv := h.lv
  have lx := h.lx
  have hg : w.grownBy (putRow sval (Sort.ahead w q) g 0 (vs.take k ++ vs.drop (k + 1) ++ [sd0]).toArray) (some g) := by
    have := grown_put sval w q g (vs.take k ++ vs.drop (k + 1) ++ [sd0]).toArray #[]
    simpa using this
  have ho := h.own
  rw [← lv] at ho
  have e1 : vs.eraseIdx k = vs.take k ++ vs.drop (k + 1) := List.eraseIdx_eq_take_drop_succ vs k
  have le : (vs.take k ++ vs.drop (k + 1)).length = n := by simp; omega
  refine ⟨?_, by rw [e1]; exact le, by rw [List.length_eraseIdx, lx, if_pos (by omega)]; omega, ?_, ?_⟩
  · have := own_put sval ho (ts := vs.take k ++ vs.drop (k + 1) ++ [sd0]) (n := n) (by rw [List.length_append, le, lv]; rfl) (by omega) q #[]
    have e2 : (vs.take k ++ vs.drop (k + 1) ++ [sd0]).take n = vs.take k ++ vs.drop (k + 1) := by rw [List.take_append_of_le_length (by omega), List.take_of_length_le (by omega)]
    rw [e2] at this
    rw [e1]
    simpa using this
  · intro i hi
    rw [getD_erase, getD_erase]
    have hr := h.row (if i < k then i else i + 1) (by split <;> omega)
    exact hr.kept hg (apart_types hr h.own)
  · intro i j hij hj
    rw [getD_erase, getD_erase]
    exact h.dis _ _ (by split <;> split <;> omega) (by split <;> omega)

theorem pred_len (L bx : Nat) (A : Option Addr) (c : Nat) (w : World) (hb : bx < w.heap.size) (hc : w.cell? ⟨bx, 0, none⟩ = some (.slice A L c)) :
    PredAt Try.prog 85 #[.pointer (some ⟨bx, 0, none⟩)] sval (fun v => decide (v.2.1 = L)) w := fun W v hB => by
  have hcell : W.cell? ⟨bx, 0, none⟩ = some (.slice A L c) := (hB.cell (p := ⟨bx, 0, none⟩) hb).trans hc
  obtain ⟨A5, n5, c5⟩ := v
  show Calls Try.prog 85 #[.slice A5 n5 c5, .pointer (some ⟨bx, 0, none⟩)] W _
  clear hB hc
  go_enter Try.func85, Try.ntmps85
  go_wp2
  go_ret
  exact ⟨by congr 2; simp [BEq.beq]; omega, 0, rfl⟩
/-- The first place with a slice of length L. -/
theorem idxT {w : World} {base bi n c g : Nat} {vs : List SV} {xss : List (List Int)} (h : SS w base bi (some ⟨g, 0, none⟩) n c vs xss) (L bx k : Nat) (A : Option Addr) (cb : Nat) (hb : bx < w.heap.size) (hc : w.cell? ⟨bx, 0, none⟩ = some (.slice A L cb)) (hn : n ≤ 1000000)
    (hk : k < n) (h1 : (xss.getD k []).length = L) (h2 : ∀ j, j < k → (xss.getD j []).length ≠ L) :
    Calls Try.prog 84 #[.slice (some ⟨g, 0, none⟩) n c, .func (.func 85) #[] #[.pointer (some ⟨bx, 0, none⟩)]] w fun e w' => e = .returned (.int .i64 (k : Nat)) ∧ ∃ q, w' = w.drewN q := by
  have eg : ∀ args w, (callFunc 85 args).run Try.prog w = .ok (.enter 85 args) w := enters_of Try.func85 (by kernel_rfl) rfl
  have ho := h.own
  rw [← h.lv] at ho
  have hH := holds_own sval ho
  have hl : ∀ j, j < n → (vs[j]!).2.1 = (xss.getD j []).length := fun j hj => by
    have := (h.row j hj).1
    rw [this, List.getD_eq_getElem?_getD, List.getElem!_eq_getElem?_getD]; rfl
  have := AnyE.slices_IndexFunc layIdx sval (fun v => decide (v.2.1 = L)) 85 #[.pointer (some ⟨bx, 0, none⟩)] eg g 0 n c vs w (pred_len L bx A cb w hb hc) (by rw [h.lv]; exact Nat.le_refl _) (by omega) (fun j hj => (hH j (by simpa using hj)).1.trans (by simp))
  rw [Lib.idxBy_hit (fun _ y => (decide (y.2.1 = L) : Bool)) vs n k default hk (by rw [h.lv]; exact Nat.le_refl _) (by simpa using (hl k hk).trans h1) (fun j hj => by simpa using fun e => h2 j hj ((hl j (by omega)).symm.trans e))] at this
  exact this
/-- One slice taken out. -/
theorem delT {w : World} {base bi n c g : Nat} {vs : List SV} {xss : List (List Int)} (h : SS w base bi (some ⟨g, 0, none⟩) (n + 1) c vs xss) (k : Nat) (K : Int) (hk : k ≤ n) (hK : K = ((k + 1 : Nat) : Int)) :
    Calls Try.prog 86 #[.slice (some ⟨g, 0, none⟩) (n + 1) c, .int .i64 (k : Nat), .int .i64 K] w fun e w' => e = .returned (.slice (some ⟨g, 0, none⟩) n c) ∧ SS w' base bi (some ⟨g, 0, none⟩) n c (vs.eraseIdx k) (xss.eraseIdx k) ∧ w.grownBy w' (some g) := by
  subst hK
  obtain ⟨i0, hi, hz0, hz1, hz2⟩ := info_parts infoS
  have ho := h.own
  rw [← h.lv] at ho
  have hH := holds_own sval ho
  have hcap : n + 1 ≤ c ∧ c ≤ maxLen := by
    rcases h.own.2 with ⟨e, _⟩ | ⟨g', cap, cur, e, _, _, h1, h2, _⟩
    · cases e
    · injection e with e1 e2 e3; subst e3; exact ⟨h1, h2⟩
  have hsz : vs.toArray.size = n + 1 := by simp [h.lv]
  have := AnyE.slices_Delete layDel sval (fun _ => rfl) sd0 (fun w => Try.zeroValue22 w) i0 hi hz1 g 0 c k (k + 1) vs.toArray w hH (by rw [hsz]; exact hcap.1) (by have := hcap.2; unfold maxLen at this; omega) (by omega) (by rw [hsz]; omega)
  rw [hsz] at this
  refine this.mono ?_
  rintro e w' ⟨rfl, q, rfl⟩
  have e1 : k + 1 - k = 1 := by omega
  rw [e1]
  refine ⟨rfl, ?_, ?_⟩
  · have := h.erased (q := q) hk
    simpa using this
  · have := grown_put sval w q g (vs.take k ++ vs.drop (k + 1) ++ [sd0]).toArray #[]
    simpa using this

set_option maxHeartbeats 2000000 in
set_option maxRecDepth 100000 in
/-- smallestConjugatorTo. -/
theorem implSmallest (A B : Option Addr) (c d n : Nat) (p q : List Int) (w : World) (hp : RI w w.heap.size A p) (hq : RI w w.heap.size B q) (lp : Hid (p.length = n)) (lq : Hid (q.length = n)) (ip : Hid (IsP p)) (iq : Hid (IsP q)) (ht : Hid (ctype p = ctype q)) (hn : n ≤ 20) :
    Calls Try.prog 53 #[.slice A n c, .slice B n d] w fun e w' => ∃ A' c', e = .returned (.slice A' n c') ∧ Slc w' w.heap.size A' n c' (grL p q) ∧ Below w.heap.size w w' := by
  obtain ⟨i0, hi, hz0, hz1, hz2⟩ := info_parts infoI
  have hmf : ∀ (fn : Fn) (first cap : Array Value) (w : World), (Instr.makeFunc fn first cap).run Try.prog w = .ok (.func fn first cap) w := fun _ _ _ _ => rfl
  have FT := Lib.hid (fits_type ip.out iq.out ht.out)
  have hM1 := cycs_pos ip.out
  have hM2 := cycs_pos iq.out
  go_enter Try.func53, Try.ntmps53
  go_wp2_with (first | (at_make; refine wpList_make_full _ rfl _ _ 47 rfl w.heap.size 2 i0 (.int .i64 0) 1 Try.underlying47 hi hz0 hz1 .i64 .i64 _ _ n rfl rfl rfl rfl (by rw [hz2]; omega) (by unfold maxLen; omega) (Nat.le_refl _) ?_; intro w1 hown1 hgrow1))
  have R1 := Lib.hid (Row.made hown1)
  have bel1 : Hid (Below w.heap.size w w1) := Lib.hid ((Below.refl _ _).grown hgrow1 (Nat.le_refl _) (fun k e => nomatch e))
  have Z1 : w.heap.size + 1 ≤ w1.heap.size := by have := R1.out.lt_; omega
  clear hown1 hgrow1
  refine (implAll B d n q w1 (hq.up bel1.out) lq iq hn).mono ?_
  rintro e w2 ⟨A2, m2, c2, vs2, rfl, s2, hm2, b2⟩
  have lm2 := s2.lx
  rw [lm2] at hM2
  obtain ⟨gF, rfl, gF1, gF2, _⟩ := s2.at_ hM2
  have S2 := Lib.hid s2
  have R2 := Lib.hid (R1.out.below b2 (by omega))
  have bel2 : Hid (Below w.heap.size w w2) := Lib.hid (btr bel1.out b2)
  have Z2 := b2.size
  clear s2 b2 R1
  go_wp2_with fail
  refine (implAll A c n p w2 (hp.up bel2.out) lp ip hn).mono ?_
  rintro e w3 ⟨A3, M, c3, vs3, rfl, s3, hm3, b3⟩
  have lm3 := s3.lx
  rw [lm3] at hM1
  obtain ⟨gC, rfl, gC1, gC2, _⟩ := s3.at_ hM1
  have S3 := Lib.hid s3
  have R3 := Lib.hid (R2.out.below b3 (by omega))
  have S2' := Lib.hid (S2.out.up b3)
  have bel3 : Hid (Below w.heap.size w w3) := Lib.hid (btr bel2.out b3)
  have Z3 := b3.size
  have HM : Hid ((heads p p.length).length = M) := Lib.hid (by rw [← lm3, cycs_heads, List.length_map])
  obtain rfl : M = m2 := by
    have := FT.out.len
    rw [HM.out] at this
    rw [← lm2, cycs_heads, List.length_map, this]
  have E0 : Hid (cycs q = (lf p q (heads p p.length) (heads q q.length) 0).map (cyc q)) := Lib.hid (by rw [cycs_heads]; cases heads p p.length <;> rfl)
  clear s3 b3 R2 S2 lm2 lm3
  go_wp2_with fail
  go_loopg [6, 8, 9, 10, 11, 20, 29] M (fun gg fv _ _ _ _ i _ wr => ∃ k vs, k ≤ M ∧ M - k ≤ gg ∧ i = .int .i64 (k : Nat) ∧ fv = .slice (some ⟨gF, 0, none⟩) (M - k) c2 ∧ Row wr w.heap.size w.heap.size n n (xAt p q k) ∧
    SS wr w1.heap.size w1.heap.size (some ⟨gF, 0, none⟩) (M - k) c2 vs ((lf p q (heads p p.length) (heads q q.length) k).map (cyc q)) ∧ SS wr w2.heap.size w2.heap.size (some ⟨gC, 0, none⟩) M c3 vs3 (cycs p) ∧ w3.heap.size ≤ wr.heap.size ∧ Below w.heap.size w wr)
  case atStart => exact ⟨0, vs2, Nat.zero_le _, by omega, rfl, rfl, by rw [xAt, lp.out]; exact R3.out, by rw [← E0.out]; exact S2'.out, S3.out, Nat.le_refl _, bel3.out⟩
  case round =>
    obtain ⟨k, vs, hk, hgg, rfl, rfl, row, sf, sc, zr, bel⟩ := hrel
    have Rw := Lib.hid row
    have Sf := Lib.hid sf
    have Sc := Lib.hid sc
    have Bel := Lib.hid bel
    clear row sf sc bel
    by_cases hlt : k < M
    · obtain ⟨h, eh⟩ : ∃ h, (heads p p.length).getD k 0 = h := ⟨_, rfl⟩
      obtain ⟨g, eg⟩ : ∃ g, (mt p q (heads p p.length) (heads q q.length)).getD k 0 = g := ⟨_, rfl⟩
      obtain ⟨f, ef⟩ : ∃ f, (lf p q (heads p p.length) (heads q q.length) k).findIdx (fun g => per q g == per p h) = f := ⟨_, rfl⟩
      have hli := lf_idx (heads p p.length) (heads q q.length) k FT.out (by rw [HM.out]; exact hlt)
      have hmt := mt_lf (p := p) (q := q) (heads p p.length) (heads q q.length) k (by rw [HM.out]; exact hlt)
      have hls := lf_succ (p := p) (q := q) (heads p p.length) (heads q q.length) k (by rw [HM.out]; exact hlt)
      rw [eh, ef] at hli hmt hls
      rw [eg] at hli hmt
      rw [HM.out] at hli
      have hhn : h < n := by rw [← eh, ← lp.out]; exact (head_facts (p := p) (k := k) (by rw [HM.out]; exact hlt)).1
      have Xs : Hid (xAt p q (k + 1) = putc p q h g (xAt p q k) (per p h)) := Lib.hid (by rw [xAt, eh, eg])
      have Per := Lib.hid (per_spec ip.out (x := h) (by rw [lp.out]; exact hhn))
      have Hh := Lib.hid hhn
      obtain ⟨hf1, hf2, hf3⟩ := hli
      have hfM : f < M - k := by omega
      have Ls := Lib.hid hls
      -- the cycle of p
      have hcy : (cycs p).getD k [] = cyc p h := by
        rw [cycs_heads, List.getD_eq_getElem?_getD, List.getElem?_map, List.getElem?_eq_getElem (by rw [HM.out]; exact hlt), ← eh, List.getD_eq_getElem?_getD, List.getElem?_eq_getElem (by rw [HM.out]; exact hlt)]; rfl
      have hfy : ((lf p q (heads p p.length) (heads q q.length) k).map (cyc q)).getD f [] = cyc q g := by
        rw [List.getD_eq_getElem?_getD, List.getElem?_map, List.getElem?_eq_getElem hf1, hmt, List.getD_eq_getElem?_getD, List.getElem?_eq_getElem hf1]; rfl
      obtain ⟨L, eL⟩ : ∃ L, per p h = L := ⟨_, rfl⟩
      have rC := Sc.out.row k hlt
      rw [hcy] at rC
      have cC : wr.cell? ⟨gC, k, none⟩ = some (.slice (vs3.getD k sd0).1 (vs3.getD k sd0).2.1 (vs3.getD k sd0).2.2) := by
        obtain ⟨g', e', _, _, hc'⟩ := Sc.out.at_ (by omega)
        injection e' with e'; injection e' with e'; subst e'
        exact hc' k hlt
      obtain ⟨AC, eAC⟩ : ∃ z, (vs3.getD k sd0).1 = z := ⟨_, rfl⟩
      obtain ⟨cCC, eCC⟩ : ∃ z, (vs3.getD k sd0).2.2 = z := ⟨_, rfl⟩
      have eLC : (vs3.getD k sd0).2.1 = L := by rw [← rC.1, cyc_length, eL]
      rw [eAC, eCC, eLC] at rC cC
      have rF := Sf.out.row f hfM
      rw [hfy] at rF
      have cF : wr.cell? ⟨gF, f, none⟩ = some (.slice (vs.getD f sd0).1 (vs.getD f sd0).2.1 (vs.getD f sd0).2.2) := by
        obtain ⟨g', e', _, _, hc'⟩ := Sf.out.at_ (by omega)
        injection e' with e'; injection e' with e'; subst e'
        exact hc' f hfM
      obtain ⟨AF, eAF⟩ : ∃ z, (vs.getD f sd0).1 = z := ⟨_, rfl⟩
      obtain ⟨cFF, eFF⟩ : ∃ z, (vs.getD f sd0).2.2 = z := ⟨_, rfl⟩
      have eLF : (vs.getD f sd0).2.1 = L := by rw [← rF.1, cyc_length, hf3, eL]
      rw [eAF, eFF, eLF] at rF cF
      have hL1 : 1 ≤ L := by rw [← eL]; exact Per.out.1
      have hL20 : L ≤ 20 := by rw [← eL]; have := Per.out.2.1; rw [lp.out] at this; omega
      have IxL : Hid ((((lf p q (heads p p.length) (heads q q.length) k).map (cyc q)).getD f []).length = L) := Lib.hid (by rw [hfy, cyc_length, hf3, eL])
      have IxN : Hid (∀ j, j < f → (((lf p q (heads p p.length) (heads q q.length) k).map (cyc q)).getD j []).length ≠ L) := Lib.hid (fun j hj => by
        rw [List.getD_eq_getElem?_getD, List.getElem?_map, List.getElem?_eq_getElem (by omega)]
        have := List.not_of_lt_findIdx (show j < (lf p q (heads p p.length) (heads q q.length) k).findIdx (fun g => per q g == per p h) by rw [ef]; exact hj)
        intro e
        have e2 : per q ((lf p q (heads p p.length) (heads q q.length) k)[j]'(by omega)) = L := by simpa [cyc_length] using e
        rw [e2] at this
        simp [eL] at this)
      have RC := Lib.hid rC
      have RF := Lib.hid rF
      have EL := Lib.hid eL
      have hgF : gF < w2.heap.size := gF2
      clear hcy hfy rC rF eL eAC eCC eLC eAF eFF eLF hmt hls eh eg ef hf1 hf3 hhn
      go_wp2_with fail
      refine (idxT (Sf.out.alloc _) L wr.heap.size f AC cCC (by simp) (by rw [World.cell?_alloc_at _ _ _ _ rfl]; rfl) (by omega) hfM IxL.out IxN.out).mono ?_
      rintro e w4 ⟨rfl, qq, hw4⟩
      have c8 : w4.cell? ⟨wr.heap.size, 0, none⟩ = some (.slice AC L cCC) := by rw [hw4]; exact World.cell?_alloc_at _ _ _ _ rfl
      have Z4 : w4.heap.size = wr.heap.size + 1 := by rw [hw4]; simp
      have Row4 : Hid (Row w4 w.heap.size w.heap.size n n (xAt p q k)) := Lib.hid (by rw [hw4]; exact (Rw.out.alloc _).drewN _)
      have Sf4 : Hid (SS w4 w1.heap.size w1.heap.size (some ⟨gF, 0, none⟩) (M - k) c2 vs ((lf p q (heads p p.length) (heads q q.length) k).map (cyc q))) := Lib.hid (by rw [hw4]; exact (Sf.out.alloc _).drewN _)
      have Sc4 : Hid (SS w4 w2.heap.size w2.heap.size (some ⟨gC, 0, none⟩) M c3 vs3 (cycs p)) := Lib.hid (by rw [hw4]; exact (Sc.out.alloc _).drewN _)
      have RC4 : Hid (Slc w4 w2.heap.size AC L cCC (cyc p h)) := Lib.hid (by rw [hw4]; exact (RC.out.alloc _).drewN _)
      have RF4 : Hid (Slc w4 w1.heap.size AF L cFF (cyc q g)) := Lib.hid (by rw [hw4]; exact (RF.out.alloc _).drewN _)
      have Bel4 : Hid (Below w.heap.size w w4) := Lib.hid (by rw [hw4]; exact below_drewN (Bel.out.alloc Bel.out.size _) _)
      have cF4 : Hid (w4.cell? ⟨gF, f, none⟩ = some (.slice AF L cFF)) := Lib.hid (by rw [hw4]; exact (World.cell?_alloc_lt wr _ ⟨gF, f, none⟩ (by show gF < wr.heap.size; omega)).trans cF)
      clear hw4 cF cC Rw Sf Sc RC RF Bel
      go_wp2_with fail
      go_loopg [10, 11, 29] L (fun gg _ _ i wr2 => ∃ j, j ≤ L ∧ L - j ≤ gg ∧ i = .int .i64 (j : Nat) ∧ Row wr2 w.heap.size w.heap.size n n (putc p q h g (xAt p q k) j) ∧ (∀ b, w1.heap.size ≤ b → b < w4.heap.size → wr2.heap[b]? = w4.heap[b]?) ∧ w4.heap.size ≤ wr2.heap.size ∧ Below w.heap.size w wr2)
      case atStart => exact ⟨0, Nat.zero_le _, by omega, rfl, Row4.out, fun _ _ _ => rfl, Nat.le_refl _, Bel4.out⟩
      case round =>
        obtain ⟨j, hj, hgj, rfl, row5, md5, z5, bel5⟩ := hrel
        have Row5 := Lib.hid row5
        have Md5 := Lib.hid md5
        have Bel5 := Lib.hid bel5
        clear row5 md5 bel5
        by_cases hjL : j < L
        · have rc5 := (RC4.out.mid Md5.out (by omega)).ri_
          have rf5 := (RF4.out.mid Md5.out (Nat.le_refl _)).ri_
          obtain ⟨bC, oC, rfl, hbC, hcC⟩ := rc5 (by rw [RC4.out.1]; omega)
          obtain ⟨bF, oF, rfl, hbF, hcF⟩ := rf5 (by rw [RF4.out.1]; omega)
          have cc := hcC j (by rw [RC4.out.1]; exact hjL)
          have cf := hcF j (by rw [RF4.out.1]; exact hjL)
          rw [cyc_getD (by rw [EL.out]; exact hjL)] at cc
          rw [cyc_getD (by have := RF4.out.1; rw [cyc_length] at this; rw [this]; exact hjL)] at cf
          obtain ⟨y, ey⟩ : ∃ y, it p j h = y := ⟨_, rfl⟩
          obtain ⟨z, ez⟩ : ∃ z, it q j g = z := ⟨_, rfl⟩
          have hy : y < n := by rw [← ey, ← lp.out]; exact it_lt ip.out (by rw [lp.out]; exact Hh.out) j
          rw [ey] at cc
          rw [ez] at cf
          have cF5 : wr.cell? ⟨gF, f, none⟩ = some (.slice (some ⟨bF, oF, none⟩) L cFF) := (World.cell?_of_block (Md5.out gF gF1 (by omega))).trans cF4.out
          have c3' := Row5.out.cell hy
          have f3' := Row5.out.free y
          have Ps : Hid (putc p q h g (xAt p q k) (j + 1) = (putc p q h g (xAt p q k) j).set y (z : Int)) := Lib.hid (by rw [putc_succ, ey, ez])
          have Row6 := Lib.hid (Row5.out.store y (z : Int))
          have Bel6 := Lib.hid (Bel5.out.setCell (p := ⟨w.heap.size, y, none⟩) (Nat.le_refl _) (.int .i64 (z : Int)))
          have Md6 : Hid (∀ b, w1.heap.size ≤ b → b < w4.heap.size → (wr.setCell ⟨w.heap.size, y, none⟩ (.int .i64 (z : Int))).heap[b]? = w4.heap[b]?) := Lib.hid fun b h1 h2 => (Below.heap_setCell wr ⟨w.heap.size, y, none⟩ _ b (show b ≠ w.heap.size by omega)).trans (Md5.out b h1 h2)
          clear ey ez hcC hcF
          go_wp2
          go_roundg (L - (j + 1))
          case rel => exact ⟨j + 1, by omega, Nat.le_refl _, by go_num, by rw [Ps.out]; exact Row6.out, Md6.out, by simp [World.setCell]; exact z5, Bel6.out⟩
          case measure => omega
        · have hjl : j = L := by omega
          subst hjl
          have Sf6 := Lib.hid (Sf4.out.mid Md5.out (Nat.le_refl _) (Nat.le_refl _))
          have Sc6 := Lib.hid (Sc4.out.mid (lo := w2.heap.size) (fun b h1 h2 => Md5.out b (by omega) h2) (Nat.le_refl _) (Nat.le_refl _))
          obtain ⟨r, er⟩ : ∃ r, M - k = r + 1 := ⟨M - k - 1, by omega⟩
          have er2 : M - (k + 1) = r := by omega
          rw [er] at Sf6
          have Er := Lib.hid er
          have Er2 := Lib.hid er2
          rw [er]
          have hfr : f ≤ r := by omega
          clear er er2
          go_wp2_with fail
          refine (delT Sf6.out f _ hfr (by omega)).mono ?_
          rintro e w7 ⟨rfl, s7, g7⟩
          have Z7 := g7.size
          have S7 : Hid (SS w7 w1.heap.size w1.heap.size (some ⟨gF, 0, none⟩) r c2 (vs.eraseIdx f) ((lf p q (heads p p.length) (heads q q.length) (k + 1)).map (cyc q))) := Lib.hid (by
            rw [Ls.out]
            have : ((lf p q (heads p p.length) (heads q q.length) k).eraseIdx f).map (cyc q) = ((lf p q (heads p p.length) (heads q q.length) k).map (cyc q)).eraseIdx f := by
              apply List.ext_getElem?
              intro i
              rw [List.getElem?_map, List.getElem?_eraseIdx, List.getElem?_eraseIdx]
              split <;> rw [List.getElem?_map]
            rw [this]; exact s7)
          have C7 : Hid (SS w7 w2.heap.size w2.heap.size (some ⟨gC, 0, none⟩) M c3 vs3 (cycs p)) := Lib.hid (Sc6.out.mid (lo := w2.heap.size) (fun b h1 h2 => g7.block b h2 (fun e => by injection e with e; omega)) (Nat.le_refl _) (Nat.le_refl _))
          have R7 : Hid (Row w7 w.heap.size w.heap.size n n (xAt p q (k + 1))) := Lib.hid (by rw [Xs.out, EL.out]; exact Row5.out.kept g7 (fun e => by injection e with e; omega))
          have Bel7 : Hid (Below w.heap.size w w7) := Lib.hid (Bel5.out.grown g7 Bel5.out.size (fun b e => by injection e with e; omega))
          clear s7 g7
          go_wp2_with fail
          go_roundg (M - (k + 1))
          case rel => exact ⟨k + 1, _, by omega, Nat.le_refl _, by go_num, by rw [Er2.out], R7.out, by rw [Er2.out]; exact S7.out, C7.out, by omega, Bel7.out⟩
          case measure => omega
    · have hkm : k = M := by omega
      subst hkm
      have Fq : Hid (xAt p q k = grL p q) := Lib.hid (by unfold grL; rw [HM.out])
      go_wp2
      go_ret
      exact ⟨_, _, rfl, by rw [← Fq.out]; exact Rw.out.slc, Bel.out⟩
end Go.Proofs.Ytcjcmhoalomjfab

/- CycleType of the model; lists held against each other. No condition but lengths. -/
namespace Go.Proofs.Ytcjcmhoalomjfab
open Go.RowKit

/-- append of one number, with the place of what comes back. -/
theorem wpList_app1_at {w : World} {ops : Array Oper} {rest : List Oper} {o : Oper} {a : Act} {Q : Exit → Act → World → Prop} (hgd : o.guard = none) (s x : Operand)
    (ho : o.op = .call { callee := .builtin .append, args := #[s, x], argTypes := #[22, 22] })
    (base : Nat) (A : Option Addr) (n c : Nat) (xs : List Int) (hs : a.eval s = .slice A n c) (hown : Slc w base A n c xs) (g : Nat) (u : Int) (hx : a.eval x = .slice (some ⟨g, 0, none⟩) 1 1)
    (hcell : w.cell? ⟨g, 0, none⟩ = some (.int .i64 u)) (hn : n ≤ 1000000000000) (hbase : base ≤ w.heap.size)
    (h : ∀ A' c' w', Slc w' base A' (n + 1) c' (xs ++ [u]) → w.grownBy w' (Value.slice A n c).ownBlock → ((Value.slice A' (n + 1) c').ownBlock = (Value.slice A n c).ownBlock ∨ (Value.slice A' (n + 1) c').ownBlock = some w.heap.size) → wpList Try.prog ops Q rest (a.put o.dst (.slice A' (n + 1) c')) w') : wpList Try.prog ops Q (o :: rest) a w := by
  obtain ⟨i0, hi, hz0, hz1, hz2⟩ := info_parts infoI
  obtain ⟨hl, ho'⟩ := hown
  subst hl
  refine wpList_append_own_at w hgd s x 22 ho base 2 i0 (.int .i64 0) 1 8 Try.underlying22 hi hz0 hz1 hz2 rfl (by decide) _ xs.length _ hs ho' ⟨g, 0, none⟩ 1 1 [.int .i64 u] hx rfl ?_ ?_ ?_ (by omega) hbase ?_
  · intro j v hj
    match j, hj with
    | 0, hj => simp at hj; subst hj; simpa [Addr.add] using hcell
    | j + 1, hj => simp at hj
  · intro v hv; simp at hv; subst hv; rfl
  · unfold maxLen; omega
  · intro v' w' hown' hg _ hat
    have hO : Own w' base v' (xs ++ [u]) := by
      unfold Own
      rw [List.length_append, List.map_append]
      exact hown'
    obtain ⟨A', c', rfl, hS⟩ := Slc.of_own (n := xs.length + 1) hO (by simp)
    exact h A' c' w' hS hg hat


set_option maxHeartbeats 1600000 in
/-- The model's CycleType. -/
theorem specCycleType (A : Option Addr) (c n : Nat) (p : List Int) (w : World) (hp : RI w w.heap.size A p) (lp : Hid (p.length = n)) (hn : n ≤ 2097152) (hc : n ≤ c) :
    Calls Try.prog 56 #[.slice A n c] w fun e w' => ∃ A' n' c', e = .returned (.slice A' n' c') ∧ Slc w' w.heap.size A' n' c' (ctypeL p) ∧ n' ≤ 20 ∧ Below w.heap.size w w' := by
  have hp1 : RI (w.alloc (.cells #[] 2)) (w.alloc (.cells #[] 2)).heap.size A p := (hp.alloc (Nat.le_refl _) _).more (by simp)
  rcases hs : isP p with _ | _
  · have Fin : Hid (ctypeL p = []) := Lib.hid (if_neg (by rw [hs]; decide))
    have HP1 := Lib.hid hp1
    clear hp1
    go_enter Try.func56, Try.ntmps56
    go_wp2_with fail
    refine (quiet_below (specIsP A c n p _ HP1.out lp hn hc)).mono ?_
    rintro e w1 ⟨rfl, b1⟩
    have B1 : Hid (Below w.heap.size w w1) := Lib.hid (((Below.refl _ _).alloc (Nat.le_refl _) _).trans (b1.mono (by simp)))
    have S1 : Hid (Slc w1 w.heap.size (some ⟨w.heap.size, 0, none⟩) 0 0 []) := Lib.hid ((Slc.lit0 w _ (Nat.le_refl _)).up b1)
    clear b1
    go_wp2_with fail
    go_ret
    exact ⟨_, _, _, rfl, by rw [Fin.out]; exact S1.out, Nat.zero_le _, B1.out⟩
  · have Ip := Lib.hid (isP_iff.1 hs)
    have Fin : Hid (ctypeL p = desc n (lens p)) := Lib.hid ((if_pos hs).trans (by unfold ctype; rw [lp.out]))
    have hn20 : n ≤ 20 := by rw [← lp.out]; exact Ip.out.le
    have HP1 := Lib.hid hp1
    clear hp1
    go_enter Try.func56, Try.ntmps56
    go_wp2_with fail
    refine (quiet_below (specIsP A c n p _ HP1.out lp hn hc)).mono ?_
    rintro e w0 ⟨rfl, b0⟩
    have B0 : Hid (Below w.heap.size w w0) := Lib.hid (((Below.refl _ _).alloc (Nat.le_refl _) _).trans (b0.mono (by simp)))
    have S0 : Hid (Slc w0 w.heap.size (some ⟨w.heap.size, 0, none⟩) 0 0 []) := Lib.hid ((Slc.lit0 w _ (Nat.le_refl _)).up b0)
    have Z0 : w.heap.size + 1 ≤ w0.heap.size := by have := b0.size; simpa using this
    clear b0
    go_wp2_with fail
    refine (specAll A c n p w0 (hp.up B0.out) lp Ip hn20).mono ?_
    rintro e w1 ⟨A1, M, c1, vs, rfl, s1, hm, b1⟩
    have S1 := Lib.hid s1
    have B1 : Hid (Below w.heap.size w w1) := Lib.hid (btr B0.out b1)
    have S0' := Lib.hid (S0.out.up b1)
    have LM : Hid ((lens p).length = M) := Lib.hid ((lens_len p).trans s1.lx)
    have Lc : Hid ((desc n (lens p)).length ≤ 20) := Lib.hid (by
      have := ctype_len Ip.out
      unfold ctype at this
      rw [lp.out] at this
      rw [this, s1.lx]; omega)
    clear s1 b1
    go_wp2_with fail
    clear hs
    go_loopg [3, 5, 6] n (fun gg v nn _ wr => ∃ k m A' c' xs, k ≤ n ∧ k ≤ gg ∧ nn = .int .i64 (k : Nat) ∧ v = .slice A' m c' ∧ Slc wr w.heap.size A' m c' xs ∧ xs ++ desc k (lens p) = desc n (lens p) ∧
      (∀ b, (Value.slice A' m c').ownBlock = some b → b < w0.heap.size ∨ w1.heap.size ≤ b) ∧ (∀ b, w0.heap.size ≤ b → b < w1.heap.size → wr.heap[b]? = w1.heap[b]?) ∧ w1.heap.size ≤ wr.heap.size ∧ Below w.heap.size w wr)
    case atStart => exact ⟨n, 0, _, _, [], Nat.le_refl _, Nat.le_refl _, rfl, rfl, S0'.out, rfl, fun b hb => by simp [Value.ownBlock] at hb; left; omega, fun b _ _ => rfl, Nat.le_refl _, B1.out⟩
    case round =>
      obtain ⟨k, m, A', c', xs, hk, hgk, rfl, rfl, ss, hcat, ob, md, sz, bel⟩ := hrel
      have hm4 : m ≤ 20 := by have h1 := congrArg List.length hcat; rw [List.length_append, ss.1] at h1; have := Lc.out; omega
      have Ss := Lib.hid ss
      have Cat := Lib.hid hcat
      have Ob := Lib.hid ob
      have Md := Lib.hid md
      have Bel := Lib.hid bel
      clear ss bel ob md hcat
      by_cases hlt : 0 < k
      · obtain ⟨k, rfl⟩ : ∃ j, k = j + 1 := ⟨k - 1, by omega⟩
        go_wp2
        go_loopg [3, 6] M (fun gg v i wr2 => ∃ j m2 A2 c2, j ≤ M ∧ M - j ≤ gg ∧ m2 ≤ m + j ∧ i = .int .i64 (j : Nat) ∧ v = .slice A2 m2 c2 ∧ Slc wr2 w.heap.size A2 m2 c2 (xs ++ List.replicate (((lens p).take j).count (k + 1)) ((k + 1 : Nat) : Int)) ∧
          (∀ b, (Value.slice A2 m2 c2).ownBlock = some b → b < w0.heap.size ∨ w1.heap.size ≤ b) ∧ (∀ b, w0.heap.size ≤ b → b < w1.heap.size → wr2.heap[b]? = w1.heap[b]?) ∧ w1.heap.size ≤ wr2.heap.size ∧ Below w.heap.size w wr2)
        case atStart => exact ⟨0, m, _, _, Nat.zero_le _, by omega, by omega, rfl, rfl, by simpa using Ss.out, Ob.out, Md.out, sz, Bel.out⟩
        case round =>
          obtain ⟨j, m2, A2, c2, hj, hgj, hm2, rfl, rfl, ss2, ob2, md2, sz2, bel2⟩ := hrel
          have Ss2 := Lib.hid ss2
          have Ob2 := Lib.hid ob2
          have Md2 := Lib.hid md2
          have Bel2 := Lib.hid bel2
          have Sr := Lib.hid (S1.out.mid md2 (Nat.le_refl _) (Nat.le_refl _))
          clear ss2 ob2 md2 bel2
          by_cases hjl : j < M
          · obtain ⟨g, rfl, hg1, hg2, hcc⟩ := Sr.out.at_ (by omega)
            have c0 := hcc j hjl
            have hrow := S1.out.row j hjl
            obtain ⟨l, el⟩ : ∃ l, (vs.getD j sd0).2.1 = l := ⟨_, rfl⟩
            obtain ⟨A5, e5⟩ : ∃ A5, (vs.getD j sd0).1 = A5 := ⟨_, rfl⟩
            obtain ⟨c5, ec5⟩ : ∃ c5, (vs.getD j sd0).2.2 = c5 := ⟨_, rfl⟩
            rw [e5, el, ec5] at c0 hrow
            have Lj : Hid ((lens p)[j]'(by rw [LM.out]; exact hjl) = l) := Lib.hid (by
              have := hrow.1
              rw [List.getD_eq_getElem?_getD, List.getElem?_eq_getElem (by rw [S1.out.lx]; exact hjl)] at this
              rw [← this]; simp [lens])
            have hll := (hrow.le).2
            unfold maxLen at hll
            clear hrow el e5 ec5 hcc
            by_cases hle : l = k + 1
            · subst hle
              have Nx : Hid (List.replicate (((lens p).take (j + 1)).count (k + 1)) ((k + 1 : Nat) : Int) = List.replicate (((lens p).take j).count (k + 1)) ((k + 1 : Nat) : Int) ++ [((k + 1 : Nat) : Int)]) := Lib.hid (by
                rw [count_take (by rw [LM.out]; exact hjl) Lj.out, if_pos rfl, List.replicate_succ']; )
              clear Lj
              go_wp2_with (first | (at_builtin; refine wpList_app1_at rfl _ _ rfl w.heap.size A2 m2 c2 _ rfl (Ss2.out.alloc _) wr.heap.size (((k + 1 : Nat) : Int)) rfl (by rw [World.cell?_alloc_at _ _ _ _ rfl]; rfl) (by omega) (by have := Bel2.out.size; simp; omega) ?_; intro A3 c3 w3 ss3 hg3 hat3))
              have Ss3 := Lib.hid ss3
              have Bel3 : Hid (Below w.heap.size w w3) := Lib.hid ((Bel2.out.alloc Bel2.out.size _).grown hg3 (by have := Bel2.out.size; simp; omega) (fun j hj => (Ss2.out.lt_ j hj).1))
              have Hg3 := Lib.hid hg3
              have Hat3 := Lib.hid hat3
              have Sz3 : w1.heap.size ≤ w3.heap.size := by have := hg3.size; simp at this; omega
              clear ss3 hg3 hat3
              go_wp2
              go_roundg (M - (j + 1))
              case rel =>
                refine ⟨j + 1, m2 + 1, A3, c3, by omega, by omega, by omega, by go_num, rfl, by rw [Nx.out, ← List.append_assoc]; exact Ss3.out, fun b hb => ?_, fun b hb1 hb2 => ?_, Sz3, Bel3.out⟩
                · rcases Hat3.out with e | e
                  · exact Ob2.out b (by rw [← e]; exact hb)
                  · rw [e] at hb; injection hb with hb; simp at hb; right; omega
                · rw [Hg3.out.block b (by simp; omega) (fun e => by have := Ob2.out b e.symm; omega), Below.heap_alloc _ _ _ (by omega)]
                  exact Md2.out b hb1 hb2
              case measure => omega
            · have Nx : Hid (((lens p).take (j + 1)).count (k + 1) = ((lens p).take j).count (k + 1)) := Lib.hid (by
                rw [count_take (by rw [LM.out]; exact hjl) Lj.out, if_neg hle]; rfl)
              clear Lj
              have hne : ((l : Int) == ((k + 1 : Nat) : Int)) = false := by rw [beq_eq_false_iff_ne]; omega
              go_wp2
              go_roundg (M - (j + 1))
              case rel => exact ⟨j + 1, m2, A2, c2, by omega, by omega, by omega, by go_num, rfl, by rw [Nx.out]; exact Ss2.out, Ob2.out, Md2.out, sz2, Bel2.out⟩
              case measure => omega
          · have hjM : j = M := by omega
            subst hjM
            have Fk : Hid ((lens p).take j = lens p) := Lib.hid (List.take_of_length_le (by rw [LM.out]; exact Nat.le_refl _))
            go_wp2
            go_roundg k
            case rel => exact ⟨k, m2, A2, c2, _, by omega, Nat.le_refl _, by go_num, rfl, Ss2.out, by rw [Fk.out, List.append_assoc]; exact Cat.out, Ob2.out, Md2.out, sz2, Bel2.out⟩
            case measure => omega
      · obtain rfl : k = 0 := by omega
        have Fq : Hid (xs = ctypeL p) := Lib.hid (by have := Cat.out; rw [desc, List.append_nil] at this; rw [this, Fin.out])
        go_wp2
        go_ret
        exact ⟨_, _, _, rfl, by rw [← Fq.out]; exact Ss.out, hm4, Bel.out⟩

set_option maxHeartbeats 400000 in
theorem equalIs_core (A B : Option Addr) (c d n : Nat) (xs ys : List Int) (w : World) (hx : RI w w.heap.size A xs) (hy : RI w w.heap.size B ys) (lx : Hid (xs.length = n)) (ly : Hid (ys.length = n)) (hn : n ≤ 2097152) :
    Calls Try.prog 55 #[.slice A n c, .slice B n d] w fun e w' => e = .returned (.bool (decide (xs = ys))) ∧ ∃ m, w' = w.drewN m := by
  go_enter Try.func55, Try.ntmps55
  go_wp2
  go_loopw [5] (fun i wr => ∃ k : Nat, k ≤ n ∧ i = .int .i64 k ∧ (∀ j, j < k → xs.getD j 0 = ys.getD j 0) ∧ ∃ m, wr = w.drewN m) (fun i _ => n - (intOf i).toNat)
  case atStart => exact ⟨0, Nat.zero_le _, rfl, fun j h => absurd h (by omega), 0, rfl⟩
  case round =>
    obtain ⟨k, hk, rfl, heq, m, rfl⟩ := hrel
    have Heq := Lib.hid heq
    clear heq
    by_cases hlt : k < n
    · obtain ⟨b, off, rfl, hb, hc⟩ := hx (by rw [lx.out]; omega)
      obtain ⟨b', off', rfl, hb', hc'⟩ := hy (by rw [ly.out]; omega)
      have c1 := hc k (by rw [lx.out]; omega)
      have c2 := hc' k (by rw [ly.out]; omega)
      obtain ⟨x, ex⟩ : ∃ x, xs.getD k 0 = x := ⟨_, rfl⟩
      obtain ⟨y, ey⟩ : ∃ y, ys.getD k 0 = y := ⟨_, rfl⟩
      rw [ex] at c1
      rw [ey] at c2
      have Ex := Lib.hid ex
      have Ey := Lib.hid ey
      clear ex ey hc hc' hx hy
      have p1 : (0 : Int) ≤ k := by omega
      have p2 : (k : Int) < n := by omega
      by_cases hxy : x = y
      · subst hxy
        go_wp2
        go_quiet (fail)
        go_wp2
        go_roundw
        case rel => exact ⟨k + 1, by omega, by go_num, fun j hj => by
          by_cases e : j = k
          · subst e; rw [Ex.out, Ey.out]
          · exact Heq.out j (by omega), _, rfl⟩
        case measure => simp [intOf]; omega
      · have hd : (x != y) = true := by simpa using hxy
        have hd' : (x == y) = false := by simpa using hxy
        go_wp2
        go_quiet (fail)
        go_wp2
        go_ret
        refine ⟨ret_bool (Eq.symm (decide_eq_false fun e => hxy ?_)), _, World.drewN_drewN _ _ _⟩
        rw [← Ex.out, ← Ey.out, e]
    · go_wp2
      go_ret
      have : k = n := by omega
      subst this
      exact ⟨ret_bool (Eq.symm (decide_eq_true (ext_getD lx.out ly.out Heq.out))), _, rfl⟩
theorem equalIs (A B : Option Addr) (c d n m : Nat) (xs ys : List Int) (w : World) (hx : RI w w.heap.size A xs) (hy : RI w w.heap.size B ys) (lx : Hid (xs.length = n)) (ly : Hid (ys.length = m)) (hn : n ≤ 2097152) (hm : m ≤ 2097152) :
    Calls Try.prog 55 #[.slice A n c, .slice B m d] w fun e w' => e = .returned (.bool (decide (xs = ys))) ∧ ∃ m, w' = w.drewN m := by
  by_cases hl : n = m
  · subst hl
    exact equalIs_core A B c d n xs ys w hx hy lx ly hn
  · have hd : ((n : Int) != (m : Int)) = true := by rw [bne_iff_ne]; omega
    have hd' : ((n : Int) == (m : Int)) = false := by rw [beq_eq_false_iff_ne]; omega
    go_enter Try.func55, Try.ntmps55
    go_wp2
    go_ret
    refine ⟨ret_bool (Eq.symm (decide_eq_false fun e => hl ?_)), 0, rfl⟩
    rw [← lx.out, ← ly.out, e]


end Go.Proofs.Ytcjcmhoalomjfab
