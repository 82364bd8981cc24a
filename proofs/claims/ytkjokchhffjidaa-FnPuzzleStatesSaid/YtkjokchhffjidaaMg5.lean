/- Part 5 of the texts: SrcA, SSr, DrawG, PzE, PzH, WalkA9, PgA, EqI, PzC, SEq, Txt, Cur, PgB, Arg, ArgP, EqP. No condition of its own: each text tells its own. -/
import Derived.Test.YtkjokchhffjidaaMg3
import Derived.Test.YtkjokchhffjidaaMg1
import Derived.Test.YtkjokchhffjidaaMg2
import Derived.Test.YtkjokchhffjidaaMg4
import Derived.Deep.CutRange
import Derived.Deep.LoopGhost
import Derived.Lib.Bytealg
import Derived.BigQuiet
import Derived.WalkSpells
import Derived.Deep.RegionWith
import Derived.Lib.ConvBytes
import Derived.ChangeArms
import Derived.ProofKit
import Derived.OpenShut
import Derived.ChangeSlices
set_option linter.unusedVariables false
set_option linter.unusedSimpArgs false

/- The model's draws of any permutation. Condition: degrees from 1 to 20. -/
namespace Go.Proofs.Ytkjokchhffjidaa
open Go.RowKit

/-- A literal row of numbers, read later. -/
theorem lit_at {w w1 : World} {g : Nat} {cs : Array Value} {r : Nat} (hg : g < w.heap.size) (hb : (w.alloc (.cells cs 2)).grownBy w1 (some g)) (hr : r < cs.size) (hall : ∀ (i : Nat) (h : i < cs.size), ∃ z : Int, cs[i] = .int .i64 z) : ∃ z : Int, w1.cell? ⟨w.heap.size, r, none⟩ = some (.int .i64 z) := by
  obtain ⟨z, hz⟩ := hall r hr
  refine ⟨z, ?_⟩
  rw [World.cell?_of_block (hb.block w.heap.size (by simp) (by intro e; injection e with e; omega)), World.cell?_alloc_at _ _ _ _ rfl]
  show cs[r]? = _
  rw [Array.getElem?_eq_getElem hr, hz]

set_option maxHeartbeats 1600000 in
theorem srcExtreme (g : Nat) (w : World) (hs : Src w g) :
    Calls Try.prog 80 #[.pointer (some ⟨g, 0, none⟩)] w fun e w' => ∃ z : Int, e = .returned (.int .i64 z) ∧ Src w' g ∧ w.grownBy w' (some g) := by
  have hg := hs.lt
  have Hs := Lib.hid hs
  clear hs
  go_enter Try.func80, Try.ntmps80
  go_wp2_with fail
  refine (srcBelow g _ 10 _ (Hs.out.below ((Below.refl w.heap.size w).alloc (Nat.le_refl _) _) hg) rfl (by omega) (by omega)).mono ?_
  rintro e w1 ⟨r, hr, rfl, s1, g1⟩
  have S1 := Lib.hid s1
  have G1 : Hid (w.grownBy w1 (some g)) := Lib.hid (grown_trans' (grown_alloc2 (grown_refl _ _) _) g1)
  obtain ⟨z, hz⟩ := lit_at (r := r) hg g1 hr (by
    intro i h
    have h : i < 10 := h
    rcases i with _ | _ | _ | _ | _ | _ | _ | _ | _ | _ | i
    all_goals first | exact ⟨_, rfl⟩ | omega)
  have p0 : (0 : Int) ≤ r := by omega
  have p1 : (r : Int) < 10 := by omega
  clear s1 g1
  go_wp2_with fail
  go_ret
  exact ⟨z, rfl, S1.out, G1.out⟩

set_option maxHeartbeats 1600000 in
theorem srcNumber (g n : Nat) (w : World) (hs : Src w g) (h1 : 1 ≤ n) (hn : n ≤ 100) :
    Calls Try.prog 100 #[.pointer (some ⟨g, 0, none⟩), .int .i64 (n : Int)] w fun e w' => ∃ z : Int, e = .returned (.int .i64 z) ∧ Src w' g ∧ w.grownBy w' (some g) := by
  go_enter Try.func100, Try.ntmps100
  go_wp2_with fail
  refine (srcOne g _ 10 w hs rfl (by omega) (by omega)).mono ?_
  rintro e w1 ⟨b, rfl, s1, g1⟩
  have S1 := Lib.hid s1
  have G1 := Lib.hid g1
  clear s1 g1
  cases b
  · go_wp2_with fail
    refine (srcOne g _ 2 w1 S1.out rfl (by omega) (by omega)).mono ?_
    rintro e w2 ⟨b, rfl, s2, g2⟩
    have S2 := Lib.hid s2
    have G2 : Hid (w.grownBy w2 (some g)) := Lib.hid (grown_trans' G1.out g2)
    clear s2 g2
    cases b
    · go_wp2_with fail
      refine (srcBelow g _ (n + 1) w2 S2.out (by omega) (by omega) (by omega)).mono ?_
      rintro e w3 ⟨r, hr, rfl, s3, g3⟩
      have S3 := Lib.hid s3
      have G3 : Hid (w.grownBy w3 (some g)) := Lib.hid (grown_trans' G2.out g3)
      clear s3 g3
      go_wp2_with fail
      go_ret
      exact ⟨r, rfl, S3.out, G3.out⟩
    · by_cases h4 : n ≤ 4
      · have hm : (min (n : Int) 4) = (n : Int) := by omega
        have d4 : decide ((n : Int) ≤ 4) = true := by simp; omega
        go_wp2_with fail
        refine (srcBelow g _ (n + 1) w2 S2.out (by omega) (by omega) (by omega)).mono ?_
        rintro e w3 ⟨r, hr, rfl, s3, g3⟩
        have S3 := Lib.hid s3
        have G3 : Hid (w.grownBy w3 (some g)) := Lib.hid (grown_trans' G2.out g3)
        clear s3 g3
        go_wp2_with fail
        go_ret
        exact ⟨r, rfl, S3.out, G3.out⟩
      · have hm : (min (n : Int) 4) = 4 := by omega
        have d4 : decide ((n : Int) ≤ 4) = false := by simp; omega
        go_wp2_with fail
        refine (srcBelow g _ (5) w2 S2.out (by omega) (by omega) (by omega)).mono ?_
        rintro e w3 ⟨r, hr, rfl, s3, g3⟩
        have S3 := Lib.hid s3
        have G3 : Hid (w.grownBy w3 (some g)) := Lib.hid (grown_trans' G2.out g3)
        clear s3 g3
        go_wp2_with fail
        go_ret
        exact ⟨r, rfl, S3.out, G3.out⟩
  · go_wp2_with fail
    refine (srcExtreme g w1 S1.out).mono ?_
    rintro e w2 ⟨z, rfl, s2, g2⟩
    have S2 := Lib.hid s2
    have hg2 := s2.lt
    have G2 : Hid (w.grownBy w2 (some g)) := Lib.hid (grown_trans' G1.out g2)
    clear s2 g2
    go_wp2_with fail
    refine (srcBelow g _ 4 _ (S2.out.below ((Below.refl w2.heap.size w2).alloc (Nat.le_refl _) _) hg2) rfl (by omega) (by omega)).mono ?_
    rintro e w3 ⟨r, hr, rfl, s3, g3⟩
    have S3 := Lib.hid s3
    have G3 : Hid (w.grownBy w3 (some g)) := Lib.hid (grown_trans' (grown_alloc2 G2.out _) g3)
    obtain ⟨y, hy⟩ := lit_at (r := r) hg2 g3 hr (by
      intro i h
      have h : i < 4 := h
      rcases i with _ | _ | _ | _ | i
      all_goals first | exact ⟨_, rfl⟩ | omega)
    have p0 : (0 : Int) ≤ r := by omega
    have p1 : (r : Int) < 4 := by omega
    clear s3 g3
    go_wp2_with fail
    go_ret
    exact ⟨y, rfl, S3.out, G3.out⟩

/-- What can be read: m numbers, in a block from base on. -/
def Pm (w : World) (base : Nat) (A : Option Addr) (m c : Nat) (xs : List Int) : Prop :=
  xs.length = m ∧ m ≤ c ∧ (0 < m → ∃ b off, A = some ⟨b, off, none⟩ ∧ base ≤ b ∧ b < w.heap.size ∧ ∀ j, j < m → w.cell? ⟨b, off + j, none⟩ = some (.int .i64 (xs.getD j 0)))
theorem Pm.of_slc {w : World} {base n c : Nat} {A : Option Addr} {xs : List Int} (h : Slc w base A n c xs) : Pm w base A n c xs := by
  refine ⟨h.1, h.le.1, fun hp => ?_⟩
  have hri := h.ri_
  obtain ⟨b, o, e, hb, hc⟩ := hri (by rw [h.1]; exact hp)
  refine ⟨b, o, e, (h.lt_ b (by subst e; rfl)).1, hb, fun j hj => hc j (by rw [h.1]; exact hj)⟩
theorem Pm.ri {w : World} {base n c : Nat} {A : Option Addr} {xs : List Int} (h : Pm w base A n c xs) : RI w w.heap.size A xs := fun hp => by
  obtain ⟨b, o, e, h1, h2, hc⟩ := h.2.2 (by rw [← h.1]; exact hp)
  exact ⟨b, o, e, h2, fun j hj => hc j (by rw [← h.1]; exact hj)⟩
theorem Pm.gro {w w' : World} {base n c g : Nat} {A : Option Addr} {xs : List Int} (h : Pm w base A n c xs) (hg : w.grownBy w' (some g)) (hb : g < base) : Pm w' base A n c xs := by
  refine ⟨h.1, h.2.1, fun hp => ?_⟩
  obtain ⟨b, o, e, h1, h2, hc⟩ := h.2.2 hp
  exact ⟨b, o, e, h1, Nat.lt_of_lt_of_le h2 hg.size, fun j hj => (World.cell?_of_block (a := ⟨b, o + j, none⟩) (hg.block b h2 (by intro e2; injection e2 with e2; omega))).trans (hc j hj)⟩
theorem Pm.up {w w' : World} {base n c : Nat} {A : Option Addr} {xs : List Int} (h : Pm w base A n c xs) (hb : Below w.heap.size w w') : Pm w' base A n c xs := by
  refine ⟨h.1, h.2.1, fun hp => ?_⟩
  obtain ⟨b, o, e, h1, h2, hc⟩ := h.2.2 hp
  exact ⟨b, o, e, h1, Nat.lt_of_lt_of_le h2 hb.size, fun j hj => (hb.cell (p := ⟨b, o + j, none⟩) h2).trans (hc j hj)⟩
theorem Pm.mono {w : World} {base base' n c : Nat} {A : Option Addr} {xs : List Int} (h : Pm w base A n c xs) (hb : base' ≤ base) : Pm w base' A n c xs := by
  refine ⟨h.1, h.2.1, fun hp => ?_⟩
  obtain ⟨b, o, e, h1, h2, hc⟩ := h.2.2 hp
  exact ⟨b, o, e, by omega, h2, hc⟩
theorem Pm.tail {w : World} {base n c q : Nat} {xs : List Int} (h : Slc w base (some ⟨q, 0, none⟩) n c xs) {A : Option Addr} (hA : 1 < n → A = some ⟨q, 1, none⟩) : Pm w base A (n - 1) (c - 1) (xs.drop 1) := by
  refine ⟨by rw [List.length_drop, h.1], by have := h.le.1; omega, fun hp => ?_⟩
  have hri : RI w w.heap.size (some ⟨q, 0, none⟩) xs := h.ri_
  have lx := h.1
  refine ⟨q, 1, hA (by omega), (h.lt_ q rfl).1, (h.lt_ q rfl).2, fun j hj => ?_⟩
  have := (hri.cellAt (j := 1 + j) (by omega)).2
  rw [Nat.zero_add] at this
  rw [this, List.getD_eq_getElem?_getD, List.getD_eq_getElem?_getD, List.getElem?_drop]

theorem grown_below3 {w w1 w' : World} {row : Option Nat} (h : w.grownBy w1 row) (b : Below w.heap.size w1 w') : w.grownBy w' row :=
  ⟨b.os.trans h.os, b.tape.trans h.tape, b.output.trans h.output, Nat.le_trans h.size b.size, fun k hk hn => (b.block k hk).trans (h.block k hk hn)⟩
theorem drawPermK (g n : Nat) (N : Int) (w : World) (hs : Src w g) (hN : N = (n : Int)) (hn : n ≤ 100) :
    Calls Try.prog 121 #[.pointer (some ⟨g, 0, none⟩), .int .i64 N] w fun e w' => ∃ q c xs, e = .returned (.slice (some ⟨q, 0, none⟩) n c) ∧ Slc w' w.heap.size (some ⟨q, 0, none⟩) n c xs ∧ Src w' g ∧ w.grownBy w' (some g) := by
  subst hN; exact drawPerm g n w hs hn
theorem grown_far {w w1 : World} {g q : Nat} (h : w.grownBy w1 (some g)) (hq : w.heap.size ≤ q) (j : Nat) (u : Value) : w.grownBy (w1.setCell ⟨q, j, none⟩ u) (some g) :=
  ⟨h.os, h.tape, h.output, by simpa [World.setCell] using h.size, fun k hk hn => (Below.heap_setCell w1 _ u k (by show k ≠ q; omega)).trans (h.block k hk hn)⟩

set_option maxHeartbeats 4000000 in
theorem drawAny (g n : Nat) (w : World) (hs : Src w g) (h1 : 1 ≤ n) (hn : n ≤ 20) :
    Calls Try.prog 101 #[.pointer (some ⟨g, 0, none⟩), .int .i64 (n : Int)] w fun e w' => ∃ A m c xs, e = .returned (.slice A m c) ∧ Pm w' w.heap.size A m c xs ∧ m ≤ 21 ∧ Src w' g ∧ w.grownBy w' (some g) := by
  have hg := hs.lt
  go_enter Try.func101, Try.ntmps101
  go_wp2_with fail
  refine (drawPerm g n w hs (by omega)).mono ?_
  rintro e w1 ⟨q, c, xs, rfl, sl1, s1, g1⟩
  have Sl1 := Lib.hid sl1
  have S1 := Lib.hid s1
  have G1 := Lib.hid g1
  have hq := (sl1.lt_ q rfl).1
  have hnc := sl1.le.1
  clear sl1 s1 g1
  go_wp2_with fail
  refine (srcOne g _ 12 w1 S1.out rfl (by omega) (by omega)).mono ?_
  rintro e w2 ⟨b2, rfl, s2, g2⟩
  have S2 := Lib.hid s2
  have G2 : Hid (w.grownBy w2 (some g)) := Lib.hid (grown_trans' G1.out g2)
  have Sl2 : Hid (Slc w2 w.heap.size (some ⟨q, 0, none⟩) n c xs) := Lib.hid (Sl1.out.kept g2 (.inr (by intro e; simp [Value.ownBlock] at e; omega)))
  clear s2 g2
  have hn0 : 0 < n := by omega
  cases b2
  · have S4 := S2
    have G4 := G2
    have P4 := Lib.hid (Pm.of_slc Sl2.out)
    have hm4 : n ≤ 21 := by omega
    go_wp2_with fail
    refine (srcOne g _ 60 _ S4.out rfl (by omega) (by omega)).mono ?_
    rintro e w5 ⟨b5, rfl, s5, g5⟩
    have S5 := Lib.hid s5
    have G5 : Hid (w.grownBy w5 (some g)) := Lib.hid (grown_trans' G4.out g5)
    have P5 := Lib.hid (P4.out.gro g5 hg)
    clear s5 g5
    cases b5
    · go_wp2_with fail
      go_ret
      exact ⟨_, _, _, _, rfl, P5.out, hm4, S5.out, G5.out⟩
    · go_wp2_with fail
      refine (srcBelow g _ 2 w5 S5.out rfl (by omega) (by omega)).mono ?_
      rintro e w6 ⟨r6, hr6, rfl, s6, g6⟩
      have S6 := Lib.hid s6
      have G6 : Hid (w.grownBy w6 (some g)) := Lib.hid (grown_trans' G5.out g6)
      clear s6 g6
      go_wp2_with fail
      refine (drawPermK g (20 + r6) _ w6 S6.out (by push_cast; rfl) (by omega)).mono ?_
      rintro e w7 ⟨q7, c7, xs7, rfl, sl7, s7, g7⟩
      have S7 := Lib.hid s7
      have G7 : Hid (w.grownBy w7 (some g)) := Lib.hid (grown_trans' G6.out g7)
      have P7 : Hid (Pm w7 w.heap.size (some ⟨q7, 0, none⟩) (20 + r6) c7 xs7) := Lib.hid ((Pm.of_slc sl7).mono G6.out.size)
      clear s7 g7 sl7
      go_wp2_with fail
      go_ret
      exact ⟨_, _, _, _, rfl, P7.out, by omega, S7.out, G7.out⟩
  · go_wp2_with fail
    refine (srcBelow g _ 3 w2 S2.out rfl (by omega) (by omega)).mono ?_
    rintro e w3 ⟨r3, hr3, rfl, s3, g3⟩
    have S3 := Lib.hid s3
    have G3 : Hid (w.grownBy w3 (some g)) := Lib.hid (grown_trans' G2.out g3)
    have Sl3 : Hid (Slc w3 w.heap.size (some ⟨q, 0, none⟩) n c xs) := Lib.hid (Sl2.out.kept g3 (.inr (by intro e; simp [Value.ownBlock] at e; omega)))
    clear s3 g3
    obtain rfl | rfl | rfl : r3 = 0 ∨ r3 = 1 ∨ r3 = 2 := by omega
    · go_wp2_with fail
      refine (srcBelow g _ n w3 S3.out rfl (by omega) (by omega)).mono ?_
      rintro e w8 ⟨i, hi, rfl, s8, g8⟩
      have S8 := Lib.hid s8
      have G8 : Hid (w.grownBy w8 (some g)) := Lib.hid (grown_trans' G3.out g8)
      have Sl8 : Hid (Slc w8 w.heap.size (some ⟨q, 0, none⟩) n c xs) := Lib.hid (Sl3.out.kept g8 (.inr (by intro e; simp [Value.ownBlock] at e; omega)))
      clear s8 g8
      go_wp2_with fail
      refine (srcNumber g n w8 S8.out h1 (by omega)).mono ?_
      rintro e w9 ⟨z, rfl, s9, g9⟩
      have row : Row w9 w.heap.size q n c xs := Row.of_own (by have := (Sl8.out.kept g9 (.inr (by intro e; simp [Value.ownBlock] at e; omega))); have h2 := this.2; rw [← this.1] at h2; rw [this.1] at h2; exact h2)
      have c9 := row.cell hi
      have f9 := row.free i
      have p0 : (0 : Int) ≤ i := by omega
      have p1 : (i : Int) < n := by omega
      have P4 := Lib.hid (Pm.of_slc (row.store i z).slc)
      have S4 : Hid (Src (w9.setCell ⟨q, i, none⟩ (.int .i64 z)) g) := Lib.hid (s9.below ((Below.refl (g + 1) w9).setCell (by show g + 1 ≤ q; omega) _) (by omega))
      have G4 : Hid (w.grownBy (w9.setCell ⟨q, i, none⟩ (.int .i64 z)) (some g)) := Lib.hid (grown_far (grown_trans' G8.out g9) hq _ _)
      have hm4 : n ≤ 21 := by omega
      clear s9 g9 row
      go_wp2_with fail
      refine (srcOne g _ 60 _ S4.out rfl (by omega) (by omega)).mono ?_
      rintro e w5 ⟨b5, rfl, s5, g5⟩
      have S5 := Lib.hid s5
      have G5 : Hid (w.grownBy w5 (some g)) := Lib.hid (grown_trans' G4.out g5)
      have P5 := Lib.hid (P4.out.gro g5 hg)
      clear s5 g5
      cases b5
      · go_wp2_with fail
        go_ret
        exact ⟨_, _, _, _, rfl, P5.out, hm4, S5.out, G5.out⟩
      · go_wp2_with fail
        refine (srcBelow g _ 2 w5 S5.out rfl (by omega) (by omega)).mono ?_
        rintro e w6 ⟨r6, hr6, rfl, s6, g6⟩
        have S6 := Lib.hid s6
        have G6 : Hid (w.grownBy w6 (some g)) := Lib.hid (grown_trans' G5.out g6)
        clear s6 g6
        go_wp2_with fail
        refine (drawPermK g (20 + r6) _ w6 S6.out (by push_cast; rfl) (by omega)).mono ?_
        rintro e w7 ⟨q7, c7, xs7, rfl, sl7, s7, g7⟩
        have S7 := Lib.hid s7
        have G7 : Hid (w.grownBy w7 (some g)) := Lib.hid (grown_trans' G6.out g7)
        have P7 : Hid (Pm w7 w.heap.size (some ⟨q7, 0, none⟩) (20 + r6) c7 xs7) := Lib.hid ((Pm.of_slc sl7).mono G6.out.size)
        clear s7 g7 sl7
        go_wp2_with fail
        go_ret
        exact ⟨_, _, _, _, rfl, P7.out, by omega, S7.out, G7.out⟩
    · have p1 : (1 : Int) ≤ n := by omega
      have p2 : (1 : Int) ≤ c := by omega
      have S4 := S3
      have G4 := G3
      have hm4 : n - 1 ≤ 21 := by omega
      by_cases hc1 : c = 1
      · have P4 : Hid (Pm w3 w.heap.size (some ⟨q, 0, none⟩) (n - 1) 0 (xs.drop 1)) := Lib.hid (by have := Pm.tail (A := some ⟨q, 0, none⟩) Sl3.out (fun h => by omega); rw [show c - 1 = 0 by omega] at this; exact this)
        go_wp2_with fail
        refine (srcOne g _ 60 _ S4.out rfl (by omega) (by omega)).mono ?_
        rintro e w5 ⟨b5, rfl, s5, g5⟩
        have S5 := Lib.hid s5
        have G5 : Hid (w.grownBy w5 (some g)) := Lib.hid (grown_trans' G4.out g5)
        have P5 := Lib.hid (P4.out.gro g5 hg)
        clear s5 g5
        cases b5
        · go_wp2_with fail
          go_ret
          exact ⟨_, _, _, _, rfl, P5.out, hm4, S5.out, G5.out⟩
        · go_wp2_with fail
          refine (srcBelow g _ 2 w5 S5.out rfl (by omega) (by omega)).mono ?_
          rintro e w6 ⟨r6, hr6, rfl, s6, g6⟩
          have S6 := Lib.hid s6
          have G6 : Hid (w.grownBy w6 (some g)) := Lib.hid (grown_trans' G5.out g6)
          clear s6 g6
          go_wp2_with fail
          refine (drawPermK g (20 + r6) _ w6 S6.out (by push_cast; rfl) (by omega)).mono ?_
          rintro e w7 ⟨q7, c7, xs7, rfl, sl7, s7, g7⟩
          have S7 := Lib.hid s7
          have G7 : Hid (w.grownBy w7 (some g)) := Lib.hid (grown_trans' G6.out g7)
          have P7 : Hid (Pm w7 w.heap.size (some ⟨q7, 0, none⟩) (20 + r6) c7 xs7) := Lib.hid ((Pm.of_slc sl7).mono G6.out.size)
          clear s7 g7 sl7
          go_wp2_with fail
          go_ret
          exact ⟨_, _, _, _, rfl, P7.out, by omega, S7.out, G7.out⟩
      · have P4 : Hid (Pm w3 w.heap.size (some ⟨q, 1, none⟩) (n - 1) (c - 1) (xs.drop 1)) := Lib.hid (Pm.tail Sl3.out (fun _ => rfl))
        go_wp2_with fail
        refine (srcOne g _ 60 _ S4.out rfl (by omega) (by omega)).mono ?_
        rintro e w5 ⟨b5, rfl, s5, g5⟩
        have S5 := Lib.hid s5
        have G5 : Hid (w.grownBy w5 (some g)) := Lib.hid (grown_trans' G4.out g5)
        have P5 := Lib.hid (P4.out.gro g5 hg)
        clear s5 g5
        cases b5
        · go_wp2_with fail
          go_ret
          exact ⟨_, _, _, _, rfl, P5.out, hm4, S5.out, G5.out⟩
        · go_wp2_with fail
          refine (srcBelow g _ 2 w5 S5.out rfl (by omega) (by omega)).mono ?_
          rintro e w6 ⟨r6, hr6, rfl, s6, g6⟩
          have S6 := Lib.hid s6
          have G6 : Hid (w.grownBy w6 (some g)) := Lib.hid (grown_trans' G5.out g6)
          clear s6 g6
          go_wp2_with fail
          refine (drawPermK g (20 + r6) _ w6 S6.out (by push_cast; rfl) (by omega)).mono ?_
          rintro e w7 ⟨q7, c7, xs7, rfl, sl7, s7, g7⟩
          have S7 := Lib.hid s7
          have G7 : Hid (w.grownBy w7 (some g)) := Lib.hid (grown_trans' G6.out g7)
          have P7 : Hid (Pm w7 w.heap.size (some ⟨q7, 0, none⟩) (20 + r6) c7 xs7) := Lib.hid ((Pm.of_slc sl7).mono G6.out.size)
          clear s7 g7 sl7
          go_wp2_with fail
          go_ret
          exact ⟨_, _, _, _, rfl, P7.out, by omega, S7.out, G7.out⟩
    · have hz := G3.out.size
      go_wp2_with (first | (at_builtin; refine wpList_app1 rfl _ _ rfl w.heap.size (some ⟨q, 0, none⟩) n c _ rfl (Sl3.out.alloc _) w3.heap.size (n : Int) rfl (by rw [World.cell?_alloc_at _ _ _ _ rfl]; rfl) (by omega) (by simp; omega) ?_; intro A4 c4 w4 s4 g4))
      have P4 := Lib.hid (Pm.of_slc s4)
      have B4 : Below w.heap.size w3 w4 := ((Below.refl _ w3).alloc hz _).grown g4 (by simp; omega) (fun j hj => (Sl3.out.lt_ j hj).1)
      have S4 : Hid (Src w4 g) := Lib.hid (S3.out.below B4 hg)
      have G4 : Hid (w.grownBy w4 (some g)) := Lib.hid (grown_below3 G3.out B4)
      have hm4 : n + 1 ≤ 21 := by omega
      clear s4 g4 B4
      go_wp2_with fail
      refine (srcOne g _ 60 _ S4.out rfl (by omega) (by omega)).mono ?_
      rintro e w5 ⟨b5, rfl, s5, g5⟩
      have S5 := Lib.hid s5
      have G5 : Hid (w.grownBy w5 (some g)) := Lib.hid (grown_trans' G4.out g5)
      have P5 := Lib.hid (P4.out.gro g5 hg)
      clear s5 g5
      cases b5
      · go_wp2_with fail
        go_ret
        exact ⟨_, _, _, _, rfl, P5.out, hm4, S5.out, G5.out⟩
      · go_wp2_with fail
        refine (srcBelow g _ 2 w5 S5.out rfl (by omega) (by omega)).mono ?_
        rintro e w6 ⟨r6, hr6, rfl, s6, g6⟩
        have S6 := Lib.hid s6
        have G6 : Hid (w.grownBy w6 (some g)) := Lib.hid (grown_trans' G5.out g6)
        clear s6 g6
        go_wp2_with fail
        refine (drawPermK g (20 + r6) _ w6 S6.out (by push_cast; rfl) (by omega)).mono ?_
        rintro e w7 ⟨q7, c7, xs7, rfl, sl7, s7, g7⟩
        have S7 := Lib.hid s7
        have G7 : Hid (w.grownBy w7 (some g)) := Lib.hid (grown_trans' G6.out g7)
        have P7 : Hid (Pm w7 w.heap.size (some ⟨q7, 0, none⟩) (20 + r6) c7 xs7) := Lib.hid ((Pm.of_slc sl7).mono G6.out.size)
        clear s7 g7 sl7
        go_wp2_with fail
        go_ret
        exact ⟨_, _, _, _, rfl, P7.out, by omega, S7.out, G7.out⟩
end Go.Proofs.Ytkjokchhffjidaa

/- A slice of slices is kept where a block turned that is none of its own. No condition. -/
namespace Go.Proofs.Ytkjokchhffjidaa
open Go.RowKit

section
variable {w w' : World} {base n c : Nat} {A : Option Addr} {vs : List SV} {xss : List (List Int)}
/-- Kept where a block turned that is none of its own. -/
theorem SS.farR {r lo hi : Nat} (h : SS w base base A n c vs xss) (hg : w.grownBy w' (some r)) (hA : ∀ k, (Value.slice A n c).ownBlock = some k → lo ≤ k ∧ k < hi) (hI : ∀ i, i < n → ∀ k, (sval (vs.getD i sd0)).ownBlock = some k → lo ≤ k ∧ k < hi) (hr : r < lo ∨ hi ≤ r) : SS w' base base A n c vs xss := by
  have ne : ∀ (v : Value), (∀ k, v.ownBlock = some k → lo ≤ k ∧ k < hi) → v.ownBlock = none ∨ v.ownBlock ≠ some r := fun v hv => by
    rcases e : v.ownBlock with _ | k
    · exact .inl rfl
    · exact .inr fun e2 => by injection e2 with e2; have := hv k e; omega
  exact ⟨World.ownsRow.kept h.own hg (ne _ hA), h.lv, h.lx, fun i hi' => (h.row i hi').kept hg (ne _ (hI i hi')), h.dis⟩
end
end Go.Proofs.Ytkjokchhffjidaa

/- The model's draws of numbers, with their bounds; draws of generators and of groups. Condition: at most 4096 bytes. -/
namespace Go.Proofs.Ytkjokchhffjidaa
open Go.RowKit

/-- The bounds of an int64. -/
def B64 (z : Int) : Prop := -9223372036854775808 ≤ z ∧ z ≤ 9223372036854775807
/-- A literal row of numbers, read later. -/
theorem lit_atB {w w1 : World} {g : Nat} {cs : Array Value} {r : Nat} (hg : g < w.heap.size) (hb : (w.alloc (.cells cs 2)).grownBy w1 (some g)) (hr : r < cs.size) (hall : ∀ (i : Nat) (h : i < cs.size), ∃ z : Int, cs[i] = .int .i64 z ∧ B64 z) : ∃ z : Int, w1.cell? ⟨w.heap.size, r, none⟩ = some (.int .i64 z) ∧ B64 z := by
  obtain ⟨z, hz, hB⟩ := hall r hr
  refine ⟨z, ?_, hB⟩
  rw [World.cell?_of_block (hb.block w.heap.size (by simp) (by intro e; injection e with e; omega)), World.cell?_alloc_at _ _ _ _ rfl]
  show cs[r]? = _
  rw [Array.getElem?_eq_getElem hr, hz]

set_option maxHeartbeats 1600000 in
theorem srcExtremeB (g : Nat) (w : World) (hs : Src w g) :
    Calls Try.prog 80 #[.pointer (some ⟨g, 0, none⟩)] w fun e w' => ∃ z : Int, e = .returned (.int .i64 z) ∧ B64 z ∧ Src w' g ∧ w.grownBy w' (some g) := by
  have hg := hs.lt
  have Hs := Lib.hid hs
  clear hs
  go_enter Try.func80, Try.ntmps80
  go_wp2_with fail
  refine (srcBelow g _ 10 _ (Hs.out.below ((Below.refl w.heap.size w).alloc (Nat.le_refl _) _) hg) rfl (by omega) (by omega)).mono ?_
  rintro e w1 ⟨r, hr, rfl, s1, g1⟩
  have S1 := Lib.hid s1
  have G1 : Hid (w.grownBy w1 (some g)) := Lib.hid (grown_trans' (grown_alloc2 (grown_refl _ _) _) g1)
  obtain ⟨z, hz, hzB⟩ := lit_atB (r := r) hg g1 hr (by
    intro i h
    have h : i < 10 := h
    rcases i with _ | _ | _ | _ | _ | _ | _ | _ | _ | _ | i
    all_goals first | exact ⟨_, rfl, by unfold B64; omega⟩ | omega)
  have p0 : (0 : Int) ≤ r := by omega
  have p1 : (r : Int) < 10 := by omega
  clear s1 g1
  go_wp2_with fail
  go_ret
  exact ⟨z, rfl, hzB, S1.out, G1.out⟩

set_option maxHeartbeats 1600000 in
theorem srcNumberB (g n : Nat) (w : World) (hs : Src w g) (h1 : 1 ≤ n) (hn : n ≤ 100) :
    Calls Try.prog 100 #[.pointer (some ⟨g, 0, none⟩), .int .i64 (n : Int)] w fun e w' => ∃ z : Int, e = .returned (.int .i64 z) ∧ B64 z ∧ Src w' g ∧ w.grownBy w' (some g) := by
  go_enter Try.func100, Try.ntmps100
  go_wp2_with fail
  refine (srcOne g _ 10 w hs rfl (by omega) (by omega)).mono ?_
  rintro e w1 ⟨b, rfl, s1, g1⟩
  have S1 := Lib.hid s1
  have G1 := Lib.hid g1
  clear s1 g1
  cases b
  · go_wp2_with fail
    refine (srcOne g _ 2 w1 S1.out rfl (by omega) (by omega)).mono ?_
    rintro e w2 ⟨b, rfl, s2, g2⟩
    have S2 := Lib.hid s2
    have G2 : Hid (w.grownBy w2 (some g)) := Lib.hid (grown_trans' G1.out g2)
    clear s2 g2
    cases b
    · go_wp2_with fail
      refine (srcBelow g _ (n + 1) w2 S2.out (by omega) (by omega) (by omega)).mono ?_
      rintro e w3 ⟨r, hr, rfl, s3, g3⟩
      have S3 := Lib.hid s3
      have G3 : Hid (w.grownBy w3 (some g)) := Lib.hid (grown_trans' G2.out g3)
      clear s3 g3
      go_wp2_with fail
      go_ret
      exact ⟨r, rfl, by unfold B64; omega, S3.out, G3.out⟩
    · by_cases h4 : n ≤ 4
      · have hm : (min (n : Int) 4) = (n : Int) := by omega
        have d4 : decide ((n : Int) ≤ 4) = true := by simp; omega
        go_wp2_with fail
        refine (srcBelow g _ (n + 1) w2 S2.out (by omega) (by omega) (by omega)).mono ?_
        rintro e w3 ⟨r, hr, rfl, s3, g3⟩
        have S3 := Lib.hid s3
        have G3 : Hid (w.grownBy w3 (some g)) := Lib.hid (grown_trans' G2.out g3)
        clear s3 g3
        go_wp2_with fail
        go_ret
        exact ⟨r, rfl, by unfold B64; omega, S3.out, G3.out⟩
      · have hm : (min (n : Int) 4) = 4 := by omega
        have d4 : decide ((n : Int) ≤ 4) = false := by simp; omega
        go_wp2_with fail
        refine (srcBelow g _ (5) w2 S2.out (by omega) (by omega) (by omega)).mono ?_
        rintro e w3 ⟨r, hr, rfl, s3, g3⟩
        have S3 := Lib.hid s3
        have G3 : Hid (w.grownBy w3 (some g)) := Lib.hid (grown_trans' G2.out g3)
        clear s3 g3
        go_wp2_with fail
        go_ret
        exact ⟨r, rfl, by unfold B64; omega, S3.out, G3.out⟩
  · go_wp2_with fail
    refine (srcExtremeB g w1 S1.out).mono ?_
    rintro e w2 ⟨z, rfl, hzB, s2, g2⟩
    have S2 := Lib.hid s2
    have hg2 := s2.lt
    have G2 : Hid (w.grownBy w2 (some g)) := Lib.hid (grown_trans' G1.out g2)
    clear s2 g2
    go_wp2_with fail
    refine (srcBelow g _ 4 _ (S2.out.below ((Below.refl w2.heap.size w2).alloc (Nat.le_refl _) _) hg2) rfl (by omega) (by omega)).mono ?_
    rintro e w3 ⟨r, hr, rfl, s3, g3⟩
    have S3 := Lib.hid s3
    have G3 : Hid (w.grownBy w3 (some g)) := Lib.hid (grown_trans' (grown_alloc2 G2.out _) g3)
    obtain ⟨y, hy, hyB⟩ := lit_atB (r := r) hg2 g3 hr (by
      intro i h
      have h : i < 4 := h
      rcases i with _ | _ | _ | _ | i
      all_goals first | exact ⟨_, rfl, by unfold B64; omega⟩ | exact ⟨_, rfl, hzB⟩ | omega)
    have p0 : (0 : Int) ≤ r := by omega
    have p1 : (r : Int) < 4 := by omega
    clear s3 g3
    go_wp2_with fail
    go_ret
    exact ⟨y, rfl, hyB, S3.out, G3.out⟩


section
variable {w w' : World} {base n c : Nat} {A : Option Addr} {vs : List SV} {xss : List (List Int)}
/-- A slice that can be read, appended onto a slice of slices of the call's own. -/
theorem wpList_app2R {ops : Array Oper} {rest : List Oper} {o : Oper} {a : Act} {Q : Exit → Act → World → Prop} (hgd : o.guard = none) (s x : Operand)
    (ho : o.op = .call { callee := .builtin .append, args := #[s, x], argTypes := #[24, 24] })
    (hs : a.eval s = .slice A n c) (hss : SS w base base A n c vs xss) (g : Nat) (dA : Option Addr) (dn dc lo : Nat) (ys : List Int) (hx : a.eval x = .slice (some ⟨g, 0, none⟩) 1 1)
    (hcell : w.cell? ⟨g, 0, none⟩ = some (.slice dA dn dc)) (hys : Pm w lo dA dn dc ys) (hlo : ∀ k, (Value.slice A n c).ownBlock = some k → k < lo) (hn : n ≤ 1000000000) (hbase : base ≤ w.heap.size)
    (h : ∀ A' c' w', RR w' w'.heap.size A' (n + 1) (vs ++ [(dA, dn, dc)]) (xss ++ [ys]) → w.grownBy w' (Value.slice A n c).ownBlock → wpList Try.prog ops Q rest (a.put o.dst (.slice A' (n + 1) c')) w') : wpList Try.prog ops Q (o :: rest) a w := by
  obtain ⟨i0, hi, hz0, hz1, hz2⟩ := info_parts infoS
  refine wpList_append_own (w := w) hgd s x 24 ho base 27 i0 (.slice none 0 0) 1 24 Try.underlying24 hi hz0 hz1 hz2 rfl (by decide) _ n _ hs hss.own ⟨g, 0, none⟩ 1 1 [.slice dA dn dc] hx rfl ?_ ?_ ?_ (by omega) hbase ?_
  · intro j v hj
    match j, hj with
    | 0, hj => simp at hj; subst hj; simpa [Addr.add] using hcell
    | j + 1, hj => simp at hj
  · intro v hv; simp at hv; subst hv; rfl
  · unfold maxLen; omega
  · intro v' w' hown' hg _
    rcases hown'.2 with ⟨rfl, h0⟩ | ⟨g', cap, cur, rfl, hb', hg', hnc, _⟩
    · omega
    · refine h (some ⟨g', 0, none⟩) cap w' ⟨by simp [hss.lv], by simp [hss.lx], fun _ => ⟨g', 0, rfl, (Array.getElem?_eq_some_iff.1 hg').1, fun j hj => ?_⟩, fun j hj => ?_, fun j hj => ?_, fun j hj => ?_⟩ hg
      · rw [Nat.zero_add, hown'.cellAt j (by omega)]
        by_cases e : j < n
        · rw [List.getElem?_append_left (by rw [List.length_map, hss.lv]; exact e), List.getElem?_map, getD_app _ _ _ _ (by rw [hss.lv]; exact e), List.getD_eq_getElem?_getD, List.getElem?_eq_getElem (by rw [hss.lv]; exact e)]; rfl
        · obtain rfl : j = n := by omega
          rw [List.getElem?_append_right (by rw [List.length_map, hss.lv]; exact Nat.le_refl _), List.length_map, hss.lv, Nat.sub_self, getD_snoc _ _ _ _ hss.lv.symm]; rfl
      · by_cases e : j < n
        · rw [getD_app _ _ _ _ (by rw [hss.lv]; exact e), getD_app _ _ _ _ (by rw [hss.lx]; exact e)]
          exact ((hss.row j e).kept hg (apart_types (hss.row j e) hss.own)).ri_
        · obtain rfl : j = n := by omega
          rw [getD_snoc _ _ _ _ hss.lv.symm, getD_snoc _ _ _ _ hss.lx.symm]
          intro hp
          obtain ⟨b, off, e1, h1, h2, hc⟩ := hys.2.2 (by rw [← hys.1]; exact hp)
          refine ⟨b, off, e1, Nat.lt_of_lt_of_le h2 hg.size, fun t ht => (World.cell?_of_block (a := ⟨b, off + t, none⟩) (hg.block b h2 fun e2 => ?_)).trans (hc t (by rw [← hys.1]; exact ht))⟩
          have := hlo b e2.symm
          omega
      · by_cases e : j < n
        · rw [getD_app _ _ _ _ (by rw [hss.lx]; exact e), getD_app _ _ _ _ (by rw [hss.lv]; exact e)]; exact (hss.row j e).1
        · obtain rfl : j = n := by omega
          rw [getD_snoc _ _ _ _ hss.lx.symm, getD_snoc _ _ _ _ hss.lv.symm]; exact hys.1
      · by_cases e : j < n
        · rw [getD_app _ _ _ _ (by rw [hss.lv]; exact e)]; exact (hss.row j e).le.1
        · obtain rfl : j = n := by omega
          rw [getD_snoc _ _ _ _ hss.lv.symm]; exact hys.2.1
end
theorem wrap_pos2 (k : Nat) (h : k ≤ 1000) : IntKind.i64.wrap ((k : Int) + 1) = (k : Int) + 1 := by rw [IntKind.wrap_i64]; omega
theorem grown_new2 {a b c : World} {g : Nat} {row : Option Nat} (h : a.grownBy b (some g)) (h2 : b.grownBy c row) (hr : ∀ j, row = some j → a.heap.size ≤ j) : a.grownBy c (some g) :=
  ⟨h2.os.trans h.os, h2.tape.trans h.tape, h2.output.trans h.output, Nat.le_trans h.size h2.size, fun i hi hne => (h2.block i (Nat.lt_of_lt_of_le hi h.size) (fun e => by have := hr _ e.symm; omega)).trans (h.block i hi hne)⟩
theorem Src.gro2 {g : Nat} {row : Option Nat} {w w' : World} (h : Src w g) (hb : w.grownBy w' row) (hg : ∀ r, row = some r → g < r) : Src w' g := by
  obtain ⟨A, len, cap, k, x, h1, h2, h3, h4⟩ := h
  refine ⟨A, len, cap, k, x, h1, h2, h3.keep fun p hp => World.cell?_of_block (hb.block p.block (by have := h4.lt; omega) (fun e => by have := hg _ e.symm; omega)), h4.grown hb (fun e => by have := hg _ e.symm; omega)⟩

set_option maxHeartbeats 4000000 in
set_option maxRecDepth 100000 in
/-- drawGenerators. -/
theorem drawGens (g n : Nat) (w : World) (hs : Src w g) (h1 : 1 ≤ n) (hn : n ≤ 20) :
    Calls Try.prog 119 #[.pointer (some ⟨g, 0, none⟩), .int .i64 (n : Int)] w fun e w' => ∃ A m c us xss, e = .returned (.slice A m c) ∧ SS w' w.heap.size w.heap.size A m c us xss ∧ (∀ i, i < m → (us.getD i sd0).2.1 = n) ∧ m ≤ 3 ∧ Src w' g ∧ w.grownBy w' (some g) := by
  have hg := hs.lt
  have Sr0 : Hid (Src (w.alloc (.cells #[] 27)) g) := Lib.hid (hs.below ((Below.refl w.heap.size w).alloc (Nat.le_refl _) _) hg)
  have Ss0 := Lib.hid (SS.lit0 w w.heap.size w.heap.size (Nat.le_refl _))
  have G0 : Hid (w.grownBy (w.alloc (.cells #[] 27)) (some g)) := Lib.hid (grown_alloc2 (grown_refl _ _) _)
  clear hs
  go_enter Try.func119, Try.ntmps119
  go_wp2_with fail
  refine (srcBelow g _ 3 _ Sr0.out rfl (by omega) (by omega)).mono ?_
  rintro e w1 ⟨r, hr, rfl, s1, g1⟩
  have Sr1 := Lib.hid s1
  have Ss1 : Hid (SS w1 w.heap.size w.heap.size (some ⟨w.heap.size, 0, none⟩) 0 0 [] []) := Lib.hid (Ss0.out.farR (lo := w.heap.size) (hi := w.heap.size + 1) g1 (fun k e => by simp [Value.ownBlock] at e; omega) (fun i hi => absurd hi (by omega)) (.inl hg))
  have G1 : Hid (w.grownBy w1 (some g)) := Lib.hid (grown_trans' G0.out g1)
  have wr1 : IntKind.i64.wrap (1 + (r : Int)) = ((r + 1 : Nat) : Int) := by rw [IntKind.wrap_i64]; omega
  clear s1 g1 Sr0 Ss0 G0
  go_wp2_with fail
  go_loopg [5, 6] 4 (fun gg v kk wr => ∃ (k : Nat) (A : Option Addr) (m c : Nat) (us : List SV) (xss : List (List Int)), m + k ≤ 3 ∧ k ≤ gg ∧ kk = .int .i64 (k : Nat) ∧ v = .slice A m c ∧ SS wr w.heap.size w.heap.size A m c us xss ∧ (∀ i, i < m → (us.getD i sd0).2.1 = n) ∧ Src wr g ∧ w.grownBy wr (some g))
  case atStart => exact ⟨r + 1, _, 0, _, [], [], by omega, by omega, rfl, rfl, Ss1.out, fun i hi => absurd hi (by omega), Sr1.out, G1.out⟩
  case round =>
    clear Sr1 Ss1 G1 wr1
    obtain ⟨k0, A, m, c, us, xss, hmk, hgk, rfl, rfl, ss, ln, sr, gr⟩ := hrel
    have Ss := Lib.hid ss
    have Ln := Lib.hid ln
    have Sr := Lib.hid sr
    have Gr := Lib.hid gr
    have hwz : w.heap.size ≤ wr.heap.size := gr.size
    clear ss ln sr gr
    by_cases hk0 : 0 < k0
    · obtain ⟨k, rfl⟩ : ∃ k, k0 = k + 1 := ⟨k0 - 1, by omega⟩
      have wk : IntKind.i64.wrap (((k + 1 : Nat) : Int) - 1) = (k : Int) := by rw [IntKind.wrap_i64]; omega
      have LA : Hid (∀ j, (Value.slice A m c).ownBlock = some j → w.heap.size ≤ j ∧ j < wr.heap.size) := Lib.hid Ss.out.lt_
      have LI : Hid (∀ t, t < m → ∀ j, (sval (us.getD t sd0)).ownBlock = some j → w.heap.size ≤ j ∧ j < wr.heap.size) := Lib.hid fun t ht => (Ss.out.row t ht).lt_
      go_wp2_with fail
      refine (specIdent n wr (by omega)).mono ?_
      rintro e w2 ⟨A1, c1, rfl, s2, b2⟩
      have Sr2 := Lib.hid (Sr.out.below b2 Sr.out.lt)
      have Ss2 := Lib.hid (Ss.out.up b2)
      have G2 : Hid (w.grownBy w2 (some g)) := Lib.hid (grown_below2 Gr.out b2)
      rcases Slc.at_ s2 with ⟨_, _, e0, _⟩ | ⟨q, rfl, hq1, hq2⟩
      · omega
      have Sl2 := Lib.hid s2
      have hz2 := b2.size
      clear s2 b2
      go_wp2_with fail
      refine (srcBelow g _ 4 w2 Sr2.out rfl (by omega) (by omega)).mono ?_
      rintro e w3 ⟨r3, hr3, rfl, s3, g3⟩
      have Sr3 := Lib.hid s3
      have Ss3 := Lib.hid (Ss2.out.farR g3 LA.out LI.out (.inl hg))
      have Sl3 : Hid (Slc w3 wr.heap.size (some ⟨q, 0, none⟩) n c1 (idL n)) := Lib.hid (Sl2.out.kept g3 (.inr (by simp [Value.ownBlock]; omega)))
      have G3 : Hid (w.grownBy w3 (some g)) := Lib.hid (grown_trans' G2.out g3)
      have hz3 := g3.size
      clear s3 g3
      obtain rfl | rfl | hr23 : r3 = 0 ∨ r3 = 1 ∨ (r3 = 2 ∨ r3 = 3) := by omega
      · clear Sl3 Sl2 hq1 hq2
        go_wp2_with fail
        refine (drawPermK g n _ w3 Sr3.out rfl (by omega)).mono ?_
        rintro e w4 ⟨q, c1, ys, rfl, s4, r4, g4⟩
        have Sr4 := Lib.hid r4
        have Ss4 := Lib.hid (Ss3.out.farR g4 LA.out LI.out (.inl hg))
        have hq1 : wr.heap.size ≤ q := by have := (s4.lt_ q rfl).1; omega
        have Sl4 : Hid (Slc w4 w.heap.size (some ⟨q, 0, none⟩) n c1 ys) := Lib.hid (s4.mono (by omega))
        have G4 : Hid (w.grownBy w4 (some g)) := Lib.hid (grown_trans' G3.out g4)
        clear s4 r4 g4
        have D5 := Lib.hid (show ∀ t, t < m → (sval (us.getD t sd0)).ownBlock = none ∨ (sval (us.getD t sd0)).ownBlock ≠ (Value.slice (some ⟨q, 0, none⟩) n c1).ownBlock from fun t ht => by
          rcases e9 : (sval (us.getD t sd0)).ownBlock with _ | z
          · exact .inl rfl
          · exact .inr fun e8 => by have := (LI.out t ht z e9).2; simp [Value.ownBlock] at e8; omega)
        have hzT : w.heap.size ≤ w4.heap.size := G4.out.size
        go_wp2_with (first
          | (at_builtin
             refine wpList_app2 rfl _ _ rfl rfl (Ss4.out.alloc _) w4.heap.size (some ⟨q, 0, none⟩) n c1 ys rfl (by rw [World.cell?_alloc_at _ _ _ _ rfl]; rfl) ((Sl4.out).alloc _) D5.out (by omega) (by simp; omega) ?_
             intro A7 c7 w7 ss7 g7))
        have S7 : Hid (SS w7 w.heap.size w.heap.size A7 (m + 1) c7 (us ++ [(some ⟨q, 0, none⟩, n, c1)]) (xss ++ [ys])) := Lib.hid ss7
        have Sr7 : Hid (Src w7 g) := Lib.hid ((Sr4.out.below ((Below.refl w4.heap.size w4).alloc (Nat.le_refl _) (.cells #[.slice (some ⟨q, 0, none⟩) n c1] 27)) Sr4.out.lt).gro2 g7 (fun j hj => by have := (Ss4.out.lt_ j hj).1; omega))
        have G7 : Hid (w.grownBy w7 (some g)) := Lib.hid (grown_new2 (grown_alloc2 G4.out (.cells #[.slice (some ⟨q, 0, none⟩) n c1] 27)) g7 (fun j hj => (Ss4.out.lt_ j hj).1))
        have Ln7 : Hid (∀ i, i < m + 1 → ((us ++ [((some ⟨q, 0, none⟩, n, c1) : SV)]).getD i sd0).2.1 = n) := Lib.hid fun i hi => by
          by_cases e9 : i < m
          · rw [getD_app _ _ _ _ (by rw [Ss4.out.lv]; exact e9)]; exact Ln.out i e9
          · rw [getD_snoc _ _ _ _ (by rw [Ss4.out.lv]; omega)]
        clear ss7 g7
        go_wp2_with fail
        go_roundg k
        case rel => exact ⟨k, A7, m + 1, c7, _, _, by omega, by omega, by go_num, rfl, S7.out, Ln7.out, Sr7.out, G7.out⟩
        case measure => omega
      · have row3 : Hid (Row w3 wr.heap.size q n c1 (idL n)) := Lib.hid (Row.of_own (by have h2 := Sl3.out.2; rw [← Sl3.out.1] at h2 ⊢; exact h2))
        go_wp2_with fail
        obtain ⟨wl, rfl⟩ : ∃ wl, wl = wr := ⟨_, rfl⟩
        go_loopg [8] n (fun gg iv wr2 => ∃ (i : Nat) (ys : List Int), i ≤ n ∧ n - i ≤ gg ∧ iv = .int .i64 (i : Nat) ∧ Row wr2 wl.heap.size q n c1 ys ∧ SS wr2 w.heap.size w.heap.size A m c us xss ∧ Src wr2 g ∧ w.grownBy wr2 (some g))
        case atStart => exact ⟨0, _, Nat.zero_le _, by omega, rfl, row3.out, Ss3.out, Sr3.out, G3.out⟩
        case round =>
          obtain ⟨i, ys, hi, hgi, rfl, row, ss5, sr5, g5⟩ := hrel
          have Ro := Lib.hid row
          have Ss5 := Lib.hid ss5
          have Sr5 := Lib.hid sr5
          have G5 := Lib.hid g5
          clear row ss5 sr5 g5
          by_cases hil : i < n
          · have c5 := Ro.out.cell hil
            have f5 := Ro.out.free i
            obtain ⟨u, hu⟩ : ∃ u, ((i : Int) + 1).tmod (n : Int) = u := ⟨_, rfl⟩
            have wi := wrap_pos2 i (by omega)
            have hn0 : ¬ ((n : Int) = 0) := by omega
            have p0 : (0 : Int) ≤ i := by omega
            have p1 : (i : Int) < n := by omega
            have Ro6 := Lib.hid (Ro.out.store i u)
            have Ss6 : Hid (SS (wr.setCell ⟨q, i, none⟩ (.int .i64 u)) w.heap.size w.heap.size A m c us xss) := Lib.hid (Ss5.out.farR (r := q) (grown_set (grown_refl _ _) _ _) LA.out LI.out (.inr hq1))
            have Sr6 : Hid (Src (wr.setCell ⟨q, i, none⟩ (.int .i64 u)) g) := Lib.hid (Sr5.out.gro (grown_set (grown_refl _ (some q)) i _) (by omega))
            have G6 : Hid (w.grownBy (wr.setCell ⟨q, i, none⟩ (.int .i64 u)) (some g)) := Lib.hid (grown_far G5.out (by omega) i _)
            obtain ⟨z5, hz5⟩ : ∃ z5, ys.getD i 0 = z5 := ⟨_, rfl⟩
            rw [hz5] at c5
            clear hz5
            go_wp2_with fail
            go_roundg (n - (i + 1))
            case rel => exact ⟨i + 1, _, by omega, by omega, by go_num, Ro6.out, Ss6.out, Sr6.out, G6.out⟩
            case measure => omega
          · have hin : i = n := by omega
            have Sl5 : Hid (Slc wr w.heap.size (some ⟨q, 0, none⟩) n c1 ys) := Lib.hid (Ro.out.slc.mono (by omega))
            clear hin
            have D5 := Lib.hid (show ∀ t, t < m → (sval (us.getD t sd0)).ownBlock = none ∨ (sval (us.getD t sd0)).ownBlock ≠ (Value.slice (some ⟨q, 0, none⟩) n c1).ownBlock from fun t ht => by
              rcases e9 : (sval (us.getD t sd0)).ownBlock with _ | z
              · exact .inl rfl
              · exact .inr fun e8 => by have := (LI.out t ht z e9).2; simp [Value.ownBlock] at e8; omega)
            have hzT : w.heap.size ≤ wr.heap.size := G5.out.size
            go_wp2_with (first
              | (at_builtin
                 refine wpList_app2 rfl _ _ rfl rfl (Ss5.out.alloc _) wr.heap.size (some ⟨q, 0, none⟩) n c1 ys rfl (by rw [World.cell?_alloc_at _ _ _ _ rfl]; rfl) ((Sl5.out).alloc _) D5.out (by omega) (by simp; omega) ?_
                 intro A7 c7 w7 ss7 g7))
            have S7 : Hid (SS w7 w.heap.size w.heap.size A7 (m + 1) c7 (us ++ [(some ⟨q, 0, none⟩, n, c1)]) (xss ++ [ys])) := Lib.hid ss7
            have Sr7 : Hid (Src w7 g) := Lib.hid ((Sr5.out.below ((Below.refl wr.heap.size wr).alloc (Nat.le_refl _) (.cells #[.slice (some ⟨q, 0, none⟩) n c1] 27)) Sr5.out.lt).gro2 g7 (fun j hj => by have := (Ss5.out.lt_ j hj).1; omega))
            have G7 : Hid (w.grownBy w7 (some g)) := Lib.hid (grown_new2 (grown_alloc2 G5.out (.cells #[.slice (some ⟨q, 0, none⟩) n c1] 27)) g7 (fun j hj => (Ss5.out.lt_ j hj).1))
            have Ln7 : Hid (∀ i, i < m + 1 → ((us ++ [((some ⟨q, 0, none⟩, n, c1) : SV)]).getD i sd0).2.1 = n) := Lib.hid fun i hi => by
              by_cases e9 : i < m
              · rw [getD_app _ _ _ _ (by rw [Ss5.out.lv]; exact e9)]; exact Ln.out i e9
              · rw [getD_snoc _ _ _ _ (by rw [Ss5.out.lv]; omega)]
            clear ss7 g7
            go_wp2_with fail
            go_roundg k
            case rel => exact ⟨k, A7, m + 1, c7, _, _, by omega, by omega, by go_num, rfl, S7.out, Ln7.out, Sr7.out, G7.out⟩
            case measure => omega
      · have d30 : ((r3 : Int) == 0) = false := by simp; omega
        have d31 : ((r3 : Int) == 1) = false := by simp; omega
        clear hr23 hr3
        go_wp2_with fail
        refine (srcBelow g _ n w3 Sr3.out rfl (by omega) (by omega)).mono ?_
        rintro e w4 ⟨x, hx, rfl, s4, g4⟩
        have Sr4 := Lib.hid s4
        have Ss4 := Lib.hid (Ss3.out.farR g4 LA.out LI.out (.inl hg))
        have Sl4 : Hid (Slc w4 wr.heap.size (some ⟨q, 0, none⟩) n c1 (idL n)) := Lib.hid (Sl3.out.kept g4 (.inr (by simp [Value.ownBlock]; omega)))
        have G4 : Hid (w.grownBy w4 (some g)) := Lib.hid (grown_trans' G3.out g4)
        clear s4 g4
        go_wp2_with fail
        refine (srcBelow g _ n w4 Sr4.out rfl (by omega) (by omega)).mono ?_
        rintro e w5 ⟨y, hy, rfl, s5, g5⟩
        have Sr5 := Lib.hid s5
        have Ss5 := Lib.hid (Ss4.out.farR g5 LA.out LI.out (.inl hg))
        have Sl5 : Hid (Slc w5 wr.heap.size (some ⟨q, 0, none⟩) n c1 (idL n)) := Lib.hid (Sl4.out.kept g5 (.inr (by simp [Value.ownBlock]; omega)))
        have G5 : Hid (w.grownBy w5 (some g)) := Lib.hid (grown_trans' G4.out g5)
        clear s5 g5
        have row5 : Row w5 wr.heap.size q n c1 (idL n) := Row.of_own (by have h2 := Sl5.out.2; rw [← Sl5.out.1] at h2 ⊢; exact h2)
        have c5 := row5.cell hx
        have f5 := row5.free x
        rw [idL_getD hx] at c5
        have row6 := row5.store x (y : Int)
        have c6 := row6.cell hy
        have f6 := row6.free y
        obtain ⟨z6, hz6⟩ : ∃ z6, ((idL n).set x (y : Int)).getD y 0 = z6 := ⟨_, rfl⟩
        rw [hz6] at c6
        have Ro7 := Lib.hid (row6.store y (x : Int))
        obtain ⟨w6, hw6⟩ : ∃ w6, w5.setCell ⟨q, x, none⟩ (.int .i64 (y : Int)) = w6 := ⟨_, rfl⟩
        have Ss6 : Hid (SS w6 w.heap.size w.heap.size A m c us xss) := Lib.hid (by rw [← hw6]; exact Ss5.out.farR (r := q) (grown_set (grown_refl _ _) _ _) LA.out LI.out (.inr hq1))
        have Sr6 : Hid (Src w6 g) := Lib.hid (by rw [← hw6]; exact Sr5.out.gro (grown_set (grown_refl _ (some q)) x _) (by omega))
        have G6 : Hid (w.grownBy w6 (some g)) := Lib.hid (by rw [← hw6]; exact grown_far G5.out (by omega) x _)
        have Ss8 : Hid (SS (w6.setCell ⟨q, y, none⟩ (.int .i64 (x : Int))) w.heap.size w.heap.size A m c us xss) := Lib.hid (Ss6.out.farR (r := q) (grown_set (grown_refl _ _) _ _) LA.out LI.out (.inr hq1))
        have Sr8 : Hid (Src (w6.setCell ⟨q, y, none⟩ (.int .i64 (x : Int))) g) := Lib.hid (Sr6.out.gro (grown_set (grown_refl _ (some q)) y _) (by omega))
        have G8 : Hid (w.grownBy (w6.setCell ⟨q, y, none⟩ (.int .i64 (x : Int))) (some g)) := Lib.hid (grown_far G6.out (by omega) y _)
        obtain ⟨w8, hw8⟩ : ∃ w8, w6.setCell ⟨q, y, none⟩ (.int .i64 (x : Int)) = w8 := ⟨_, rfl⟩
        rw [hw8] at Ss8 Sr8 G8
        rw [hw6] at c6 f6 Ro7
        rw [hw8] at Ro7
        have Sl8 : Hid (Slc w8 w.heap.size (some ⟨q, 0, none⟩) n c1 (((idL n).set x (y : Int)).set y (x : Int))) := Lib.hid (Ro7.out.slc.mono (by omega))
        have x0 : (0 : Int) ≤ x := by omega
        have x1 : (x : Int) < n := by omega
        have y0 : (0 : Int) ≤ y := by omega
        have y1 : (y : Int) < n := by omega
        clear row5 row6 hz6
        have D5 := Lib.hid (show ∀ t, t < m → (sval (us.getD t sd0)).ownBlock = none ∨ (sval (us.getD t sd0)).ownBlock ≠ (Value.slice (some ⟨q, 0, none⟩) n c1).ownBlock from fun t ht => by
          rcases e9 : (sval (us.getD t sd0)).ownBlock with _ | z
          · exact .inl rfl
          · exact .inr fun e8 => by have := (LI.out t ht z e9).2; simp [Value.ownBlock] at e8; omega)
        have hzT : w.heap.size ≤ w8.heap.size := G8.out.size
        go_wp2_with (first
          | (at_builtin
             refine wpList_app2 rfl _ _ rfl rfl (Ss8.out.alloc _) w8.heap.size (some ⟨q, 0, none⟩) n c1 (((idL n).set x (y : Int)).set y (x : Int)) rfl (by rw [World.cell?_alloc_at _ _ _ _ rfl]; rfl) ((Sl8.out).alloc _) D5.out (by omega) (by simp; omega) ?_
             intro A7 c7 w7 ss7 g7))
        have S7 : Hid (SS w7 w.heap.size w.heap.size A7 (m + 1) c7 (us ++ [(some ⟨q, 0, none⟩, n, c1)]) (xss ++ [(((idL n).set x (y : Int)).set y (x : Int))])) := Lib.hid ss7
        have Sr7 : Hid (Src w7 g) := Lib.hid ((Sr8.out.below ((Below.refl w8.heap.size w8).alloc (Nat.le_refl _) (.cells #[.slice (some ⟨q, 0, none⟩) n c1] 27)) Sr8.out.lt).gro2 g7 (fun j hj => by have := (Ss8.out.lt_ j hj).1; omega))
        have G7 : Hid (w.grownBy w7 (some g)) := Lib.hid (grown_new2 (grown_alloc2 G8.out (.cells #[.slice (some ⟨q, 0, none⟩) n c1] 27)) g7 (fun j hj => (Ss8.out.lt_ j hj).1))
        have Ln7 : Hid (∀ i, i < m + 1 → ((us ++ [((some ⟨q, 0, none⟩, n, c1) : SV)]).getD i sd0).2.1 = n) := Lib.hid fun i hi => by
          by_cases e9 : i < m
          · rw [getD_app _ _ _ _ (by rw [Ss8.out.lv]; exact e9)]; exact Ln.out i e9
          · rw [getD_snoc _ _ _ _ (by rw [Ss8.out.lv]; omega)]
        clear ss7 g7
        go_wp2_with fail
        go_roundg k
        case rel => exact ⟨k, A7, m + 1, c7, _, _, by omega, by omega, by go_num, rfl, S7.out, Ln7.out, Sr7.out, G7.out⟩
        case measure => omega
    · have hk00 : k0 = 0 := by omega
      subst hk00
      go_wp2_with fail
      go_ret
      exact ⟨_, _, _, _, _, rfl, Ss.out, Ln.out, by omega, Sr.out, Gr.out⟩

theorem SS.lens_le {w : World} {bo bi n c : Nat} {A : Option Addr} {us : List SV} {xss : List (List Int)} (_h : SS w bo bi A n c us xss) {N : Nat} (hl : ∀ i, i < n → (us.getD i sd0).2.1 = N) (hN : N ≤ 21) : ∀ i, i < n → (us.getD i sd0).2.1 ≤ 21 := fun i hi => by rw [hl i hi]; exact hN

end Go.Proofs.Ytkjokchhffjidaa

/- What the laws over puzzles call: eqPuzzle, markPuzzle, heldPuzzle. Conditions: lengths. -/
namespace Go.Proofs.Ytkjokchhffjidaa
open Go.RowKit

theorem Blk.up {w w' : World} {g : Nat} {t : TypeId} {cs : Array Value} (h : Blk w g t cs) (hb : Below w.heap.size w w') : Blk w' g t cs := h.below hb h.lt

set_option maxHeartbeats 1600000 in
set_option maxRecDepth 100000 in
/-- eqPuzzle of two that read the same. -/
theorem eqPz (z : Int) (s : ByteArray) (A B : Option Addr) (n c m d : Nat) (vs us : List SV) (gs : List (List Int)) (w : World) (hx : RR w w.heap.size A n vs gs) (hy : RR w w.heap.size B m us gs) (hn : n ≤ 1048576) (hlen : Hid (∀ i, i < n → (gs.getD i []).length ≤ 1048576)) :
    Calls Try.prog 28 #[.agg #[.int .i64 z, .string s, .slice A n c], .agg #[.int .i64 z, .string s, .slice B m d]] w fun e w' => e = .returned (.bool true) ∧ Below w.heap.size w w' := by
  obtain ⟨V, hV⟩ : ∃ V, (w.alloc (.cells #[.int .i64 z, .string s, .slice A n c] 26)).alloc (.cells #[.int .i64 z, .string s, .slice B m d] 26) = V := ⟨_, rfl⟩
  have bV := (show Blk V w.heap.size 26 #[.int .i64 z, .string s, .slice A n c] from by rw [← hV]; exact (Blk.new w _ _).alloc _)
  have bV' := (show Blk V (w.heap.size + 1) 26 #[.int .i64 z, .string s, .slice B m d] from by
    rw [← hV]; have := Blk.new (w.alloc (.cells #[.int .i64 z, .string s, .slice A n c] 26)) 26 #[.int .i64 z, .string s, .slice B m d]
    rw [World.size_alloc] at this; exact this)
  have BV : Hid (Below w.heap.size w V) := Lib.hid (by rw [← hV]; exact ((Below.refl _ w).alloc (Nat.le_refl _) _).alloc (by simp) _)
  have X := Lib.hid (hx.up BV.out)
  have Y := Lib.hid (hy.up BV.out)
  have x0 := bV.cell 0
  have x1 := bV.cell 1
  have x2 := bV.cell 2
  have y0 := bV'.cell 0
  have y1 := bV'.cell 1
  have y2 := bV'.cell 2
  have e0 : (z != z) = false := by simp
  have e1 : (s.toList == s.toList) = true := by simp
  have e2 : (s.toList != s.toList) = false := by simp
  clear bV bV' hx hy
  go_enter Try.func28, Try.ntmps28
  go_wp2_with fail
  refine (eqRR_same A B n c m d vs us gs _ X.out Y.out hn hlen).mono ?_
  rintro e w1 ⟨rfl, b1⟩
  have B1 : Hid (Below w.heap.size w w1) := Lib.hid (btr BV.out b1)
  clear b1
  go_wp2_with fail
  go_ret
  exact ⟨rfl, B1.out⟩

theorem OnlyIn.of_alloc {w w' : World} {o : Obj} {vs : List SV} {n : Nat} (h : OnlyIn (w.alloc o) w' vs n) : OnlyIn w w' vs n :=
  ⟨h.os, h.tape, h.output, by have := h.size; simp at this; omega, fun k hk hne => (h.block k (by simp; omega) hne).trans (Below.heap_alloc w o k hk)⟩
set_option maxHeartbeats 1600000 in
set_option maxRecDepth 100000 in
/-- markPuzzle, the first one. -/
theorem markPz (z : Int) (s : ByteArray) (A : Option Addr) (n c bo bi : Nat) (vs : List SV) (gs : List (List Int)) (w : World) (hx : SS w bo bi A n c vs gs) (hn : n ≤ 1048576) (hlen : Hid (tot vs n ≤ 1048576)) :
    Calls Try.prog 33 #[.agg #[.int .i64 z, .string s, .slice A n c], .int .i64 1] w fun e w' => e = .returned (.int .i64 (1 + (tot vs n : Int))) ∧ SS w' bo bi A n c vs (marks2 vs 1 n) ∧ OnlyIn w w' vs n := by
  have X := Lib.hid (hx.alloc (.cells #[.int .i64 z, .string s, .slice A n c] 26))
  clear hx
  obtain ⟨T, eT⟩ : ∃ T, tot vs n = T := ⟨_, rfl⟩
  have K := markSS A n c bo bi vs gs _ X.out hn hlen
  rw [eT] at K ⊢
  go_enter Try.func33, Try.ntmps33
  go_wp2_with fail
  refine K.mono ?_
  rintro e w1 ⟨rfl, s1, o1⟩
  have S1 := Lib.hid s1
  have O1 := Lib.hid o1.of_alloc
  clear K s1 o1
  go_wp2_with fail
  go_ret
  exact ⟨rfl, S1.out, O1.out⟩
end Go.Proofs.Ytkjokchhffjidaa

/- What the laws over puzzles call: szPuzzle, toPuzzle, eqPuzzle, markPuzzle. Conditions: lengths. -/
namespace Go.Proofs.Ytkjokchhffjidaa
open Go.RowKit

set_option maxHeartbeats 1600000 in
set_option maxRecDepth 100000 in
/-- szPuzzle. -/
theorem szPz (z : Int) (s : ByteArray) (A : Option Addr) (n c : Nat) (left : Int) (vs : List SV) (gs : List (List Int)) (w : World) (hx : RR w w.heap.size A n vs gs) (hs : s.size ≤ maxLen) (hn : n ≤ maxLen) (hl : Hid (∀ i, i < n → (vs.getD i sd0).2.1 ≤ maxLen)) (h0 : 0 ≤ left) (h1 : left ≤ 1048576) (r : Int) (hr : Hid (r = if ((s.size + (n + tot vs n) : Nat) : Int) ≤ left then left - ((s.size + (n + tot vs n) : Nat) : Int) else -1)) :
    Calls Try.prog 24 #[.agg #[.int .i64 z, .string s, .slice A n c], .int .i64 left] w fun e w' => e = .returned (.int .i64 r) ∧ Below w.heap.size w w' := by
  have hs' := hs
  unfold maxLen at hs'
  have BV : Hid (Below w.heap.size w (w.alloc (.cells #[.int .i64 z, .string s, .slice A n c] 37))) := Lib.hid ((Below.refl _ w).alloc (Nat.le_refl _) _)
  have HX := Lib.hid (hx.up BV.out)
  have w1 : IntKind.i64.wrap (left - (s.size : Int)) = left - (s.size : Int) := by rw [IntKind.wrap_i64]; omega
  clear hx
  by_cases hls : (s.size : Int) ≤ left
  · obtain ⟨L, eL⟩ : ∃ L : Int, left - (s.size : Int) = L := ⟨_, rfl⟩
    have hL0 : ¬ L < 0 := by omega
    have d0 : decide (L < 0) = false := decide_eq_false hL0
    have K := szSS2 A n c L vs gs _ HX.out hn hl (by omega) (by omega)
    have E : Hid ((if ((n + tot vs n : Nat) : Int) ≤ L then L - ((n + tot vs n : Nat) : Int) else -1) = r) := Lib.hid (by
      rw [hr.out]
      by_cases h : ((n + tot vs n : Nat) : Int) ≤ L
      · rw [if_pos h, if_pos (by omega)]; omega
      · rw [if_neg h, if_neg (by omega)])
    rw [E.out] at K
    have R0 : Hid (r = -1 ∨ 0 ≤ r) := Lib.hid (by rw [← E.out]; split <;> omega)
    have w2 : IntKind.i64.wrap (left - (s.size : Int)) = L := w1.trans eL
    clear eL E w1
    by_cases hr0 : r < 0
    · obtain rfl : r = -1 := by have := R0.out; omega
      go_enter Try.func24, Try.ntmps24
      go_wp2_with fail
      refine K.mono ?_
      rintro e w' ⟨rfl, rfl⟩
      clear K
      go_wp2_with fail
      go_ret
      exact ⟨rfl, BV.out⟩
    · have d1 : decide (r < 0) = false := decide_eq_false hr0
      go_enter Try.func24, Try.ntmps24
      go_wp2_with fail
      refine K.mono ?_
      rintro e w' ⟨rfl, rfl⟩
      clear K
      go_wp2_with fail
      go_ret
      exact ⟨rfl, BV.out⟩
  · obtain ⟨L, eL⟩ : ∃ L : Int, left - (s.size : Int) = L := ⟨_, rfl⟩
    have hL0 : L < 0 := by omega
    have d0 : decide (L < 0) = true := decide_eq_true hL0
    have E : Hid (r = -1) := Lib.hid (by rw [hr.out, if_neg (by omega)])
    have w2 : IntKind.i64.wrap (left - (s.size : Int)) = L := w1.trans eL
    clear eL w1
    go_enter Try.func24, Try.ntmps24
    go_wp2_with fail
    go_ret
    exact ⟨by rw [E.out]; try rfl, BV.out⟩

set_option maxHeartbeats 3200000 in
set_option maxRecDepth 100000 in
/-- toPuzzle. -/
theorem toPz (z : Int) (s : ByteArray) (A : Option Addr) (n c : Nat) (vs : List SV) (gs : List (List Int)) (w : World) (hx : RR w w.heap.size A n vs gs) (hn : n ≤ 1048576) (hl : Hid (∀ i, i < n → (vs.getD i sd0).2.1 ≤ 1048576)) :
    Calls Try.prog 26 #[.agg #[.int .i64 z, .string s, .slice A n c]] w fun e w' => ∃ A' c' us, e = .returned (.agg #[.int .i64 z, .string s, .slice A' n c']) ∧ SS w' w.heap.size w.heap.size A' n c' us gs ∧ (∀ i, i < n → (us.getD i sd0).2.1 = (vs.getD i sd0).2.1) ∧ Below w.heap.size w w' := by
  have HX := Lib.hid hx
  clear hx
  go_enter Try.func26, Try.ntmps26
  go_wp2_with fail
  obtain ⟨V, hV⟩ : ∃ V, (((w.alloc (.cells #[.int .i64 z, .string s, .slice A n c] 37)).alloc (.cells #[.int .i64 0, .string ⟨#[]⟩, .slice none 0 0] 26)).alloc (.cells #[.int .i64 z, .string s, .slice none 0 0] 26)) = V := ⟨_, rfl⟩
  rw [hV]
  have hz : V.heap.size = w.heap.size + 3 := by rw [← hV]; simp
  have b1 : Hid (Blk V (w.heap.size + 1) 26 #[.int .i64 0, .string ⟨#[]⟩, .slice none 0 0]) := Lib.hid (by
    rw [← hV]
    refine Blk.alloc ?_ _
    have := Blk.new (w.alloc (.cells #[.int .i64 z, .string s, .slice A n c] 37)) 26 #[.int .i64 0, .string ⟨#[]⟩, .slice none 0 0]
    rw [World.size_alloc] at this; exact this)
  have b2 : Hid (Blk V (w.heap.size + 1 + 1) 26 #[.int .i64 z, .string s, .slice none 0 0]) := Lib.hid (by
    rw [← hV]
    have := Blk.new ((w.alloc (.cells #[.int .i64 z, .string s, .slice A n c] 37)).alloc (.cells #[.int .i64 0, .string ⟨#[]⟩, .slice none 0 0] 26)) 26 #[.int .i64 z, .string s, .slice none 0 0]
    rw [World.size_alloc, World.size_alloc] at this; exact this)
  have BV : Hid (Below w.heap.size w V) := Lib.hid (by rw [← hV]; exact (((Below.refl _ w).alloc (Nat.le_refl _) _).alloc (by simp) _).alloc (by simp; omega) _)
  have XV := Lib.hid (HX.out.up BV.out)
  clear hV
  refine (toSS A n c vs gs V XV.out hn hl).mono ?_
  rintro e w4 ⟨A4, c4, us, rfl, s4, q4, b4⟩
  have S4 := Lib.hid s4
  have Q4 := Lib.hid q4
  have hz4 := Lib.hid b4.size
  have B4 : Hid (Below w.heap.size w w4) := Lib.hid (btr BV.out b4)
  have d1 := Lib.hid (b1.out.below b4 b1.out.lt)
  have d2 := Lib.hid (b2.out.below b4 b2.out.lt)
  have x1 := d2.out.cell 0
  have x2 := d2.out.cell 1
  have x3 := d2.out.cell 2
  have f1 := d2.out.frozen 0
  have f2 := d2.out.frozen 1
  have f3 := d2.out.frozen 2
  have y1 := d1.out.cell 0
  have y2 := d1.out.cell 1
  have y3 := d1.out.cell 2
  have g1 := d1.out.frozen 0
  have g2 := d1.out.frozen 1
  have g3 := d1.out.frozen 2
  clear s4 q4 b4
  go_wp2_with fail
  have zV : V.heap.size ≤ w4.heap.size := hz4.out
  obtain ⟨W1, e1⟩ : ∃ W1, w4.setCell ⟨w.heap.size + 1 + 1, 2, none⟩ (.slice A4 n c4) = W1 := ⟨_, rfl⟩
  obtain ⟨W2, e2⟩ : ∃ W2, W1.setCell ⟨w.heap.size + 1, 0, none⟩ (.int .i64 z) = W2 := ⟨_, rfl⟩
  obtain ⟨W3, e3⟩ : ∃ W3, W2.setCell ⟨w.heap.size + 1, 1, none⟩ (.string s) = W3 := ⟨_, rfl⟩
  obtain ⟨W4, e4⟩ : ∃ W4, W3.setCell ⟨w.heap.size + 1, 2, none⟩ (.slice A4 n c4) = W4 := ⟨_, rfl⟩
  rw [e1, e2, e3, e4]
  have LA : ∀ k, (Value.slice A4 n c4).ownBlock = some k → V.heap.size ≤ k ∧ k < w4.heap.size := S4.out.lt_
  have LI : ∀ t, t < n → ∀ k, (sval (us.getD t sd0)).ownBlock = some k → V.heap.size ≤ k ∧ k < w4.heap.size := fun t ht => (S4.out.row t ht).lt_
  have S5 : SS W1 V.heap.size V.heap.size A4 n c4 us gs := by rw [← e1]; exact S4.out.farR (r := w.heap.size + 1 + 1) (grown_set (grown_refl _ _) _ _) LA LI (.inl (by omega))
  have S6 : SS W2 V.heap.size V.heap.size A4 n c4 us gs := by rw [← e2]; exact S5.farR (r := w.heap.size + 1) (grown_set (grown_refl _ _) _ _) LA LI (.inl (by omega))
  have S7 : SS W3 V.heap.size V.heap.size A4 n c4 us gs := by rw [← e3]; exact S6.farR (r := w.heap.size + 1) (grown_set (grown_refl _ _) _ _) LA LI (.inl (by omega))
  have S8 : SS W4 V.heap.size V.heap.size A4 n c4 us gs := by rw [← e4]; exact S7.farR (r := w.heap.size + 1) (grown_set (grown_refl _ _) _ _) LA LI (.inl (by omega))
  have D1 : Blk W1 (w.heap.size + 1) 26 #[.int .i64 0, .string ⟨#[]⟩, .slice none 0 0] := by rw [← e1]; exact (Below.heap_setCell _ _ _ _ (by show w.heap.size + 1 ≠ w.heap.size + 1 + 1; omega)).trans d1.out
  have D2 : Blk W2 (w.heap.size + 1) 26 #[.int .i64 z, .string ⟨#[]⟩, .slice none 0 0] := by rw [← e2]; exact D1.set_ 0 _
  have D3 : Blk W3 (w.heap.size + 1) 26 #[.int .i64 z, .string s, .slice none 0 0] := by rw [← e3]; exact D2.set_ 1 _
  have D4 : Blk W4 (w.heap.size + 1) 26 #[.int .i64 z, .string s, .slice A4 n c4] := by rw [← e4]; exact D3.set_ 2 _
  have r1 := D4.cell 0
  have r2 := D4.cell 1
  have r3 := D4.cell 2
  have Be : Below w.heap.size w W4 := by
    rw [← e4, ← e3, ← e2, ← e1]
    exact (((B4.out.setCell (p := ⟨w.heap.size + 1 + 1, 2, none⟩) (by show w.heap.size ≤ w.heap.size + 1 + 1; omega) _).setCell (p := ⟨w.heap.size + 1, 0, none⟩) (by show w.heap.size ≤ w.heap.size + 1; omega) _).setCell (p := ⟨w.heap.size + 1, 1, none⟩) (by show w.heap.size ≤ w.heap.size + 1; omega) _).setCell (p := ⟨w.heap.size + 1, 2, none⟩) (by show w.heap.size ≤ w.heap.size + 1; omega) _
  clear e1 e2 e3 e4
  exact bodyPost_ret (v := .agg #[.int .i64 z, .string s, .slice A4 n c4]) (by simp [results, Try.results26, r1, r2, r3, go_sem]) rfl ⟨A4, c4, us, rfl, S8.mono (by omega) (by omega), Q4.out, Be⟩
end Go.Proofs.Ytkjokchhffjidaa

/- The walk of the law FnExactIsValidPuzzle: it returns true at every input, and writes nothing that was there. No condition but the program's own contract. -/
namespace Go.Proofs.Ytkjokchhffjidaa
open Go.RowKit

set_option maxHeartbeats 8000000 in
set_option maxRecDepth 100000 in
/-- The law FnExactIsValidPuzzle. -/
theorem lawIsValidPuzzle (IM : ∀ (z : Int) (s : ByteArray) (A : Option Addr) (n c : Nat) (vs : List SV) (gs : List (List Int)) (w : World), PIn w z s A n vs gs → Calls Try.prog 27 #[.agg #[.int .i64 z, .string s, .slice A n c]] w fun e w' => e = .returned (.bool (pzB z s gs)) ∧ Below w.heap.size w w') (z0 : Int) (s0 : ByteArray) (A0 : Option Addr) (n0 c0 : Nat) (vs0 : List SV) (gs0 : List (List Int)) (w : World) (wz0 : -9223372036854775808 ≤ z0 ∧ z0 ≤ 9223372036854775807) (hs0 : s0.size ≤ maxLen) (hx0 : RR w w.heap.size A0 n0 vs0 gs0) (hm0 : n0 ≤ maxLen) (hk0 : Hid (∀ i, i < n0 → (vs0.getD i sd0).2.1 ≤ maxLen)) :
    Calls Try.prog 4 #[.agg #[.int .i64 z0, .string s0, .slice A0 n0 c0]] w fun e w' => e = .returned (.bool true) ∧ Below w.heap.size w w' := by
  have HX0 := Lib.hid hx0
  have hll0 := Lib.hid hx0.lens
  clear hx0
  have ba0 : Hid (Below w.heap.size w (w.alloc (.cells #[.int .i64 z0, .string s0, .slice A0 n0 c0] 37))) := Lib.hid ((Below.refl _ _).alloc (Nat.le_refl _) _)
  have B0_0 : Hid (Below w.heap.size w (w.alloc (.cells #[.int .i64 z0, .string s0, .slice A0 n0 c0] 37))) := Lib.hid ba0.out
  have bx0_0 : Hid (Blk (w.alloc (.cells #[.int .i64 z0, .string s0, .slice A0 n0 c0] 37)) (w.heap.size) 37 #[.int .i64 z0, .string s0, .slice A0 n0 c0]) := Lib.hid (Blk.new w _ _)
  obtain ⟨r0, hr0⟩ : ∃ r : Int, r = if ((s0.size + (n0 + tot vs0 n0) : Nat) : Int) ≤ (1048576 : Int) then (1048576 : Int) - ((s0.size + (n0 + tot vs0 n0) : Nat) : Int) else -1 := ⟨_, rfl⟩
  have Hr0 := Lib.hid hr0
  by_cases hT0 : ((s0.size + (n0 + tot vs0 n0) : Nat) : Int) ≤ (1048576 : Int)
  · skip
    rw [if_pos hT0] at hr0
    have hr00 : 0 ≤ r0 ∧ r0 ≤ 1048576 := by omega
    have dr0 : decide (r0 < 0) = false := by simp; omega
    have hn0 : n0 ≤ 1048576 := by omega
    have hss0 : s0.size ≤ 1048576 := by omega
    have KT0 : Hid (tot vs0 n0 ≤ 1048576) := Lib.hid (by omega)
    have hl0 : Hid (∀ i, i < n0 → (vs0.getD i sd0).2.1 ≤ 1048576) := Lib.hid fun i hi => by have := tot_row (vs := vs0) hi; have := KT0.out; omega
    have hyl0 : Hid (∀ i, i < n0 → (gs0.getD i []).length ≤ 1048576) := Lib.hid fun i hi => by rw [hll0.out i hi]; exact hl0.out i hi
    clear hr0 hT0
    go_enter Try.func4, Try.ntmps4
    have q0_0 := bx0_0.out.cell 0
    have q0_1 := bx0_0.out.cell 1
    have q0_2 := bx0_0.out.cell 2
    go_wp2_with fail
    refine (szPz z0 s0 A0 n0 c0 1048576 vs0 gs0 _ (HX0.out.up B0_0.out) hs0 hm0 hk0 (by decide) (by decide) r0 Hr0).mono ?_
    rintro e w1 ⟨rfl, b1⟩
    clear q0_0 q0_1 q0_2
    have B1 : Hid (Below w.heap.size w w1) := Lib.hid (btr B0_0.out b1)
    have bx0_1 := Lib.hid (bx0_0.out.below b1 bx0_0.out.lt)
    clear bx0_0
    clear b1
    have q0_0 := bx0_1.out.cell 0
    have q0_1 := bx0_1.out.cell 1
    have q0_2 := bx0_1.out.cell 2
    go_wp2_with fail
    refine (toPz z0 s0 A0 n0 c0 vs0 gs0 _ (HX0.out.up B1.out) hn0 hl0).mono ?_
    rintro e w2 ⟨C2, cc2, us2, rfl, s2, l2, b2⟩
    clear q0_0 q0_1 q0_2
    have B2 : Hid (Below w.heap.size w w2) := Lib.hid (btr B1.out b2)
    have bx0_2 := Lib.hid (bx0_1.out.below b2 bx0_1.out.lt)
    clear bx0_1
    have t0_2 := Lib.hid s2
    have Pt0_2 : Hid (PIn w2 z0 s0 C2 n0 us2 gs0) := Lib.hid ⟨⟨s2.rr, hn0, fun i hi => by rw [l2 i hi]; exact hl0.out i hi⟩, wz0, hss0⟩
    have Qt0 := Lib.hid l2
    clear b2 s2 l2
    have q0_0 := bx0_2.out.cell 0
    have q0_1 := bx0_2.out.cell 1
    have q0_2 := bx0_2.out.cell 2
    go_wp2_with fail
    refine (specIsValidPuzzle z0 s0 C2 n0 cc2 us2 gs0 _ Pt0_2.out).mono ?_
    rintro e w3 ⟨rfl, b3⟩
    clear q0_0 q0_1 q0_2
    have B3 : Hid (Below w.heap.size w w3) := Lib.hid (btr B2.out b3)
    have bx0_3 := Lib.hid (bx0_2.out.below b3 bx0_2.out.lt)
    clear bx0_2
    have t0_3 := Lib.hid (t0_2.out.up b3)
    clear t0_2
    have Pt0_3 := Lib.hid (Pt0_2.out.up b3)
    clear Pt0_2
    clear b3
    clear t0_3
    clear Pt0_3
    have q0_0 := bx0_3.out.cell 0
    have q0_1 := bx0_3.out.cell 1
    have q0_2 := bx0_3.out.cell 2
    go_wp2_with fail
    refine (toPz z0 s0 A0 n0 c0 vs0 gs0 _ (HX0.out.up B3.out) hn0 hl0).mono ?_
    rintro e w4 ⟨C4, cc4, us4, rfl, s4, l4, b4⟩
    clear q0_0 q0_1 q0_2
    have B4 : Hid (Below w.heap.size w w4) := Lib.hid (btr B3.out b4)
    have bx0_4 := Lib.hid (bx0_3.out.below b4 bx0_3.out.lt)
    clear bx0_3
    have x0_4 := Lib.hid s4
    have Px0_4 : Hid (PIn w4 z0 s0 C4 n0 us4 gs0) := Lib.hid ⟨⟨s4.rr, hn0, fun i hi => by rw [l4 i hi]; exact hl0.out i hi⟩, wz0, hss0⟩
    have Qx0 := Lib.hid l4
    clear b4 s4 l4
    have bb4 : Hid (Below w4.heap.size w4 (w4.alloc (.cells #[.int .i64 z0, .string s0, .slice C4 n0 cc4] 26))) := Lib.hid ((Below.refl _ _).alloc (Nat.le_refl _) _)
    have BB4 : Hid (Below w.heap.size w (w4.alloc (.cells #[.int .i64 z0, .string s0, .slice C4 n0 cc4] 26))) := Lib.hid (btr B4.out bb4.out)
    have bx0_b4 := Lib.hid (bx0_4.out.below bb4.out bx0_4.out.lt)
    clear bx0_4
    have x0_b4 := Lib.hid (x0_4.out.up bb4.out)
    clear x0_4
    have Px0_b4 := Lib.hid (Px0_4.out.up bb4.out)
    clear Px0_4
    have xb0_4 : Hid (Blk (w4.alloc (.cells #[.int .i64 z0, .string s0, .slice C4 n0 cc4] 26)) w4.heap.size 26 #[.int .i64 z0, .string s0, .slice C4 n0 cc4]) := Lib.hid (Blk.new w4 _ _)
    have q0_0 := bx0_b4.out.cell 0
    have q0_1 := bx0_b4.out.cell 1
    have q0_2 := bx0_b4.out.cell 2
    have q3_0 := xb0_4.out.cell 0
    have q3_1 := xb0_4.out.cell 1
    have q3_2 := xb0_4.out.cell 2
    go_wp2_with fail
    refine (IM z0 s0 C4 n0 cc4 us4 gs0 _ Px0_b4.out).mono ?_
    rintro e w5 ⟨rfl, b5⟩
    clear q0_0 q0_1 q0_2 q3_0 q3_1 q3_2
    have B5 : Hid (Below w.heap.size w w5) := Lib.hid (btr BB4.out b5)
    have bx0_5 := Lib.hid (bx0_b4.out.below b5 bx0_b4.out.lt)
    clear bx0_b4
    have x0_5 := Lib.hid (x0_b4.out.up b5)
    clear x0_b4
    have Px0_5 := Lib.hid (Px0_b4.out.up b5)
    clear Px0_b4
    have xb0_5 := Lib.hid (xb0_4.out.below b5 xb0_4.out.lt)
    clear xb0_4
    clear b5
    have ne0 : (pzB z0 s0 gs0 != pzB z0 s0 gs0) = false := by simp
    have q0_0 := bx0_5.out.cell 0
    have q0_1 := bx0_5.out.cell 1
    have q0_2 := bx0_5.out.cell 2
    have q3_0 := xb0_5.out.cell 0
    have q3_1 := xb0_5.out.cell 1
    have q3_2 := xb0_5.out.cell 2
    go_wp2_with fail
    go_region_law ((go_simp; go_wp2_with (first
      | (go_at_call 26; refine (toPz z0 s0 A0 n0 c0 vs0 gs0 w5.drew ((HX0.out.up B5.out).keep fun _ _ => rfl) hn0 hl0).mono ?_; rintro e w6 ⟨C6, cc6, us6, rfl, s6, l6, b6d⟩
         have b6 : Below w5.heap.size w5 w6 := ⟨b6d.os, b6d.tape, b6d.output, b6d.size, b6d.block⟩
         have B6 := Lib.hid (btr B5.out b6)
         have bx0_6 := Lib.hid (bx0_5.out.below b6 bx0_5.out.lt)
         have y0_0 := bx0_6.out.cell 0
         have y0_1 := bx0_6.out.cell 1
         have y0_2 := bx0_6.out.cell 2
         have x0_6 := Lib.hid (x0_5.out.up b6)
         have Px0_6 := Lib.hid (Px0_5.out.up b6)
         have xb0_6 := Lib.hid (xb0_5.out.below b6 xb0_5.out.lt)
         have y3_0 := xb0_6.out.cell 0
         have y3_1 := xb0_6.out.cell 1
         have y3_2 := xb0_6.out.cell 2
         have T6 := Lib.hid s6
         clear b6d b6 s6 l6)
      | (go_at_call 28; (first | refine (eqPz z0 s0 C4 C6 n0 cc4 n0 cc6 us4 us6 gs0 w6 x0_6.out.rr T6.out.rr hn0 hyl0).mono ?_ | refine (eqPz z0 s0 C4 C6 n0 cc4 n0 cc6 us4 us6 gs0 w6.drew (x0_6.out.rr.keep fun _ _ => rfl) (T6.out.rr.keep fun _ _ => rfl) hn0 hyl0).mono ?_); rintro e w7 ⟨rfl, b7d⟩))))
    all_goals
      have b7 : Below w6.heap.size w6 w7 := ⟨b7d.os, b7d.tape, b7d.output, b7d.size, b7d.block⟩
      have B7 := Lib.hid (btr B6.out b7)
      have bx0_7 := Lib.hid (bx0_6.out.below b7 bx0_6.out.lt)
      have x0_7 := Lib.hid (x0_6.out.up b7)
      have Px0_7 := Lib.hid (Px0_6.out.up b7)
      have xb0_7 := Lib.hid (xb0_6.out.below b7 xb0_6.out.lt)
      clear b7d b7
      have q0_0 := bx0_7.out.cell 0
      have q0_1 := bx0_7.out.cell 1
      have q0_2 := bx0_7.out.cell 2
      have q3_0 := xb0_7.out.cell 0
      have q3_1 := xb0_7.out.cell 1
      have q3_2 := xb0_7.out.cell 2
      go_wp2_with fail
      go_ret
      exact ⟨rfl, B7.out⟩
  · skip
    obtain rfl : r0 = -1 := by rw [hr0, if_neg hT0]
    clear hr0 hT0
    go_enter Try.func4, Try.ntmps4
    have q0_0 := bx0_0.out.cell 0
    have q0_1 := bx0_0.out.cell 1
    have q0_2 := bx0_0.out.cell 2
    go_wp2_with fail
    refine (szPz z0 s0 A0 n0 c0 1048576 vs0 gs0 _ (HX0.out.up B0_0.out) hs0 hm0 hk0 (by decide) (by decide) (-1) Hr0).mono ?_
    rintro e w1 ⟨rfl, b1⟩
    clear q0_0 q0_1 q0_2
    have B1 : Hid (Below w.heap.size w w1) := Lib.hid (btr B0_0.out b1)
    have bx0_1 := Lib.hid (bx0_0.out.below b1 bx0_0.out.lt)
    clear bx0_0
    clear b1
    have q0_0 := bx0_1.out.cell 0
    have q0_1 := bx0_1.out.cell 1
    have q0_2 := bx0_1.out.cell 2
    go_wp2_with fail
    go_ret
    exact ⟨rfl, B1.out⟩
end Go.Proofs.Ytkjokchhffjidaa

/- strings.IndexByte, strings.Index of one letter. Condition: none. -/
namespace Go.Proofs.Ytkjokchhffjidaa
open Go.RowKit

/-- The first place of a byte, or -1. -/
def ixF (s : ByteArray) (b : Nat) : Int := match (List.range s.size).find? (fun i => decide (byt s i = b)) with
  | some i => (i : Int)
  | none => -1
theorem ixF_idx (s : ByteArray) (b : Nat) (hb : b ≤ 255) : firstIdx s ((b : Int)).toNat.toUInt8 = ixF s b := by
  unfold firstIdx ixF
  have e : (List.range s.size).find? (fun i => s[i]! == ((b : Int)).toNat.toUInt8) = (List.range s.size).find? (fun i => decide (byt s i = b)) := by
    apply Lib.find_congr
    intro i hi
    have hi' : i < s.size := List.mem_range.1 hi
    have e1 : s[i]! = s[i] := getElem!_pos s i hi'
    have e2 : (UInt8.ofNat b).toNat = b := by rw [UInt8.toNat_ofNat']; omega
    rw [e1, ← byt_eq s hi', Int.toNat_natCast, Bool.eq_iff_iff, beq_iff_eq, decide_eq_true_eq]
    constructor
    · intro h; rw [h]; exact e2
    · intro h; apply UInt8.toNat_inj.1; rw [h]; exact e2.symm
  rw [e]
  cases List.find? (fun i => decide (byt s i = b)) (List.range s.size) <;> rfl
theorem ixF_some {s : ByteArray} {b i : Nat} (hi : i < s.size) (h : byt s i = b) (hn : ∀ j, j < i → byt s j ≠ b) : ixF s b = (i : Int) := by
  unfold ixF
  have e : (List.range s.size).find? (fun i => decide (byt s i = b)) = some i := by
    rw [List.find?_eq_some_iff_getElem]
    exact ⟨decide_eq_true h, i, by simpa using hi, by simp, fun j hj => by rw [List.getElem_range, decide_eq_false (hn j hj)]; rfl⟩
  rw [e]
theorem ixF_none {s : ByteArray} {b : Nat} (hn : ∀ j, j < s.size → byt s j ≠ b) : ixF s b = -1 := by
  unfold ixF
  have e : (List.range s.size).find? (fun i => decide (byt s i = b)) = none := by
    rw [List.find?_eq_none]
    intro j hj
    simpa using hn j (by simpa using hj)
  rw [e]
theorem ixF_less {s : ByteArray} {b k : Nat} (hk : k < s.size) (h : byt s k = b) : ixF s b ≤ (k : Int) := by
  unfold ixF
  split
  · rename_i i e
    rw [List.find?_eq_some_iff_getElem] at e
    obtain ⟨_, j, hj, ej, hm⟩ := e
    rw [List.getElem_range] at ej
    subst ej
    by_cases hlt : k < j
    · have := hm k hlt
      rw [List.getElem_range, decide_eq_true h] at this
      cases this
    · omega
  · omega
/-- The test of a name. -/
theorem nm1_test {s : ByteArray} {i : Nat} (hi : i < s.size) : decide (ixF s (byt s i) < (i : Int)) = false ↔ ∀ k, k < i → byt s k ≠ byt s i := by
  rw [decide_eq_false_iff_not]
  constructor
  · intro h k hk e
    have := ixF_less (by omega) e
    omega
  · intro h
    rw [ixF_some hi rfl h]
    omega
/-- The place of the name, in MoveIndex. -/
theorem mvI_ix {s nm : ByteArray} (h1 : nm.size = 1) : (match mvI s nm with | some i => (i : Int) | none => -1) = ixF s (byt nm 0) := by
  unfold mvI ixF
  have e : (List.range s.size).find? (fun i => decide (nm.size = 1 ∧ byt nm 0 = byt s i)) = (List.range s.size).find? (fun i => decide (byt s i = byt nm 0)) := by
    apply Lib.find_congr
    intro i _
    rw [decide_eq_decide]
    exact ⟨fun h => h.2.symm, fun h => ⟨h1, h.symm⟩⟩
  rw [e]

set_option maxHeartbeats 1000000 in
set_option maxRecDepth 100000 in
/-- internal/stringslite.IndexByte. -/
theorem slIxB (s : ByteArray) (b : Nat) (hb : b ≤ 255) (w : World) :
    Calls Try.prog 110 #[.string s, .int .u8 (b : Int)] w fun e w' => e = .returned (.int .i64 (ixF s b)) ∧ w = w' := by
  go_enter Try.func110, Try.ntmps110
  go_wp2_with fail
  rw [run_callFunc_extern Try.func123 (by kernel_rfl) (by kernel_rfl) (by kernel_rfl) (e := Extern.BytealgIndexByte.indexByte) (by kernel_rfl), run_indexByte_string, ixF_idx s b hb]
  simp only [Result.andThen]
  rw [Oper.upon_value]
  go_wp2_with fail
  go_ret
  exact ⟨rfl, rfl⟩
set_option maxHeartbeats 1000000 in
set_option maxRecDepth 100000 in
/-- strings.IndexByte. -/
theorem sIxB (s : ByteArray) (b : Nat) (hb : b ≤ 255) (w : World) :
    Calls Try.prog 91 #[.string s, .int .u8 (b : Int)] w fun e w' => e = .returned (.int .i64 (ixF s b)) ∧ w = w' := by
  go_enter Try.func91, Try.ntmps91
  go_wp2_with fail
  refine (slIxB s b hb w).mono ?_
  rintro e w' ⟨rfl, rfl⟩
  go_wp2_with fail
  go_ret
  exact ⟨rfl, rfl⟩
set_option maxHeartbeats 1000000 in
set_option maxRecDepth 100000 in
/-- internal/stringslite.Index of one letter. -/
theorem slIx1 (s t : ByteArray) (h1 : t.size = 1) (w : World) :
    Calls Try.prog 92 #[.string s, .string t] w fun e w' => e = .returned (.int .i64 (ixF s (byt t 0))) ∧ ∃ q, w' = w.drewN q := by
  have hb := byt_le t 0
  have d0 : ((t.size : Int) == 0) = false := by rw [h1]; rfl
  have d1 : ((t.size : Int) == 1) = true := by rw [h1]; rfl
  have p0 : (0 : Int) < t.size := by omega
  have p1 : 0 < t.size := by omega
  have eb := byt_eq t p1
  obtain ⟨b, ebb⟩ : ∃ b, byt t 0 = b := ⟨_, rfl⟩
  rw [ebb] at eb hb
  have Eb := Lib.hid ebb
  by_cases hst : t = s
  · have te : (t.toList == s.toList) = true := by rw [hst]; simp
    have te' : (s.toList == t.toList) = true := by rw [hst]; simp
    have Fin : Hid (ixF s (byt t 0) = 0) := Lib.hid (by rw [ixF_some (i := 0) (by rw [← hst]; exact p1) (by rw [hst]) (fun j hj => absurd hj (Nat.not_lt_zero _))]; rfl)
    clear hst ebb eb
    go_enter Try.func92, Try.ntmps92
    go_wp2_with fail
    go_ret
    exact ⟨by rw [Fin.out]; try rfl, 0, rfl⟩
  · have te : (t.toList == s.toList) = false := by rw [beq_eq_false_iff_ne]; exact fun e => hst (by rw [ByteArray.toList_eq, ByteArray.toList_eq] at e; cases t; cases s; congr 1; exact Array.ext' e)
    have te' : (s.toList == t.toList) = false := by rw [beq_eq_false_iff_ne]; exact fun e => hst (by rw [ByteArray.toList_eq, ByteArray.toList_eq] at e; cases t; cases s; congr 1; exact (Array.ext' e).symm)
    rw [ebb]
    clear hst ebb
    go_enter Try.func92, Try.ntmps92
    go_wp2_with fail
    refine (slIxB s b hb _).mono ?_
    rintro e w' ⟨rfl, rfl⟩
    go_wp2_with fail
    go_ret
    exact ⟨rfl, 0, rfl⟩
set_option maxHeartbeats 1000000 in
set_option maxRecDepth 100000 in
/-- strings.Index of one letter. -/
theorem sIx1 (s t : ByteArray) (h1 : t.size = 1) (w : World) :
    Calls Try.prog 73 #[.string s, .string t] w fun e w' => e = .returned (.int .i64 (ixF s (byt t 0))) ∧ ∃ q, w' = w.drewN q := by
  go_enter Try.func73, Try.ntmps73
  go_wp2_with fail
  refine (slIx1 s t h1 w).mono ?_
  rintro e w' ⟨rfl, q, rfl⟩
  go_wp2_with fail
  go_ret
  exact ⟨rfl, q, rfl⟩
end Go.Proofs.Ytkjokchhffjidaa

/- equalInts of the model. No condition but lengths. -/
namespace Go.Proofs.Ytkjokchhffjidaa
open Go.RowKit

set_option maxHeartbeats 400000 in
theorem eqIs2_core (A B : Option Addr) (c d n : Nat) (xs ys : List Int) (w : World) (hx : RI w w.heap.size A xs) (hy : RI w w.heap.size B ys) (lx : Hid (xs.length = n)) (ly : Hid (ys.length = n)) (hn : n ≤ 2097152) :
    Calls Try.prog 72 #[.slice A n c, .slice B n d] w fun e w' => e = .returned (.bool (decide (xs = ys))) ∧ ∃ m, w' = w.drewN m := by
  go_enter Try.func72, Try.ntmps72
  go_wp2
  go_loopw [5] (fun i wr => ∃ k : Nat, k ≤ n ∧ i = .int .i64 k ∧ (∀ j, j < k → xs.getD j 0 = ys.getD j 0) ∧ ∃ m, wr = w.drewN m) (fun i _ => n - (intOf i).toNat)
  case atStart => exact ⟨0, Nat.zero_le _, rfl, fun j h => absurd h (by omega), 0, rfl⟩
  case round =>
    obtain ⟨k, hk, rfl, heq, m, rfl⟩ := hrel
    have Heq := Lib.hid heq
    clear heq
    by_cases hlt : k < n
    · obtain ⟨b, off, rfl, hb, hc⟩ := hx (by rw [lx.out]; omega)
      obtain ⟨b', off', rfl, hb', hc'⟩ := hy (by rw [ly.out]; omega)
      have c1 := hc k (by rw [lx.out]; omega)
      have c2 := hc' k (by rw [ly.out]; omega)
      obtain ⟨x, ex⟩ : ∃ x, xs.getD k 0 = x := ⟨_, rfl⟩
      obtain ⟨y, ey⟩ : ∃ y, ys.getD k 0 = y := ⟨_, rfl⟩
      rw [ex] at c1
      rw [ey] at c2
      have Ex := Lib.hid ex
      have Ey := Lib.hid ey
      clear ex ey hc hc' hx hy
      have p1 : (0 : Int) ≤ k := by omega
      have p2 : (k : Int) < n := by omega
      by_cases hxy : x = y
      · subst hxy
        go_wp2
        go_quiet (fail)
        go_wp2
        go_roundw
        case rel => exact ⟨k + 1, by omega, by go_num, fun j hj => by
          by_cases e : j = k
          · subst e; rw [Ex.out, Ey.out]
          · exact Heq.out j (by omega), _, rfl⟩
        case measure => simp [intOf]; omega
      · have hd : (x != y) = true := by simpa using hxy
        have hd' : (x == y) = false := by simpa using hxy
        go_wp2
        go_quiet (fail)
        go_wp2
        go_ret
        refine ⟨ret_bool (Eq.symm (decide_eq_false fun e => hxy ?_)), _, World.drewN_drewN _ _ _⟩
        rw [← Ex.out, ← Ey.out, e]
    · go_wp2
      go_ret
      have : k = n := by omega
      subst this
      exact ⟨ret_bool (Eq.symm (decide_eq_true (ext_getD lx.out ly.out Heq.out))), _, rfl⟩
theorem eqIs2 (A B : Option Addr) (c d n m : Nat) (xs ys : List Int) (w : World) (hx : RI w w.heap.size A xs) (hy : RI w w.heap.size B ys) (lx : Hid (xs.length = n)) (ly : Hid (ys.length = m)) (hn : n ≤ 2097152) (hm : m ≤ 2097152) :
    Calls Try.prog 72 #[.slice A n c, .slice B m d] w fun e w' => e = .returned (.bool (decide (xs = ys))) ∧ ∃ m, w' = w.drewN m := by
  by_cases hl : n = m
  · subst hl
    exact eqIs2_core A B c d n xs ys w hx hy lx ly hn
  · have hd : ((n : Int) != (m : Int)) = true := by rw [bne_iff_ne]; omega
    have hd' : ((n : Int) == (m : Int)) = false := by rw [beq_eq_false_iff_ne]; omega
    go_enter Try.func72, Try.ntmps72
    go_wp2
    go_ret
    refine ⟨ret_bool (Eq.symm (decide_eq_false fun e => hl ?_)), 0, rfl⟩
    rw [← lx.out, ← ly.out, e]
end Go.Proofs.Ytkjokchhffjidaa

/- The model's states of puzzles: IsState, IsSolved, StateCount, IsReachable, ApplyWord. Conditions: those of PIn, SIn. -/
namespace Go.Proofs.Ytkjokchhffjidaa
open Go.RowKit

def IsStc (z : Int) (s : ByteArray) (gs : List (List Int)) (v : Int) : Prop := (pzB z s gs = true ∧ IsOrd z gs v) ∨ (pzB z s gs = false ∧ v = 0)
theorem IsStc.uniq {z v v' : Int} {s : ByteArray} {gs : List (List Int)} (h : IsStc z s gs v) (k : IsStc z s gs v') : v = v' := by
  rcases h with ⟨a, h⟩ | ⟨a, rfl⟩ <;> rcases k with ⟨b, k⟩ | ⟨b, rfl⟩
  · exact h.uniq k
  · rw [a] at b; cases b
  · rw [a] at b; cases b
  · rfl
def IsRch (z : Int) (s : ByteArray) (gs : List (List Int)) (x : List Int) (b : Bool) : Prop := b = true ↔ (stB z s gs x = true ∧ Memb z gs x)
theorem IsRch.uniq {z : Int} {s : ByteArray} {gs : List (List Int)} {x : List Int} {b b' : Bool} (h : IsRch z s gs x b) (k : IsRch z s gs x b') : b = b' := by
  unfold IsRch at h k; rw [Bool.eq_iff_iff, h, k]
theorem stB_no {z : Int} {s : ByteArray} {gs : List (List Int)} {x : List Int} (h : pzB z s gs = false) : stB z s gs x = false := by unfold stB; rw [h, Bool.false_and]
theorem pz_deg {z : Int} {s : ByteArray} {gs : List (List Int)} (h : pzB z s gs = true) : ∃ N : Nat, z = (N : Int) ∧ 1 ≤ N ∧ N ≤ 20 ∧ gs.length ≤ 8 ∧ (∀ g ∈ gs, Pn N g) ∧ gB z gs = true := by
  obtain ⟨N, e, a, b, c, _, ok⟩ := gB_pm (pzB_iff.1 h).2.2.1
  exact ⟨N, e, a, b, c, ok, (pzB_iff.1 h).2.2.1⟩

set_option maxHeartbeats 1600000 in
/-- IsState. -/
theorem specIsState (z : Int) (s : ByteArray) (A : Option Addr) (n c : Nat) (vs : List SV) (gs : List (List Int)) (P : Option Addr) (np cp : Nat) (x : List Int) (w : World) (h : PIn w z s A n vs gs) (k : SIn w P np cp x) :
    Calls Try.prog 18 #[.agg #[.int .i64 z, .string s, .slice A n c], .slice P np cp] w fun e w' => e = .returned (.bool (stB z s gs x)) ∧ Below w.heap.size w w' := by
  have bV : Hid (Blk (w.alloc (.cells #[.int .i64 z, .string s, .slice A n c] 26)) w.heap.size 26 #[.int .i64 z, .string s, .slice A n c]) := Lib.hid (Blk.new w _ _)
  have BV : Hid (Below w.heap.size w (w.alloc (.cells #[.int .i64 z, .string s, .slice A n c] 26))) := Lib.hid ((Below.refl _ w).alloc (Nat.le_refl _) _)
  have HV := Lib.hid (h.up BV.out)
  have KV := Lib.hid (k.up BV.out)
  have K := specIsValidPuzzle z s A n c vs gs _ HV.out
  clear h k
  rcases hp : pzB z s gs with _ | _
  · have Fin := Lib.hid (stB_no (x := x) hp)
    rw [hp] at K
    go_enter Try.func18, Try.ntmps18
    go_wp2_with fail
    refine K.mono ?_
    rintro e w1 ⟨rfl, b1⟩
    have B1 : Hid (Below w.heap.size w w1) := Lib.hid (btr BV.out b1)
    clear K b1
    go_wp2_with fail
    go_ret
    exact ⟨ret_bool Fin.out.symm, B1.out⟩
  · obtain ⟨N, rfl, h1, h2, h8, ok, _⟩ := pz_deg hp
    have Fin : Hid ((decide (np = N) && isP x) = stB N s gs x) := Lib.hid (by
      unfold stB; rw [hp, Bool.true_and, KV.out.lp]
      congr 1
      rw [decide_eq_decide]; omega)
    rw [hp] at K
    go_enter Try.func18, Try.ntmps18
    go_wp2_with fail
    refine K.mono ?_
    rintro e w1 ⟨rfl, b1⟩
    have B1 : Hid (Below w.heap.size w w1) := Lib.hid (btr BV.out b1)
    have bx : Blk w1 w.heap.size 26 #[.int .i64 (N : Nat), .string s, .slice A n c] := bV.out.below b1 bV.out.lt
    have c0 : w1.cell? ⟨w.heap.size, 0, none⟩ = some (.int .i64 (N : Nat)) := bx.cell 0
    have K1 := Lib.hid (KV.out.up b1)
    clear K b1 bx
    go_wp2_with fail
    refine (specIsPOf P np cp w1 N x _ K1.out.ri (Lib.hid K1.out.lp) (by have := K1.out.hn; omega) K1.out.hc Fin).mono ?_
    rintro e w2 ⟨rfl, b2⟩
    have B2 : Hid (Below w.heap.size w w2) := Lib.hid (btr B1.out b2)
    clear b2
    go_wp2_with fail
    go_ret
    exact ⟨rfl, B2.out⟩

set_option maxHeartbeats 1600000 in
/-- IsSolved. -/
theorem specIsSolved (z : Int) (s : ByteArray) (A : Option Addr) (n c : Nat) (vs : List SV) (gs : List (List Int)) (P : Option Addr) (np cp : Nat) (x : List Int) (w : World) (h : PIn w z s A n vs gs) (k : SIn w P np cp x) :
    Calls Try.prog 36 #[.agg #[.int .i64 z, .string s, .slice A n c], .slice P np cp] w fun e w' => e = .returned (.bool (slB z s gs x)) ∧ Below w.heap.size w w' := by
  have bV : Hid (Blk (w.alloc (.cells #[.int .i64 z, .string s, .slice A n c] 26)) w.heap.size 26 #[.int .i64 z, .string s, .slice A n c]) := Lib.hid (Blk.new w _ _)
  have BV : Hid (Below w.heap.size w (w.alloc (.cells #[.int .i64 z, .string s, .slice A n c] 26))) := Lib.hid ((Below.refl _ w).alloc (Nat.le_refl _) _)
  have HV := Lib.hid (h.up BV.out)
  have KV := Lib.hid (k.up BV.out)
  have K := specIsState z s A n c vs gs P np cp x _ HV.out KV.out
  clear h k
  rcases hp : stB z s gs x with _ | _
  · have Fin : Hid (slB z s gs x = false) := Lib.hid (by unfold slB; rw [hp, Bool.false_and])
    rw [hp] at K
    go_enter Try.func36, Try.ntmps36
    go_wp2_with fail
    refine K.mono ?_
    rintro e w1 ⟨rfl, b1⟩
    have B1 : Hid (Below w.heap.size w w1) := Lib.hid (btr BV.out b1)
    clear K b1
    go_wp2_with fail
    go_ret
    exact ⟨ret_bool Fin.out.symm, B1.out⟩
  · have Fin : Hid (slB z s gs x = decide (x = idL z.toNat)) := Lib.hid (by unfold slB; rw [hp, Bool.true_and])
    obtain ⟨N, rfl, h1, h2, h8, ok, _⟩ := pz_deg (stB_iff.1 hp).1
    rw [hp] at K
    rw [Int.toNat_natCast] at Fin
    clear hp
    go_enter Try.func36, Try.ntmps36
    go_wp2_with fail
    refine K.mono ?_
    rintro e w1 ⟨rfl, b1⟩
    have B1 : Hid (Below w.heap.size w w1) := Lib.hid (btr BV.out b1)
    have bx : Blk w1 w.heap.size 26 #[.int .i64 (N : Nat), .string s, .slice A n c] := bV.out.below b1 bV.out.lt
    have c0 : w1.cell? ⟨w.heap.size, 0, none⟩ = some (.int .i64 (N : Nat)) := bx.cell 0
    have K1 := Lib.hid (KV.out.up b1)
    clear K b1 bx
    go_wp2_with fail
    refine (specIdent N w1 (by omega)).mono ?_
    rintro e w2 ⟨A2, c2, rfl, s2, b2⟩
    have S2 := Lib.hid s2
    have K2 := Lib.hid (K1.out.up b2)
    have B2 : Hid (Below w.heap.size w w2) := Lib.hid (btr B1.out b2)
    clear s2 b2
    go_wp2_with fail
    refine (quiet_below (eqIs2 P A2 cp c2 np N x (idL N) w2 K2.out.ri S2.out.ri_ (Lib.hid K2.out.lp) (Lib.hid S2.out.1) (by have := K2.out.hn; omega) (by omega))).mono ?_
    rintro e w3 ⟨rfl, b3⟩
    have B3 : Hid (Below w.heap.size w w3) := Lib.hid (btr B2.out b3)
    clear b3
    rw [← Fin.out]
    go_wp2_with fail
    go_ret
    exact ⟨rfl, B3.out⟩

set_option maxHeartbeats 1600000 in
/-- StateCount. -/
theorem specStateCount (z : Int) (s : ByteArray) (A : Option Addr) (n c : Nat) (vs : List SV) (gs : List (List Int)) (w : World) (h : PIn w z s A n vs gs) :
    Calls Try.prog 39 #[.agg #[.int .i64 z, .string s, .slice A n c]] w fun e w' => ∃ v, e = .returned (.int .i64 v) ∧ IsStc z s gs v ∧ Below w.heap.size w w' := by
  have bV : Hid (Blk (w.alloc (.cells #[.int .i64 z, .string s, .slice A n c] 26)) w.heap.size 26 #[.int .i64 z, .string s, .slice A n c]) := Lib.hid (Blk.new w _ _)
  have BV : Hid (Below w.heap.size w (w.alloc (.cells #[.int .i64 z, .string s, .slice A n c] 26))) := Lib.hid ((Below.refl _ w).alloc (Nat.le_refl _) _)
  have HV := Lib.hid (h.up BV.out)
  have K := specIsValidPuzzle z s A n c vs gs _ HV.out
  have HZ := Lib.hid h.z
  clear h
  rcases hp : pzB z s gs with _ | _
  · have Fin : Hid (IsStc z s gs 0) := Lib.hid (.inr ⟨hp, rfl⟩)
    rw [hp] at K
    go_enter Try.func39, Try.ntmps39
    go_wp2_with fail
    refine K.mono ?_
    rintro e w1 ⟨rfl, b1⟩
    have B1 : Hid (Below w.heap.size w w1) := Lib.hid (btr BV.out b1)
    clear K b1
    go_wp2_with fail
    go_ret
    exact ⟨0, rfl, Fin.out, B1.out⟩
  · have Hp := Lib.hid hp
    rw [hp] at K
    clear hp
    go_enter Try.func39, Try.ntmps39
    go_wp2_with fail
    refine K.mono ?_
    rintro e w1 ⟨rfl, b1⟩
    have B1 : Hid (Below w.heap.size w w1) := Lib.hid (btr BV.out b1)
    have bx : Blk w1 w.heap.size 26 #[.int .i64 z, .string s, .slice A n c] := bV.out.below b1 bV.out.lt
    have c0 : w1.cell? ⟨w.heap.size, 0, none⟩ = some (.int .i64 z) := bx.cell 0
    have c2 : w1.cell? ⟨w.heap.size, 2, none⟩ = some (.slice A n c) := bx.cell 2
    have G1 := Lib.hid (HV.out.g.up b1)
    clear K b1 bx
    go_wp2_with fail
    refine (ctOrd z A n c vs gs w1 G1.out HZ.out).mono ?_
    rintro e w2 ⟨v, rfl, r2, b2⟩
    have B2 : Hid (Below w.heap.size w w2) := Lib.hid (btr B1.out b2)
    have R2 : Hid (IsStc z s gs v) := Lib.hid (.inl ⟨Hp.out, r2⟩)
    clear b2 r2
    go_wp2_with fail
    go_ret
    exact ⟨v, rfl, R2.out, B2.out⟩

set_option maxHeartbeats 1600000 in
/-- IsReachable. -/
theorem specIsReachable (z : Int) (s : ByteArray) (A : Option Addr) (n c : Nat) (vs : List SV) (gs : List (List Int)) (P : Option Addr) (np cp : Nat) (x : List Int) (w : World) (h : PIn w z s A n vs gs) (k : SIn w P np cp x) :
    Calls Try.prog 41 #[.agg #[.int .i64 z, .string s, .slice A n c], .slice P np cp] w fun e w' => ∃ v, e = .returned (.bool v) ∧ IsRch z s gs x v ∧ Below w.heap.size w w' := by
  have bV : Hid (Blk (w.alloc (.cells #[.int .i64 z, .string s, .slice A n c] 26)) w.heap.size 26 #[.int .i64 z, .string s, .slice A n c]) := Lib.hid (Blk.new w _ _)
  have BV : Hid (Below w.heap.size w (w.alloc (.cells #[.int .i64 z, .string s, .slice A n c] 26))) := Lib.hid ((Below.refl _ w).alloc (Nat.le_refl _) _)
  have HV := Lib.hid (h.up BV.out)
  have KV := Lib.hid (k.up BV.out)
  have K := specIsState z s A n c vs gs P np cp x _ HV.out KV.out
  have HZ := Lib.hid h.z
  clear h k
  rcases hp : stB z s gs x with _ | _
  · have Fin : Hid (IsRch z s gs x false) := Lib.hid ⟨fun e => (by cases e), fun e => by rw [hp] at e; cases e.1⟩
    rw [hp] at K
    go_enter Try.func41, Try.ntmps41
    go_wp2_with fail
    refine K.mono ?_
    rintro e w1 ⟨rfl, b1⟩
    have B1 : Hid (Below w.heap.size w w1) := Lib.hid (btr BV.out b1)
    clear K b1
    go_wp2_with fail
    go_ret
    exact ⟨false, rfl, Fin.out, B1.out⟩
  · have Hp := Lib.hid hp
    rw [hp] at K
    clear hp
    go_enter Try.func41, Try.ntmps41
    go_wp2_with fail
    refine K.mono ?_
    rintro e w1 ⟨rfl, b1⟩
    have B1 : Hid (Below w.heap.size w w1) := Lib.hid (btr BV.out b1)
    have bx : Blk w1 w.heap.size 26 #[.int .i64 z, .string s, .slice A n c] := bV.out.below b1 bV.out.lt
    have c0 : w1.cell? ⟨w.heap.size, 0, none⟩ = some (.int .i64 z) := bx.cell 0
    have c2 : w1.cell? ⟨w.heap.size, 2, none⟩ = some (.slice A n c) := bx.cell 2
    have G1 := Lib.hid (HV.out.g.up b1)
    have K1 := Lib.hid (KV.out.up b1)
    clear K b1 bx
    go_wp2_with fail
    refine (ctMem z A n c vs gs P np cp x w1 G1.out K1.out HZ.out).mono ?_
    rintro e w2 ⟨v, rfl, r2, b2⟩
    have B2 : Hid (Below w.heap.size w w2) := Lib.hid (btr B1.out b2)
    have R2 : Hid (IsRch z s gs x v) := Lib.hid ⟨fun e => ⟨Hp.out, r2.1 e⟩, fun e => r2.2 e.2⟩
    clear b2 r2
    go_wp2_with fail
    go_ret
    exact ⟨v, rfl, R2.out, B2.out⟩

set_option maxHeartbeats 1600000 in
/-- ApplyWord. -/
theorem specApplyWord (z : Int) (s : ByteArray) (A : Option Addr) (n c : Nat) (vs : List SV) (gs : List (List Int)) (P : Option Addr) (np cp : Nat) (x : List Int) (D : Option Addr) (nd cd : Nat) (wd : List Int) (w : World) (h : PIn w z s A n vs gs) (k : SIn w P np cp x) (l : SIn w D nd cd wd) :
    Calls Try.prog 15 #[.agg #[.int .i64 z, .string s, .slice A n c], .slice P np cp, .slice D nd cd] w fun e w' => ∃ A' m c', e = .returned (.tuple #[.slice A' m c', .bool (apB z s gs x wd)]) ∧ Slc w' w.heap.size A' m c' (apF z s gs x wd) ∧ m ≤ 20 ∧ Below w.heap.size w w' := by
  have bV : Hid (Blk (w.alloc (.cells #[.int .i64 z, .string s, .slice A n c] 26)) w.heap.size 26 #[.int .i64 z, .string s, .slice A n c]) := Lib.hid (Blk.new w _ _)
  have BV : Hid (Below w.heap.size w (w.alloc (.cells #[.int .i64 z, .string s, .slice A n c] 26))) := Lib.hid ((Below.refl _ w).alloc (Nat.le_refl _) _)
  have HV := Lib.hid (h.up BV.out)
  have KV := Lib.hid (k.up BV.out)
  have LV := Lib.hid (l.up BV.out)
  have K := specIsState z s A n c vs gs P np cp x _ HV.out KV.out
  have hlx : Hid (gs.length = n) := Lib.hid h.g.rr.lx
  clear h k l
  rcases hp : stB z s gs x with _ | _
  · have E1 : Hid (apB z s gs x wd = false) := Lib.hid (by unfold apB; rw [hp, Bool.false_and])
    have E2 : Hid (apF z s gs x wd = []) := Lib.hid (by unfold apF; rw [E1.out]; rfl)
    rw [hp] at K
    go_enter Try.func15, Try.ntmps15
    go_wp2_with fail
    refine K.mono ?_
    rintro e w1 ⟨rfl, b1⟩
    have B1 : Hid (Below w.heap.size w w1) := Lib.hid (btr BV.out b1)
    have hz1 := B1.out.size
    clear K b1
    go_wp2_with fail
    go_ret2
    exact ⟨_, 0, _, by rw [E1.out]; try rfl, by rw [E2.out]; exact (Slc.lit0 w1 _ (Nat.le_refl _)).mono hz1, by omega, B1.out.alloc hz1 _⟩
  · have Hp := Lib.hid hp
    obtain ⟨N, rfl, h1, h2, h8, ok, _⟩ := pz_deg (stB_iff.1 hp).1
    have Ok := Lib.hid ok
    have Px : Hid (Pn N x) := Lib.hid (by have := stB_iff.1 hp; exact ⟨this.2.2, by omega⟩)
    have lpx : Hid (np = N) := Lib.hid (by rw [← KV.out.lp, Px.out.2])
    rw [hp] at K
    clear hp ok
    rcases hv : vW (n : Int) wd with _ | _
    · have Hv := Lib.hid hv
      have E1 : Hid (apB N s gs x wd = false) := Lib.hid (by unfold apB; rw [hlx.out, hv, Bool.and_false])
      have E2 : Hid (apF N s gs x wd = []) := Lib.hid (by unfold apF; rw [E1.out]; rfl)
      clear hv
      go_enter Try.func15, Try.ntmps15
      go_wp2_with fail
      refine K.mono ?_
      rintro e w1 ⟨rfl, b1⟩
      have B1 : Hid (Below w.heap.size w w1) := Lib.hid (btr BV.out b1)
      have bx : Blk w1 w.heap.size 26 #[.int .i64 (N : Nat), .string s, .slice A n c] := bV.out.below b1 bV.out.lt
      have c0 : w1.cell? ⟨w.heap.size, 0, none⟩ = some (.int .i64 (N : Nat)) := bx.cell 0
      have c2 : w1.cell? ⟨w.heap.size, 2, none⟩ = some (.slice A n c) := bx.cell 2
      have L1 := Lib.hid (LV.out.up b1)
      have hz1 := B1.out.size
      clear K b1 bx
      go_wp2_with fail
      refine (specIsWordOf n D nd cd wd w1 L1.out.ri (Lib.hid L1.out.lp) (by have := L1.out.hn; omega)).mono ?_
      rintro e w' ⟨rfl, rfl⟩
      rw [Hv.out]
      go_wp2_with fail
      go_ret2
      exact ⟨_, 0, _, by rw [E1.out]; try rfl, by rw [E2.out]; exact (Slc.lit0 w1 _ (Nat.le_refl _)).mono hz1, by omega, B1.out.alloc hz1 _⟩
    · have Hv := Lib.hid hv
      have E1 : Hid (apB N s gs x wd = true) := Lib.hid (by unfold apB; rw [hlx.out, hv, Hp.out]; rfl)
      have E2 : Hid (apF N s gs x wd = compL x (evW N gs wd)) := Lib.hid (by unfold apF; rw [if_pos E1.out, Int.toNat_natCast])
      have Hw : Hid (∀ l ∈ wd, LtG gs l) := Lib.hid (vW_ltg (by rw [hlx.out]; exact hv))
      have hnd : nd ≤ 200 := by rw [← LV.out.lp]; exact (vW_iff.1 hv).1
      have hm8 : n ≤ 8 := by rw [← hlx.out]; exact h8
      have Pe : Hid (Pn N (evW N gs wd)) := Lib.hid (evW_pn Ok.out h1 h2 Hw.out)
      clear hv
      go_enter Try.func15, Try.ntmps15
      go_wp2_with fail
      refine K.mono ?_
      rintro e w1 ⟨rfl, b1⟩
      have B1 : Hid (Below w.heap.size w w1) := Lib.hid (btr BV.out b1)
      have bx : Blk w1 w.heap.size 26 #[.int .i64 (N : Nat), .string s, .slice A n c] := bV.out.below b1 bV.out.lt
      have c0 : w1.cell? ⟨w.heap.size, 0, none⟩ = some (.int .i64 (N : Nat)) := bx.cell 0
      have c2 : w1.cell? ⟨w.heap.size, 2, none⟩ = some (.slice A n c) := bx.cell 2
      have L1 := Lib.hid (LV.out.up b1)
      have K1 := Lib.hid (KV.out.up b1)
      have G1 := Lib.hid (HV.out.g.up b1)
      clear K b1 bx
      go_wp2_with fail
      refine (specIsWordOf n D nd cd wd w1 L1.out.ri (Lib.hid L1.out.lp) (by omega)).mono ?_
      rintro e w' ⟨rfl, rfl⟩
      rw [Hv.out]
      go_wp2_with fail
      refine (specEvW N n c nd cd A D vs gs wd w1 G1.out.rr L1.out.ri (Lib.hid L1.out.lp) Ok Hw h1 h2 hm8 hnd).mono ?_
      rintro e w2 ⟨A2, c2', rfl, s2, b2⟩
      have S2 := Lib.hid s2
      have K2 := Lib.hid (K1.out.up b2)
      have B2 : Hid (Below w.heap.size w w2) := Lib.hid (btr B1.out b2)
      have hz2 := B2.out.size
      clear s2 b2
      obtain rfl : np = N := lpx.out
      go_wp2_with fail
      refine (specComp P A2 cp c2' np x (evW np gs wd) w2 K2.out.ri S2.out.ri_ (Lib.hid K2.out.lp) (Lib.hid Pe.out.2) (Lib.hid Px.out.1) h2).mono ?_
      rintro e w3 ⟨A3, c3, rfl, s3, b3⟩
      have S3 : Hid (Slc w3 w.heap.size A3 np c3 (apF np s gs x wd)) := Lib.hid (by rw [E2.out]; exact s3.mono hz2)
      have B3 : Hid (Below w.heap.size w w3) := Lib.hid (btr B2.out b3)
      clear s3 b3
      go_wp2_with fail
      go_ret2
      exact ⟨A3, np, c3, by rw [E1.out]; try rfl, S3.out, h2, B3.out⟩
end Go.Proofs.Ytkjokchhffjidaa

/- slices.Equal of what can be read. Conditions: at most 2097152 numbers. -/
namespace Go.Proofs.Ytkjokchhffjidaa
open Go.RowKit

set_option maxHeartbeats 400000 in
/-- slices.Equal of two lists that can be read. -/
theorem sEq_core (A B : Option Addr) (c d n : Nat) (xs ys : List Int) (w : World) (hx : RI w w.heap.size A xs) (hy : RI w w.heap.size B ys) (lx : Hid (xs.length = n)) (ly : Hid (ys.length = n)) (hn : n ≤ 2097152) :
    Calls Try.prog 59 #[.slice A n c, .slice B n d] w fun e w' => e = .returned (.bool (decide (xs = ys))) ∧ ∃ m, w' = w.drewN m := by
  go_enter Try.func59, Try.ntmps59
  go_wp2
  go_loopw [5, 13] (fun _ i wr => ∃ k : Nat, k ≤ n ∧ i = .int .i64 k ∧ (∀ j, j < k → xs.getD j 0 = ys.getD j 0) ∧ ∃ m, wr = w.drewN m) (fun _ i _ => n - (intOf i).toNat)
  case atStart => exact ⟨0, Nat.zero_le _, rfl, fun j h => absurd h (by omega), 0, rfl⟩
  case round =>
    obtain ⟨k, hk, rfl, heq, m, rfl⟩ := hrel
    have Heq := Lib.hid heq
    clear heq
    by_cases hlt : k < n
    · obtain ⟨b, off, rfl, hb, hc⟩ := hx (by rw [lx.out]; omega)
      obtain ⟨b', off', rfl, hb', hc'⟩ := hy (by rw [ly.out]; omega)
      have c1 := hc k (by rw [lx.out]; omega)
      have c2 := hc' k (by rw [ly.out]; omega)
      obtain ⟨x, ex⟩ : ∃ x, xs.getD k 0 = x := ⟨_, rfl⟩
      obtain ⟨y, ey⟩ : ∃ y, ys.getD k 0 = y := ⟨_, rfl⟩
      rw [ex] at c1
      rw [ey] at c2
      have Ex := Lib.hid ex
      have Ey := Lib.hid ey
      clear ex ey hc hc' hx hy
      have p1 : (0 : Int) ≤ k := by omega
      have p2 : (k : Int) < n := by omega
      by_cases hxy : x = y
      · subst hxy
        go_wp2
        go_quiet (fail)
        go_wp2
        go_roundw
        case rel => exact ⟨k + 1, by omega, by go_num, fun j hj => by
          by_cases e : j = k
          · subst e; rw [Ex.out, Ey.out]
          · exact Heq.out j (by omega), _, rfl⟩
        case measure => simp [intOf]; omega
      · have hd : (x != y) = true := by simpa using hxy
        have hd' : (x == y) = false := by simpa using hxy
        go_wp2
        go_quiet (fail)
        go_wp2
        go_ret
        refine ⟨ret_bool (Eq.symm (decide_eq_false fun e => hxy ?_)), _, World.drewN_drewN _ _ _⟩
        rw [← Ex.out, ← Ey.out, e]
    · go_wp2
      go_ret
      have : k = n := by omega
      subst this
      exact ⟨ret_bool (Eq.symm (decide_eq_true (ext_getD lx.out ly.out Heq.out))), _, rfl⟩
theorem sEq (A B : Option Addr) (c d n m : Nat) (xs ys : List Int) (w : World) (hx : RI w w.heap.size A xs) (hy : RI w w.heap.size B ys) (lx : Hid (xs.length = n)) (ly : Hid (ys.length = m)) (hn : n ≤ 2097152) (hm : m ≤ 2097152) :
    Calls Try.prog 59 #[.slice A n c, .slice B m d] w fun e w' => e = .returned (.bool (decide (xs = ys))) ∧ ∃ m, w' = w.drewN m := by
  by_cases hl : n = m
  · subst hl
    exact sEq_core A B c d n xs ys w hx hy lx ly hn
  · have hd : ((n : Int) != (m : Int)) = true := by rw [bne_iff_ne]; omega
    have hd' : ((n : Int) == (m : Int)) = false := by rw [beq_eq_false_iff_ne]; omega
    go_enter Try.func59, Try.ntmps59
    go_wp2
    go_ret
    refine ⟨ret_bool (Eq.symm (decide_eq_false fun e => hl ?_)), 0, rfl⟩
    rw [← lx.out, ← ly.out, e]

end Go.Proofs.Ytkjokchhffjidaa

/- Plain facts on texts: numbers in decimal, joined by a sign, and how they are read again. No Go in it. No condition. -/
namespace Go.Proofs.Ytkjokchhffjidaa

/-- The decimal digits of a number below 100. -/
def dig (x : Nat) : List UInt8 := if x < 10 then [UInt8.ofNat (48 + x)] else [UInt8.ofNat (48 + x / 10), UInt8.ofNat (48 + x % 10)]
def isD (b : UInt8) : Bool := decide (48 ≤ b.toNat) && decide (b.toNat ≤ 57)
def dval (l : List UInt8) : Nat := l.foldl (fun a b => 10 * a + (b.toNat - 48)) 0
/-- Not empty, at most nine signs, no 0 ahead of others. -/
def okD (l : List UInt8) : Bool := decide (1 ≤ l.length) && decide (l.length ≤ 9) && !(l.head? == some 48 && decide (1 < l.length))
def pD (l : List UInt8) : Option Nat := if okD l = true then some (dval l) else none
def pW (l : List UInt8) : Option Nat := if l.all isD = true then pD l else none

theorem dval_snoc (l : List UInt8) (b : UInt8) : dval (l ++ [b]) = 10 * dval l + (b.toNat - 48) := by simp [dval]
theorem dval_lt (l : List UInt8) (h : l.all isD = true) : dval l < 10 ^ l.length := by
  have : ∀ r : List UInt8, r.all isD = true → dval r.reverse < 10 ^ r.length := by
    intro r
    induction r with
    | nil => intro _; decide
    | cons b t ih =>
      intro hr
      rw [List.all_cons, Bool.and_eq_true] at hr
      have h1 := ih hr.2
      have h2 : b.toNat ≤ 57 := by have := hr.1; unfold isD at this; simp at this; omega
      rw [List.reverse_cons, dval_snoc, List.length_cons, Nat.pow_succ]
      omega
  have h2 := this l.reverse (by rw [List.all_reverse]; exact h)
  rw [List.reverse_reverse, List.length_reverse] at h2
  exact h2
theorem dig_facts : ∀ x, x < 20 → (dig x).all isD = true ∧ okD (dig x) = true ∧ dval (dig x) = x ∧ 1 ≤ (dig x).length ∧ (dig x).length ≤ 2 ∧ dig x ≠ [] := by decide

/-- Joined, with the sign b between. -/
def jn (b : UInt8) : List (List UInt8) → List UInt8
  | [] => []
  | [w] => w
  | w :: v :: r => w ++ b :: jn b (v :: r)
theorem jn_cons (b : UInt8) (w : List UInt8) {r : List (List UInt8)} (h : r ≠ []) : jn b (w :: r) = w ++ b :: jn b r := by
  cases r with
  | nil => exact absurd rfl h
  | cons v r => rfl
theorem jn_snoc (b : UInt8) (ws : List (List UInt8)) (w : List UInt8) (h : ws ≠ []) : jn b (ws ++ [w]) = jn b ws ++ b :: w := by
  induction ws with
  | nil => exact absurd rfl h
  | cons v r ih =>
    by_cases e : r = []
    · subst e; rfl
    · rw [List.cons_append, jn_cons b v (by simp), ih e, jn_cons b v e]; simp

/-- The pieces between the signs b. -/
def splitB (b : UInt8) : List UInt8 → List (List UInt8)
  | [] => [[]]
  | x :: r => if x = b then [] :: splitB b r else (x :: (splitB b r).headD []) :: (splitB b r).tail
theorem splitB_ne (b : UInt8) (l : List UInt8) : splitB b l ≠ [] := by
  cases l with
  | nil => simp [splitB]
  | cons x r => unfold splitB; split <;> simp
theorem splitB_word (b : UInt8) (w : List UInt8) (h : ∀ x ∈ w, x ≠ b) : splitB b w = [w] := by
  induction w with
  | nil => rfl
  | cons x r ih =>
    have := ih fun y hy => h y (by simp [hy])
    rw [splitB, if_neg (h x (by simp)), this]; rfl
theorem splitB_sep (b : UInt8) (w r : List UInt8) (h : ∀ x ∈ w, x ≠ b) : splitB b (w ++ b :: r) = w :: splitB b r := by
  induction w with
  | nil => simp [splitB]
  | cons x t ih =>
    have := ih fun y hy => h y (by simp [hy])
    rw [List.cons_append, splitB, if_neg (h x (by simp)), this]; rfl
theorem splitB_jn (b : UInt8) (ws : List (List UInt8)) (hne : ws ≠ []) (h : ∀ w ∈ ws, ∀ x ∈ w, x ≠ b) : splitB b (jn b ws) = ws := by
  induction ws with
  | nil => exact absurd rfl hne
  | cons w r ih =>
    by_cases e : r = []
    · subst e; exact splitB_word b w (h w (by simp))
    · rw [jn_cons b w e, splitB_sep b w _ (h w (by simp)), ih e fun v hv => h v (by simp [hv])]
theorem splitB_length (b : UInt8) (l : List UInt8) : (splitB b l).length ≤ l.length + 1 := by
  induction l with
  | nil => simp [splitB]
  | cons x r ih =>
    have h1 : 1 ≤ (splitB b r).length := by
      have := splitB_ne b r
      cases e : splitB b r with
      | nil => exact absurd e this
      | cons => simp
    unfold splitB
    split
    · simp; omega
    · simp; omega

/-- Numbers with single blanks between, from the head of a text: the numbers and what is left. -/
def numsP (l : List UInt8) : Option (List Nat × List UInt8) :=
  match pD (l.takeWhile isD) with
  | none => none
  | some x =>
    if h : (l.dropWhile isD).head? = some 32 then (numsP (l.dropWhile isD).tail).map fun y => (x :: y.1, y.2)
    else some ([x], l.dropWhile isD)
termination_by l.length
decreasing_by
  have h1 : (l.dropWhile isD).length ≤ l.length := (List.dropWhile_sublist _).length_le
  cases e : l.dropWhile isD with
  | nil => rw [e] at h; cases h
  | cons a t => rw [e] at h1; simp at h1 ⊢; omega

theorem numsP_none {l : List UInt8} (h : pD (l.takeWhile isD) = none) : numsP l = none := by rw [numsP, h]
theorem numsP_last {l : List UInt8} {x : Nat} (h : pD (l.takeWhile isD) = some x) (h2 : (l.dropWhile isD).head? ≠ some 32) : numsP l = some ([x], l.dropWhile isD) := by
  rw [numsP, h]; simp only [dif_neg h2]
theorem numsP_more {l : List UInt8} {x : Nat} (h : pD (l.takeWhile isD) = some x) (h2 : (l.dropWhile isD).head? = some 32) : numsP l = (numsP (l.dropWhile isD).tail).map fun y => (x :: y.1, y.2) := by
  rw [numsP, h]; simp only [dif_pos h2]

theorem takeWhile_app {w r : List UInt8} (h : w.all isD = true) (hr : ∀ b, r.head? = some b → isD b = false) : (w ++ r).takeWhile isD = w ∧ (w ++ r).dropWhile isD = r := by
  induction w with
  | nil =>
    cases r with
    | nil => exact ⟨rfl, rfl⟩
    | cons a t => have := hr a rfl; simp [this]
  | cons a t ih =>
    rw [List.all_cons, Bool.and_eq_true] at h
    have := ih h.2
    simp [h.1, this]

/-- Points in decimal, blanks between. -/
def fmtI (l : List Int) : List UInt8 := jn 32 (l.map fun x => dig x.toNat)
def Pts (l : List Int) : Prop := ∀ x ∈ l, 0 ≤ x ∧ x < 20
theorem Pts.tail {x : Int} {l : List Int} (h : Pts (x :: l)) : Pts l := fun y hy => h y (by simp [hy])
theorem fmtI_cons (x : Int) {l : List Int} (h : l ≠ []) : fmtI (x :: l) = dig x.toNat ++ 32 :: fmtI l := by
  unfold fmtI; rw [List.map_cons, jn_cons 32 _ (by simpa using h)]
theorem numsP_fmt : ∀ (l : List Int) (r : List UInt8), Pts l → l ≠ [] → (∀ b, r.head? = some b → isD b = false ∧ b ≠ 32) → numsP (fmtI l ++ r) = some (l.map Int.toNat, r) := by
  intro l
  induction l with
  | nil => intro r _ h; exact absurd rfl h
  | cons x t ih =>
    intro r hp _ hr
    have hx := hp x (by simp)
    obtain ⟨d1, d2, d3, d4, d5, d6⟩ := dig_facts x.toNat (by omega)
    by_cases e : t = []
    · subst e
      obtain ⟨t1, t2⟩ := takeWhile_app (w := dig x.toNat) (r := r) d1 fun b hb => (hr b hb).1
      have hpd : pD ((dig x.toNat ++ r).takeWhile isD) = some x.toNat := by rw [t1]; unfold pD; rw [if_pos d2, d3]
      show numsP (dig x.toNat ++ r) = _
      rw [numsP_last hpd (by rw [t2]; intro h; exact (hr _ h).2 rfl), t2]; rfl
    · rw [fmtI_cons x e, List.append_assoc, List.cons_append]
      obtain ⟨t1, t2⟩ := takeWhile_app (w := dig x.toNat) (r := 32 :: (fmtI t ++ r)) d1 fun b hb => by simp at hb; subst hb; decide
      have hpd : pD ((dig x.toNat ++ 32 :: (fmtI t ++ r)).takeWhile isD) = some x.toNat := by rw [t1]; unfold pD; rw [if_pos d2, d3]
      rw [numsP_more hpd (by rw [t2]; rfl), t2]
      show (numsP (fmtI t ++ r)).map _ = _
      rw [ih r hp.tail e hr]; rfl

/-- The model's reading of a list of words. -/
def wordsP (b : UInt8) (l : List UInt8) : Option (List Nat) := (splitB b l).mapM pW
theorem mapM_cons_ {α β : Type} (f : α → Option β) (a : α) (l : List α) : (a :: l).mapM f = (f a).bind fun x => (l.mapM f).map (x :: ·) := by
  rw [List.mapM_cons]
  cases f a with
  | none => rfl
  | some x => cases h : l.mapM f <;> simp [h]
theorem not_isD_32 {x : UInt8} (h : isD x = true) : x ≠ 32 := by intro e; subst e; exact absurd h (by decide)
theorem all_isD_ne {w : List UInt8} (h : w.all isD = true) (b : UInt8) (hb : isD b = false) : ∀ x ∈ w, x ≠ b := fun x hx e => by
  have := List.all_eq_true.1 h x hx
  rw [e, hb] at this; cases this

theorem twdw (l : List UInt8) : l = l.takeWhile isD ++ l.dropWhile isD := (List.takeWhile_append_dropWhile ..).symm
theorem tw_all (l : List UInt8) : (l.takeWhile isD).all isD = true := by
  induction l with
  | nil => rfl
  | cons a t ih =>
    rw [List.takeWhile_cons]
    split
    · rename_i h; rw [List.all_cons, h, ih]; rfl
    · rfl
theorem dw_head (l : List UInt8) : ∀ b, (l.dropWhile isD).head? = some b → isD b = false := by
  induction l with
  | nil => intro b h; cases h
  | cons a t ih =>
    intro b h
    rw [List.dropWhile_cons] at h
    split at h
    · exact ih b h
    · rename_i h2; simp at h; subst h; simpa using h2

/-- A text read as numbers to its end: the two ways agree. -/
theorem nums_words : ∀ (n : Nat) (l : List UInt8), l.length ≤ n → (match numsP l with | some (xs, []) => some xs | _ => none) = wordsP 32 l := by
  intro n
  induction n with
  | zero =>
    intro l hl
    obtain rfl : l = [] := List.eq_nil_of_length_eq_zero (by omega)
    rw [numsP_none (by decide)]; rfl
  | succ n ih =>
    intro l hl
    have e0 := twdw l
    have ha := tw_all l
    have hh := dw_head l
    have hw := all_isD_ne ha 32 (by decide)
    unfold wordsP
    rcases hr : l.dropWhile isD with _ | ⟨c, r⟩
    · have el : l = l.takeWhile isD := by rw [hr, List.append_nil] at e0; exact e0
      have es : splitB 32 l = [l.takeWhile isD] := by
        conv => lhs; rw [el]
        exact splitB_word 32 _ hw
      rw [es, mapM_cons_]
      have hp : pW (l.takeWhile isD) = pD (l.takeWhile isD) := if_pos ha
      rw [hp]
      cases hd : pD (l.takeWhile isD) with
      | none => rw [numsP_none hd]; rfl
      | some x => rw [numsP_last hd (by rw [hr]; simp), hr]; rfl
    · have hc := hh c (by rw [hr]; rfl)
      by_cases h32 : c = 32
      · subst h32
        have es : splitB 32 l = l.takeWhile isD :: splitB 32 r := by
          conv => lhs; rw [e0, hr]
          exact splitB_sep 32 _ r hw
        rw [es, mapM_cons_]
        have hp : pW (l.takeWhile isD) = pD (l.takeWhile isD) := if_pos ha
        rw [hp]
        have hlen : r.length ≤ n := by
          have h1 : (l.dropWhile isD).length ≤ l.length := (List.dropWhile_sublist _).length_le
          rw [hr] at h1; simp at h1; omega
        have hi := ih r hlen
        unfold wordsP at hi
        cases hd : pD (l.takeWhile isD) with
        | none => rw [numsP_none hd]; rfl
        | some x =>
          rw [numsP_more hd (by rw [hr]; rfl), hr]
          show (match (numsP r).map (fun y => (x :: y.1, y.2)) with | some (xs, []) => some xs | _ => none) = ((splitB 32 r).mapM pW).map (x :: ·)
          rw [← hi]
          rcases numsP r with _ | ⟨xs, _ | ⟨a, t⟩⟩ <;> rfl
      · have hn : (match numsP l with | some (xs, []) => some xs | _ => none) = (none : Option (List Nat)) := by
          cases hd : pD (l.takeWhile isD) with
          | none => rw [numsP_none hd]
          | some x => rw [numsP_last hd (by rw [hr]; simpa using h32), hr]
        rw [hn]
        have hs : ∃ t ts, splitB 32 l = (l.takeWhile isD ++ c :: t) :: ts := by
          rw [e0, hr]
          have : ∀ w : List UInt8, (∀ x ∈ w, x ≠ 32) → ∃ t ts, splitB 32 (w ++ c :: r) = (w ++ c :: t) :: ts := by
            intro w
            induction w with
            | nil => intro _; exact ⟨(splitB 32 r).headD [], (splitB 32 r).tail, by rw [List.nil_append, splitB, if_neg h32]; rfl⟩
            | cons a w ihw =>
              intro h
              obtain ⟨t, ts, e⟩ := ihw fun x hx => h x (by simp [hx])
              exact ⟨t, ts, by rw [List.cons_append, splitB, if_neg (h a (by simp)), e]; rfl⟩
          have := this _ hw
          rw [← hr, ← e0] at this ⊢
          exact this
        obtain ⟨t, ts, es⟩ := hs
        rw [es, mapM_cons_]
        have hpw : pW (l.takeWhile isD ++ c :: t) = none := by
          unfold pW
          rw [if_neg]
          rw [List.all_append, List.all_cons, hc]; simp
        rw [hpw]; rfl

theorem wordsP_fmt {l : List Int} (h : Pts l) (hne : l ≠ []) : wordsP 32 (fmtI l) = some (l.map Int.toNat) := by
  rw [← nums_words _ _ (Nat.le_refl _)]
  have := numsP_fmt l [] h hne (by simp)
  rw [List.append_nil] at this
  rw [this]
end Go.Proofs.Ytkjokchhffjidaa

/- The program's cursor over a text. Condition: the position is no further than the end. -/
namespace Go.Proofs.Ytkjokchhffjidaa
open Go.RowKit



theorem len_toList (s : ByteArray) : s.toList.length = s.size := by rw [ByteArray.toList_eq]; exact Array.length_toList
theorem getD_toList (s : ByteArray) {j : Nat} (h : j < s.size) : s.data.toList.getD j 0 = s[j] := by
  rw [List.getD_eq_getElem?_getD, List.getElem?_eq_getElem (by have := len_toList s; rw [ByteArray.toList_eq] at this; omega)]; rfl
theorem get_toList (s : ByteArray) {j : Nat} (h : j < s.size) : s.toList[j]'(by rw [len_toList]; exact h) = s[j] := by
  simp only [ByteArray.toList_eq]; rfl
theorem empty_yes {s : ByteArray} (h : s.size = 0) : s.toList.isEmpty = true := by
  rw [List.isEmpty_iff]; exact List.eq_nil_of_length_eq_zero (by rw [len_toList]; exact h)
theorem empty_no {s : ByteArray} (h : ¬ s.size = 0) : s.toList.isEmpty = false := by
  rw [Bool.eq_false_iff]; intro e; rw [List.isEmpty_iff] at e; apply h; rw [← len_toList, e]; rfl
theorem okD_toList (s : ByteArray) : okD s.toList = (decide (1 ≤ s.size) && decide (s.size ≤ 9) && !(s.toList.head? == some 48 && decide (1 < s.size))) := by unfold okD; rw [len_toList]
theorem head_toList (s : ByteArray) (h : 0 < s.size) : s.toList.head? = some s[0] := by
  rw [List.head?_eq_getElem?, List.getElem?_eq_getElem (by rw [len_toList]; exact h), get_toList s h]
theorem take_toList (s : ByteArray) {j : Nat} (h : j < s.size) : s.toList.take (j + 1) = s.toList.take j ++ [s[j]] := by
  rw [List.take_succ_eq_append_getElem (by rw [len_toList]; exact h), get_toList s h]


/-- What is left of the text from place k on. -/
def rest (s : ByteArray) (k : Nat) : List UInt8 := s.toList.drop k
theorem rest_cons (s : ByteArray) {k : Nat} (h : k < s.size) : rest s k = s[k] :: rest s (k + 1) := by
  unfold rest; rw [List.drop_eq_getElem_cons (by rw [len_toList]; exact h), get_toList s h]
theorem rest_end (s : ByteArray) {k : Nat} (h : s.size ≤ k) : rest s k = [] := by
  unfold rest; exact List.drop_of_length_le (by rw [len_toList]; exact h)
theorem rest_head (s : ByteArray) (k : Nat) (b : UInt8) (hk : k ≤ s.size) : (rest s k).head? = some b ↔ ∃ h : k < s.size, s[k] = b := by
  by_cases h : k < s.size
  · rw [rest_cons s h]; simp [h]
  · rw [rest_end s (by omega)]; simp [h]
/-- The piece of the text from a to b. -/
theorem extract_toList (s : ByteArray) (a b : Nat) : (s.extract a b).toList = (s.toList.drop a).take (b - a) := by
  rw [ByteArray.toList_eq, ByteArray.toList_eq]
  simp [ByteArray.data_extract, List.extract_eq_take_drop]
theorem drop_take_while (s : ByteArray) (a : Nat) {k : Nat} (hk : a ≤ k) (h : ∀ j, a ≤ j → j < k → ∃ hj : j < s.size, isD s[j] = true) (he : ∀ hj : k < s.size, isD s[k] = false) :
    (rest s a).takeWhile isD = (rest s a).take (k - a) ∧ (rest s a).dropWhile isD = rest s k := by
  obtain ⟨d, rfl⟩ : ∃ d, k = a + d := ⟨k - a, by omega⟩
  have e1 : a + d - a = d := by omega
  rw [e1]
  clear e1 hk
  induction d generalizing a with
  | zero =>
    by_cases hj : a < s.size
    · have hf := he hj
      have e := rest_cons s hj
      have hf' : isD s[a] = false := hf
      refine ⟨?_, ?_⟩
      · rw [e, List.takeWhile_cons, hf']; rfl
      · rw [e, List.dropWhile_cons, hf']; exact e.symm
    · have e := rest_end s (k := a) (by omega)
      refine ⟨?_, ?_⟩
      · rw [e]; rfl
      · rw [e]; exact e.symm
  | succ d ih =>
    obtain ⟨hj, hd⟩ := h a (Nat.le_refl _) (by omega)
    have ea : a + (d + 1) = a + 1 + d := by omega
    have he' : ∀ hj : a + 1 + d < s.size, isD s[a + 1 + d] = false := by
      intro hj
      have := he (by omega)
      simp only [ea] at this
      exact this
    have := ih (a + 1) (fun j h1 h2 => h j (by omega) (by omega)) he'
    rw [ea, rest_cons s hj, List.takeWhile_cons, List.dropWhile_cons, hd]
    simp only [if_true, List.take_succ_cons]
    rw [this.1, this.2]
    exact ⟨rfl, rfl⟩

end Go.Proofs.Ytkjokchhffjidaa

/- The program's puzzles: names, IsValidPuzzle, IsState, IsSolved, StateCount, IsReachable. Conditions: those of PIn, SIn. -/

namespace Go.Proofs.Ytkjokchhffjidaa
open Go.RowKit

set_option maxHeartbeats 4000000 in
set_option maxRecDepth 100000 in
/-- areDistinctLetters. -/
theorem implADL (s : ByteArray) (w : World) (hs : s.size ≤ 1048576) :
    Calls Try.prog 67 #[.string s] w fun e w' => e = .returned (.bool (nmB s)) ∧ Below w.heap.size w w' := by
  have hcv := Lib.run_convert_string_bytes (P := Try.prog) w 9 22 5 s (u := .string) Try.underlying9 Try.underlying22 Try.underlying5
  obtain ⟨C, eC⟩ : ∃ C, grownCap w s.size 0 5 = C := ⟨_, rfl⟩
  obtain ⟨W1, eW⟩ : ∃ W1, Lib.bytesWorld w 5 s = W1 := ⟨_, rfl⟩
  rw [eC, eW] at hcv
  have hcell : Hid (∀ j (hj : j < s.size), W1.cell? ⟨w.heap.size, j, none⟩ = some (.int .u8 (s[j]).toNat)) := Lib.hid fun j hj => by rw [← eW, Lib.bytesWorld_cell w _ s j hj, getD_toList s hj]
  have B1 : Hid (Below w.heap.size w W1) := Lib.hid (by
    rw [← eW]
    exact ⟨rfl, rfl, rfl, by rw [Lib.bytesWorld_size]; omega, fun i hi => Lib.bytesWorld_at_old w _ s i hi⟩)
  clear eC eW
  go_enter Try.func67, Try.ntmps67
  go_wp2_with fail
  go_loopw [8] (fun iv wr => ∃ i : Nat, i ≤ s.size ∧ iv = .int .i64 (i : Nat) ∧ (∀ j, j < i → nm1B s j = true) ∧ ∃ q, wr = W1.drewN q) (fun iv _ => s.size - (intOf iv).toNat)
  case atStart => exact ⟨0, Nat.zero_le _, rfl, fun j h => absurd h (Nat.not_lt_zero _), 0, rfl⟩
  case round =>
    obtain ⟨i, hi, rfl, hok, q, rfl⟩ := hrel
    have Hok := Lib.hid hok
    have Be : Hid (∀ q, Below w.heap.size w (W1.drewN q)) := Lib.hid fun q => below_drewN B1.out q
    clear hok
    by_cases hlt : i < s.size
    · have c1 : (W1.drewN q).cell? ⟨w.heap.size, i, none⟩ = some (.int .u8 (byt s i : Int)) := by rw [← byt_eq s hlt]; exact hcell.out i hlt
      have hb := byt_le s i
      have Tst := Lib.hid (nm1_test hlt)
      have E1 := Lib.hid (nm1B_iff (s := s) (i := i))
      obtain ⟨b, eb⟩ : ∃ b, byt s i = b := ⟨_, rfl⟩
      rw [eb] at c1 hb Tst E1
      have p0 : (0 : Int) ≤ i := by omega
      have p1 : (i : Int) < s.size := by omega
      have K := fun w => sIxB s b hb w
      obtain ⟨r, er⟩ : ∃ r, ixF s b = r := ⟨_, rfl⟩
      rw [er] at K Tst
      clear eb er
      by_cases h1 : 65 ≤ b
      · have d1 : decide ((b : Int) < 65) = false := by simp; omega
        by_cases h2 : b ≤ 90
        · have d2 : decide ((90 : Int) < (b : Int)) = false := by simp; omega
          by_cases h3 : r < (i : Int)
          · have d3 : decide (r < (i : Int)) = true := decide_eq_true h3
            have Fin : Hid (nmB s = false) := Lib.hid (nmB_bad hlt (by
              rcases e : nm1B s i with _ | _
              · rfl
              · have := Tst.out.2 (E1.out.1 e).2.2
                rw [d3] at this; cases this))
            clear h3
            go_wp2_with fail
            refine (K _).mono ?_
            rintro e w' ⟨rfl, rfl⟩
            clear K
            go_wp2_with fail
            go_ret
            exact ⟨ret_bool Fin.out.symm, Be.out _⟩
          · have d3 : decide (r < (i : Int)) = false := decide_eq_false h3
            have Nx : Hid (nm1B s i = true) := Lib.hid (E1.out.2 ⟨h1, h2, Tst.out.1 d3⟩)
            clear h3
            go_wp2_with fail
            refine (K _).mono ?_
            rintro e w' ⟨rfl, rfl⟩
            clear K
            go_wp2_with fail
            go_roundw
            case rel => exact ⟨i + 1, by omega, by go_num, fun j hj => by
              by_cases e : j = i
              · subst e; exact Nx.out
              · exact Hok.out j (by omega), _, rfl⟩
            case measure => simp [intOf]; omega
        · have d2 : decide ((90 : Int) < (b : Int)) = true := by simp; omega
          have Fin : Hid (nmB s = false) := Lib.hid (nmB_bad hlt (by
            rcases e : nm1B s i with _ | _
            · rfl
            · exact absurd (E1.out.1 e).2.1 h2))
          clear K
          go_wp2_with fail
          go_ret
          exact ⟨ret_bool Fin.out.symm, Be.out _⟩
      · have d1 : decide ((b : Int) < 65) = true := by simp; omega
        have Fin : Hid (nmB s = false) := Lib.hid (nmB_bad hlt (by
          rcases e : nm1B s i with _ | _
          · rfl
          · exact absurd (E1.out.1 e).1 h1))
        clear K
        go_wp2_with fail
        go_ret
        exact ⟨ret_bool Fin.out.symm, Be.out _⟩
    · obtain hie : i = s.size := by omega
      subst hie
      have Fin : Hid (nmB s = true) := Lib.hid (nmB_iff.2 Hok.out)
      go_wp2_with fail
      go_ret
      exact ⟨ret_bool Fin.out.symm, Be.out _⟩
set_option maxHeartbeats 1600000 in
set_option maxRecDepth 100000 in
/-- IsValidPuzzle. -/
theorem implIsValidPuzzle (z : Int) (s : ByteArray) (A : Option Addr) (n c : Nat) (vs : List SV) (gs : List (List Int)) (w : World) (h : PIn w z s A n vs gs) :
    Calls Try.prog 27 #[.agg #[.int .i64 z, .string s, .slice A n c]] w fun e w' => e = .returned (.bool (pzB z s gs)) ∧ Below w.heap.size w w' := by
  have hlx : Hid (gs.length = n) := Lib.hid h.g.rr.lx
  have hs := h.s
  have bV : Hid (Blk (w.alloc (.cells #[.int .i64 z, .string s, .slice A n c] 26)) w.heap.size 26 #[.int .i64 z, .string s, .slice A n c]) := Lib.hid (Blk.new w _ _)
  have BV : Hid (Below w.heap.size w (w.alloc (.cells #[.int .i64 z, .string s, .slice A n c] 26))) := Lib.hid ((Below.refl _ w).alloc (Nat.le_refl _) _)
  have HV := Lib.hid (h.up BV.out)
  clear h
  by_cases hn0 : n = 0
  · have d0 : decide ((0 : Int) < (n : Int)) = false := by simp; omega
    have d0' : decide (0 < n) = false := by simp; omega
    have Fin : Hid (pzB z s gs = false) := Lib.hid (by
      rcases e : pzB z s gs with _ | _
      · rfl
      · have := (pzB_iff.1 e).1; have := hlx.out; omega)
    have BE := BV
    clear BV
    go_enter Try.func27, Try.ntmps27
    go_wp2_with fail
    go_ret
    exact ⟨ret_bool Fin.out.symm, by simpa [hn0] using BE.out⟩
  · have d0 : decide ((0 : Int) < (n : Int)) = true := by simp; omega
    have d0' : decide (0 < n) = true := by simp; omega
    have K := implGS z A n c vs gs _ HV.out.g.rr HV.out.g.hn (Lib.hid HV.out.g.hl)
    rcases hg : gB z gs with _ | _
    · have Fin : Hid (pzB z s gs = false) := Lib.hid (by unfold pzB; rw [hg]; simp)
      rw [hg] at K
      go_enter Try.func27, Try.ntmps27
      go_wp2_with fail
      refine K.mono ?_
      rintro e w1 ⟨rfl, b1⟩
      have B1 : Hid (Below w.heap.size w w1) := Lib.hid (btr BV.out b1)
      clear K b1
      go_wp2_with fail
      go_ret
      exact ⟨ret_bool Fin.out.symm, B1.out⟩
    · rw [hg] at K
      by_cases hsn : s.size = n
      · have d1 : ((s.size : Int) == (n : Int)) = true := by rw [beq_iff_eq]; omega
        have E : Hid (nmB s = pzB z s gs) := Lib.hid (by
          unfold pzB; rw [hg, decide_eq_true (by have := hlx.out; omega)]; rfl)
        clear hg
        go_enter Try.func27, Try.ntmps27
        go_wp2_with fail
        refine K.mono ?_
        rintro e w1 ⟨rfl, b1⟩
        have B1 : Hid (Below w.heap.size w w1) := Lib.hid (btr BV.out b1)
        have bx1 := bV.out.below b1 bV.out.lt
        have e1 : w1.cell? ⟨w.heap.size, 1, none⟩ = some (.string s) := bx1.cell 1
        have e2 : w1.cell? ⟨w.heap.size, 2, none⟩ = some (.slice A n c) := bx1.cell 2
        clear K b1 bx1
        go_wp2_with fail
        refine (implADL s w1 hs).mono ?_
        rintro e w2 ⟨rfl, b2⟩
        have B2 : Hid (Below w.heap.size w w2) := Lib.hid (btr B1.out b2)
        clear b2
        go_wp2_with fail
        go_ret
        exact ⟨ret_bool E.out, B2.out⟩
      · have d1 : ((s.size : Int) == (n : Int)) = false := by rw [beq_eq_false_iff_ne]; omega
        have Fin : Hid (pzB z s gs = false) := Lib.hid (by
          rcases e : pzB z s gs with _ | _
          · rfl
          · have := (pzB_iff.1 e).2.1; have := hlx.out; omega)
        go_enter Try.func27, Try.ntmps27
        go_wp2_with fail
        refine K.mono ?_
        rintro e w1 ⟨rfl, b1⟩
        have B1 : Hid (Below w.heap.size w w1) := Lib.hid (btr BV.out b1)
        have bx1 := bV.out.below b1 bV.out.lt
        have e1 : w1.cell? ⟨w.heap.size, 1, none⟩ = some (.string s) := bx1.cell 1
        have e2 : w1.cell? ⟨w.heap.size, 2, none⟩ = some (.slice A n c) := bx1.cell 2
        clear K b1 bx1
        go_wp2_with fail
        go_ret
        exact ⟨ret_bool Fin.out.symm, B1.out⟩
set_option maxHeartbeats 1600000 in
/-- IsState. -/
theorem implIsState (z : Int) (s : ByteArray) (A : Option Addr) (n c : Nat) (vs : List SV) (gs : List (List Int)) (P : Option Addr) (np cp : Nat) (x : List Int) (w : World) (h : PIn w z s A n vs gs) (k : SIn w P np cp x) :
    Calls Try.prog 17 #[.agg #[.int .i64 z, .string s, .slice A n c], .slice P np cp] w fun e w' => e = .returned (.bool (stB z s gs x)) ∧ Below w.heap.size w w' := by
  have bV : Hid (Blk (w.alloc (.cells #[.int .i64 z, .string s, .slice A n c] 26)) w.heap.size 26 #[.int .i64 z, .string s, .slice A n c]) := Lib.hid (Blk.new w _ _)
  have BV : Hid (Below w.heap.size w (w.alloc (.cells #[.int .i64 z, .string s, .slice A n c] 26))) := Lib.hid ((Below.refl _ w).alloc (Nat.le_refl _) _)
  have HV := Lib.hid (h.up BV.out)
  have KV := Lib.hid (k.up BV.out)
  have K := implIsValidPuzzle z s A n c vs gs _ HV.out
  clear h k
  rcases hp : pzB z s gs with _ | _
  · have Fin := Lib.hid (stB_no (x := x) hp)
    rw [hp] at K
    go_enter Try.func17, Try.ntmps17
    go_wp2_with fail
    refine K.mono ?_
    rintro e w1 ⟨rfl, b1⟩
    have B1 : Hid (Below w.heap.size w w1) := Lib.hid (btr BV.out b1)
    clear K b1
    go_wp2_with fail
    go_ret
    exact ⟨ret_bool Fin.out.symm, B1.out⟩
  · obtain ⟨N, rfl, h1, h2, h8, ok, _⟩ := pz_deg hp
    have Fin : Hid ((decide ((np : Int) = (N : Int)) && isP x) = stB N s gs x) := Lib.hid (by
      unfold stB; rw [hp, Bool.true_and, KV.out.lp])
    rw [hp] at K
    go_enter Try.func17, Try.ntmps17
    go_wp2_with fail
    refine K.mono ?_
    rintro e w1 ⟨rfl, b1⟩
    have B1 : Hid (Below w.heap.size w w1) := Lib.hid (btr BV.out b1)
    have bx : Blk w1 w.heap.size 26 #[.int .i64 (N : Nat), .string s, .slice A n c] := bV.out.below b1 bV.out.lt
    have c0 : w1.cell? ⟨w.heap.size, 0, none⟩ = some (.int .i64 (N : Nat)) := bx.cell 0
    have K1 := Lib.hid (KV.out.up b1)
    clear K b1 bx
    go_wp2_with fail
    refine (implIsPOf (N : Int) P np cp x _ w1 K1.out.ri (Lib.hid K1.out.lp) (by have := K1.out.hn; omega) Fin).mono ?_
    rintro e w2 ⟨rfl, b2⟩
    have B2 : Hid (Below w.heap.size w w2) := Lib.hid (btr B1.out b2)
    clear b2
    go_wp2_with fail
    go_ret
    exact ⟨rfl, B2.out⟩
set_option maxHeartbeats 1600000 in
/-- StateCount. -/
theorem implStateCount (z : Int) (s : ByteArray) (A : Option Addr) (n c : Nat) (vs : List SV) (gs : List (List Int)) (w : World) (h : PIn w z s A n vs gs) :
    Calls Try.prog 40 #[.agg #[.int .i64 z, .string s, .slice A n c]] w fun e w' => ∃ v, e = .returned (.int .i64 v) ∧ IsStc z s gs v ∧ Below w.heap.size w w' := by
  have bV : Hid (Blk (w.alloc (.cells #[.int .i64 z, .string s, .slice A n c] 26)) w.heap.size 26 #[.int .i64 z, .string s, .slice A n c]) := Lib.hid (Blk.new w _ _)
  have BV : Hid (Below w.heap.size w (w.alloc (.cells #[.int .i64 z, .string s, .slice A n c] 26))) := Lib.hid ((Below.refl _ w).alloc (Nat.le_refl _) _)
  have HV := Lib.hid (h.up BV.out)
  have K := implIsValidPuzzle z s A n c vs gs _ HV.out
  have HZ := Lib.hid h.z
  clear h
  rcases hp : pzB z s gs with _ | _
  · have Fin : Hid (IsStc z s gs 0) := Lib.hid (.inr ⟨hp, rfl⟩)
    rw [hp] at K
    go_enter Try.func40, Try.ntmps40
    go_wp2_with fail
    refine K.mono ?_
    rintro e w1 ⟨rfl, b1⟩
    have B1 : Hid (Below w.heap.size w w1) := Lib.hid (btr BV.out b1)
    clear K b1
    go_wp2_with fail
    go_ret
    exact ⟨0, rfl, Fin.out, B1.out⟩
  · have Hp := Lib.hid hp
    rw [hp] at K
    clear hp
    go_enter Try.func40, Try.ntmps40
    go_wp2_with fail
    refine K.mono ?_
    rintro e w1 ⟨rfl, b1⟩
    have B1 : Hid (Below w.heap.size w w1) := Lib.hid (btr BV.out b1)
    have bx : Blk w1 w.heap.size 26 #[.int .i64 z, .string s, .slice A n c] := bV.out.below b1 bV.out.lt
    have c0 : w1.cell? ⟨w.heap.size, 0, none⟩ = some (.int .i64 z) := bx.cell 0
    have c2 : w1.cell? ⟨w.heap.size, 2, none⟩ = some (.slice A n c) := bx.cell 2
    have G1 := Lib.hid (HV.out.g.up b1)
    clear K b1 bx
    go_wp2_with fail
    refine (implGroupOrder z A n c vs gs w1 G1.out HZ.out).mono ?_
    rintro e w2 ⟨v, rfl, r2, b2⟩
    have B2 : Hid (Below w.heap.size w w2) := Lib.hid (btr B1.out b2)
    have R2 : Hid (IsStc z s gs v) := Lib.hid (.inl ⟨Hp.out, r2⟩)
    clear b2 r2
    go_wp2_with fail
    go_ret
    exact ⟨v, rfl, R2.out, B2.out⟩
set_option maxHeartbeats 1600000 in
/-- IsReachable. -/
theorem implIsReachable (z : Int) (s : ByteArray) (A : Option Addr) (n c : Nat) (vs : List SV) (gs : List (List Int)) (P : Option Addr) (np cp : Nat) (x : List Int) (w : World) (h : PIn w z s A n vs gs) (k : SIn w P np cp x) :
    Calls Try.prog 20 #[.agg #[.int .i64 z, .string s, .slice A n c], .slice P np cp] w fun e w' => ∃ v, e = .returned (.bool v) ∧ IsRch z s gs x v ∧ Below w.heap.size w w' := by
  have bV : Hid (Blk (w.alloc (.cells #[.int .i64 z, .string s, .slice A n c] 26)) w.heap.size 26 #[.int .i64 z, .string s, .slice A n c]) := Lib.hid (Blk.new w _ _)
  have BV : Hid (Below w.heap.size w (w.alloc (.cells #[.int .i64 z, .string s, .slice A n c] 26))) := Lib.hid ((Below.refl _ w).alloc (Nat.le_refl _) _)
  have HV := Lib.hid (h.up BV.out)
  have KV := Lib.hid (k.up BV.out)
  have K := implIsValidPuzzle z s A n c vs gs _ HV.out
  have HZ := Lib.hid h.z
  clear h k
  rcases hp : pzB z s gs with _ | _
  · have Fin : Hid (IsRch z s gs x false) := Lib.hid ⟨fun e => (by cases e), fun e => by have := (stB_iff.1 e.1).1; rw [hp] at this; cases this⟩
    rw [hp] at K
    go_enter Try.func20, Try.ntmps20
    go_wp2_with fail
    refine K.mono ?_
    rintro e w1 ⟨rfl, b1⟩
    have B1 : Hid (Below w.heap.size w w1) := Lib.hid (btr BV.out b1)
    clear K b1
    go_wp2_with fail
    go_ret
    exact ⟨false, rfl, Fin.out, B1.out⟩
  · have Hp := Lib.hid hp
    rw [hp] at K
    clear hp
    go_enter Try.func20, Try.ntmps20
    go_wp2_with fail
    refine K.mono ?_
    rintro e w1 ⟨rfl, b1⟩
    have B1 : Hid (Below w.heap.size w w1) := Lib.hid (btr BV.out b1)
    have bx : Blk w1 w.heap.size 26 #[.int .i64 z, .string s, .slice A n c] := bV.out.below b1 bV.out.lt
    have c0 : w1.cell? ⟨w.heap.size, 0, none⟩ = some (.int .i64 z) := bx.cell 0
    have c2 : w1.cell? ⟨w.heap.size, 2, none⟩ = some (.slice A n c) := bx.cell 2
    have G1 := Lib.hid (HV.out.g.up b1)
    have K1 := Lib.hid (KV.out.up b1)
    clear K b1 bx
    go_wp2_with fail
    refine (implIsMember z A n c vs gs P np cp x w1 G1.out K1.out HZ.out).mono ?_
    rintro e w2 ⟨v, rfl, r2, b2⟩
    have B2 : Hid (Below w.heap.size w w2) := Lib.hid (btr B1.out b2)
    have R2 : Hid (IsRch z s gs x v) := Lib.hid ⟨fun e => ⟨stB_iff.2 ⟨Hp.out, (r2.1 e).2.1, isP_iff.1 (r2.1 e).2.2.1⟩, r2.1 e⟩, fun e => r2.2 e.2⟩
    clear b2 r2
    go_wp2_with fail
    go_ret
    exact ⟨v, rfl, R2.out, B2.out⟩
set_option maxHeartbeats 1600000 in
/-- IsSolved. -/
theorem implIsSolved (z : Int) (s : ByteArray) (A : Option Addr) (n c : Nat) (vs : List SV) (gs : List (List Int)) (P : Option Addr) (np cp : Nat) (x : List Int) (w : World) (h : PIn w z s A n vs gs) (k : SIn w P np cp x) :
    Calls Try.prog 22 #[.agg #[.int .i64 z, .string s, .slice A n c], .slice P np cp] w fun e w' => e = .returned (.bool (slB z s gs x)) ∧ Below w.heap.size w w' := by
  have bV : Hid (Blk (w.alloc (.cells #[.int .i64 z, .string s, .slice A n c] 26)) w.heap.size 26 #[.int .i64 z, .string s, .slice A n c]) := Lib.hid (Blk.new w _ _)
  have BV : Hid (Below w.heap.size w (w.alloc (.cells #[.int .i64 z, .string s, .slice A n c] 26))) := Lib.hid ((Below.refl _ w).alloc (Nat.le_refl _) _)
  have HV := Lib.hid (h.up BV.out)
  have KV := Lib.hid (k.up BV.out)
  have K := implIsValidPuzzle z s A n c vs gs _ HV.out
  clear h k
  rcases hp : pzB z s gs with _ | _
  · have Fin : Hid (slB z s gs x = false) := Lib.hid (by unfold slB; rw [stB_no hp, Bool.false_and])
    rw [hp] at K
    go_enter Try.func22, Try.ntmps22
    go_wp2_with fail
    refine K.mono ?_
    rintro e w1 ⟨rfl, b1⟩
    have B1 : Hid (Below w.heap.size w w1) := Lib.hid (btr BV.out b1)
    clear K b1
    go_wp2_with fail
    go_ret
    exact ⟨ret_bool Fin.out.symm, B1.out⟩
  · obtain ⟨N, rfl, h1, h2, h8, ok, _⟩ := pz_deg hp
    have Fin : Hid (slB N s gs x = decide (x = idL N)) := Lib.hid (by
      unfold slB
      rw [Int.toNat_natCast]
      by_cases e : x = idL N
      · have := pn_id h1 h2
        rw [decide_eq_true e, Bool.and_true]
        exact stB_iff.2 ⟨hp, by rw [e, this.2], by rw [e]; exact this.1⟩
      · rw [decide_eq_false e, Bool.and_false])
    have EI : Hid (identL (N : Int) = idL N) := Lib.hid (by unfold identL; rw [if_pos (by omega)]; rfl)
    rw [hp] at K
    clear hp
    go_enter Try.func22, Try.ntmps22
    go_wp2_with fail
    refine K.mono ?_
    rintro e w1 ⟨rfl, b1⟩
    have B1 : Hid (Below w.heap.size w w1) := Lib.hid (btr BV.out b1)
    have bx : Blk w1 w.heap.size 26 #[.int .i64 (N : Nat), .string s, .slice A n c] := bV.out.below b1 bV.out.lt
    have c0 : w1.cell? ⟨w.heap.size, 0, none⟩ = some (.int .i64 (N : Nat)) := bx.cell 0
    have K1 := Lib.hid (KV.out.up b1)
    clear K b1 bx
    go_wp2_with fail
    refine (implId N w1).mono ?_
    rintro e w2 ⟨A2, n2, c2, rfl, s2, hn2, b2⟩
    rw [EI.out] at s2
    have S2 := Lib.hid s2
    have K2 := Lib.hid (K1.out.up b2)
    have B2 : Hid (Below w.heap.size w w2) := Lib.hid (btr B1.out b2)
    clear s2 b2
    go_wp2_with fail
    refine (quiet_below (sEq P A2 cp c2 np n2 x (idL N) w2 K2.out.ri S2.out.ri_ (Lib.hid K2.out.lp) (Lib.hid S2.out.1) (by have := K2.out.hn; omega) (by omega))).mono ?_
    rintro e w3 ⟨rfl, b3⟩
    have B3 : Hid (Below w.heap.size w w3) := Lib.hid (btr B2.out b3)
    clear b3
    rw [← Fin.out]
    go_wp2_with fail
    go_ret
    exact ⟨rfl, B3.out⟩
end Go.Proofs.Ytkjokchhffjidaa

/- What the frame of a proof knows of a slice of slices of int64 that came in. No condition. -/
namespace Go.Proofs.Ytkjokchhffjidaa
open Go.ChangeShapes Go.WideShapes Go.ChangeAt Go.RowKit

theorem cellsS1 : Try.prog.cellsOf 27 = 1 := by kernel_rfl
theorem one_cell {W : World} {x : Addr} {cs : List Value} (h : W.cells? 0 x 1 = some cs) : ∃ c, cs = [c] ∧ W.cell? x = some c := by
  have e0 : x.add 0 = x := by simp [Addr.add]
  simp [World.cells?, List.range_succ, e0] at h
  cases hc : W.cell? x with
  | none => simp [hc] at h
  | some c =>
    simp [hc] at h
    exact ⟨c, h.symm, rfl⟩

theorem argSS {H : Type} {enc : TypeId × Value → H} {W : World} {a : Option Addr} {len cap : Nat} {d : DataW H} {ps : List MemPlace}
    (h : ∃ fuel, DataW.trod enc Try.prog W 0 (fun _ => true) true fuel 24 (Value.slice a len cap).cells.toList = some (d, ps)) :
    len ≤ maxLen ∧ ∃ vs xss, RR W W.heap.size a len vs xss ∧ ∀ i, i < len → (vs.getD i sd0).2.1 ≤ maxLen := by
  obtain ⟨fuel, hf⟩ := h
  rcases DataW.trod_slice Try.underlying24 hf with ⟨hcs, hx⟩ | ⟨a', len', cap', elems, rest, n, rfl, hcs, hx, _, hl, hm, hlen, hel, _, _⟩
  · simp [Value.cells] at hcs
    obtain ⟨rfl, rfl, rfl⟩ := hcs
    exact ⟨Nat.zero_le _, [], [], RR.nil_, fun i h => absurd h (by omega)⟩
  · simp [Value.cells] at hcs
    obtain ⟨rfl, rfl, rfl⟩ := hcs
    obtain ⟨b, off, spot⟩ := a'
    -- each element
    have key : ∀ i, i < len → ∃ (A : Option Addr) (l c : Nat) (xs : List Int), W.cell? (Addr.add ⟨b, off, spot⟩ i) = some (.slice A l c) ∧ xs.length = l ∧ l ≤ c ∧ c ≤ maxLen ∧ RI W W.heap.size A xs := by
      intro i hi
      have hE := hel i hi
      rw [cellsS1, Nat.mul_one, List.getElem?_eq_getElem (by omega)] at hE
      simp only [Option.bind_eq_some_iff] at hE
      obtain ⟨cs1, hc1, hy1⟩ := hE
      obtain ⟨c, rfl, hcc⟩ := one_cell hc1
      rcases open_ints Try.underlying27 Try.underlying2 (by kernel_rfl) hy1 with ⟨hcs, _⟩ | ⟨ia, il, ic, zs, hcs, _, hil, him, hiz, _, hicell, hiw⟩
      · injection hcs with hcs _
        subst hcs
        exact ⟨none, 0, 0, [], hcc, rfl, Nat.le_refl _, Nat.zero_le _, RI.nil_⟩
      · injection hcs with hcs _
        subst hcs
        have hiz' : zs.length = ic := by simpa using hiz
        obtain ⟨xs, hxl, hR⟩ := RI.of_row (w := W) (a := some ia) (len := il) (cap := ic) (zs := zs) (.inr ⟨ia, rfl, hil, him, hiz', hicell, hiw⟩)
        exact ⟨some ia, il, ic, xs, hcc, hxl.out, hil, him, hR⟩
    refine ⟨Nat.le_trans hl hm, ?_⟩
    have hch : ∃ f : Nat → SV × List Int, ∀ i, i < len → W.cell? (Addr.add ⟨b, off, spot⟩ i) = some (.slice (f i).1.1 (f i).1.2.1 (f i).1.2.2) ∧ (f i).2.length = (f i).1.2.1 ∧ (f i).1.2.1 ≤ (f i).1.2.2 ∧ (f i).1.2.2 ≤ maxLen ∧ RI W W.heap.size (f i).1.1 (f i).2 := by
      refine ⟨fun i => if hi : i < len then (((Classical.choose (key i hi)), Classical.choose (Classical.choose_spec (key i hi)), Classical.choose (Classical.choose_spec (Classical.choose_spec (key i hi)))), Classical.choose (Classical.choose_spec (Classical.choose_spec (Classical.choose_spec (key i hi))))) else (sd0, []), fun i hi => ?_⟩
      have := Classical.choose_spec (Classical.choose_spec (Classical.choose_spec (Classical.choose_spec (key i hi))))
      simp only [hi, dif_pos]
      exact this
    obtain ⟨f, hf⟩ := hch
    have g1 : ∀ j, j < len → ((List.range len).map fun i => (f i).1).getD j sd0 = (f j).1 := fun j hj => by
      rw [List.getD_eq_getElem?_getD, List.getElem?_map, List.getElem?_range hj]; rfl
    have g2 : ∀ j, j < len → ((List.range len).map fun i => (f i).2).getD j [] = (f j).2 := fun j hj => by
      rw [List.getD_eq_getElem?_getD, List.getElem?_map, List.getElem?_range hj]; rfl
    refine ⟨(List.range len).map fun i => (f i).1, (List.range len).map fun i => (f i).2, ⟨by simp, by simp, fun hp => ?_, fun j hj => ?_, fun j hj => ?_, fun j hj => ?_⟩, fun i hi => ?_⟩
    · have h0 := (hf 0 hp).1
      have hs : spot = none := by simpa [Addr.add] using World.cell?_spot h0
      subst hs
      refine ⟨b, off, rfl, ?_, fun j hj => ?_⟩
      · have := World.block_lt_of_cell? W _ h0
        simpa [Addr.add] using this
      · rw [g1 j hj, ← (hf j hj).1]
        unfold Addr.add
        split <;> simp_all
    · rw [g1 j hj, g2 j hj]; exact (hf j hj).2.2.2.2
    · rw [g1 j hj, g2 j hj]; exact (hf j hj).2.1
    · rw [g1 j hj]; exact (hf j hj).2.2.1
    · rw [g1 i hi]; exact Nat.le_trans (hf i hi).2.2.1 (hf i hi).2.2.2.1
end Go.Proofs.Ytkjokchhffjidaa

/- What the frame of a law over a struct needs: a field that is a slice of slices. No condition. -/
namespace Go.Proofs.Ytkjokchhffjidaa
open Go.RowKit Go.ChangeShapes Go.WideShapes Go.ChangeAt

theorem trod_sform {H : Type} {enc : TypeId × Value → H} {W : World} {fuel : Nat} {v : Value} {x : DataW H × List MemPlace} (h : DataW.trod enc Try.prog W 0 (fun _ => true) true fuel 24 [v] = some x) :
    ∃ a len cap, v = .slice a len cap := by
  rcases DataW.trod_slice Try.underlying24 h with ⟨e, _⟩ | ⟨a, len, cap, _, _, _, _, e, _⟩
  · exact ⟨none, 0, 0, by simpa using e⟩
  · exact ⟨some a, len, cap, by simpa using e⟩
end Go.Proofs.Ytkjokchhffjidaa

/- equalPartitions of the model. Conditions: at most 1000 lists of at most 1000 numbers. -/
namespace Go.Proofs.Ytkjokchhffjidaa
open Go.RowKit

theorem getD_LP {l : List (List Int)} {i : Nat} (h : i < l.length) : l.getD i [] = l[i] := by
  rw [List.getD_eq_getElem?_getD, List.getElem?_eq_getElem h]; rfl
set_option maxHeartbeats 1600000 in
set_option maxRecDepth 100000 in
/-- equalPartitions. -/
theorem specEqP (A B : Option Addr) (n c m d : Nat) (vs us : List SV) (xss yss : List (List Int)) (w : World) (hx : RR w w.heap.size A n vs xss) (hy : RR w w.heap.size B m us yss) (hn : n ≤ 1000) (hm : m ≤ 1000) (hl1 : Hid (∀ i, i < n → (xss.getD i []).length ≤ 1000)) (hl2 : Hid (∀ i, i < m → (yss.getD i []).length ≤ 1000)) :
    Calls Try.prog 69 #[.slice A n c, .slice B m d] w fun e w' => e = .returned (.bool (decide (xss = yss))) ∧ Below w.heap.size w w' := by
  have HX := Lib.hid hx
  have HY := Lib.hid hy
  clear hx hy
  by_cases hnm : n = m
  · subst hnm
    have e0 : ((n : Int) != (n : Int)) = false := by simp
    go_enter Try.func69, Try.ntmps69
    go_wp2_with fail
    go_loopw [5] (fun i wr => ∃ k : Nat, k ≤ n ∧ i = .int .i64 (k : Nat) ∧ (∀ j, j < k → xss.getD j [] = yss.getD j []) ∧ Below w.heap.size w wr) (fun i _ => n - (intOf i).toNat)
    case atStart => exact ⟨0, Nat.zero_le _, rfl, fun j h => absurd h (Nat.not_lt_zero _), Below.refl _ _⟩
    case round =>
      obtain ⟨k, hk, rfl, hall, bel⟩ := hrel
      have All := Lib.hid hall
      have Be := Lib.hid bel
      clear hall bel
      by_cases hlt : k < n
      · obtain ⟨b, off, A5, l, c5, y, rfl, hb, ev, ey, x1, r1, ly1, hlc⟩ := (HX.out.up Be.out).at_ hlt
        obtain ⟨b', off', A6, l', c6, y', rfl, hb', ev', ey', x2, r2, ly2, hlc'⟩ := (HY.out.up Be.out).at_ hlt
        have h1 := hl1.out k hlt
        have h2 := hl2.out k hlt
        rw [ey, ly1] at h1
        rw [ey', ly2] at h2
        have R1 := Lib.hid r1
        have R2 := Lib.hid r2
        have L1 : Hid (y.length = l) := Lib.hid ly1
        have L2 : Hid (y'.length = l') := Lib.hid ly2
        have Ey := Lib.hid ey
        have Ey' := Lib.hid ey'
        have p1 : (0 : Int) ≤ k := by omega
        have p2 : (k : Int) < n := by omega
        have BD : Hid (∀ q, Below w.heap.size w (wr.drewN q)) := Lib.hid fun q => below_drewN Be.out q
        clear r1 r2 ly1 ly2 ev ey ev' ey' hb hb'
        by_cases e : y = y'
        · have KQ : Hid (∀ q, Calls Try.prog 72 #[.slice A5 l c5, .slice A6 l' c6] (wr.drewN q) fun e w' => e = .returned (.bool true) ∧ ∃ m, w' = (wr.drewN q).drewN m) := Lib.hid fun q => by
            have := eqIs2 A5 A6 c5 c6 l l' y y' (wr.drewN q) (R1.out.drewN q) (R2.out.drewN q) L1 L2 (by omega) (by omega)
            rwa [decide_eq_true e] at this
          have All2 : Hid (∀ j, j < k + 1 → xss.getD j [] = yss.getD j []) := Lib.hid fun j hj => by
            by_cases e2 : j = k
            · subst e2; rw [Ey.out, Ey'.out, e]
            · exact All.out j (by omega)
          clear e
          go_wp2_with fail
          go_quiet ((go_at_call 72; exact Calls.quiet_of (KQ.out _)))
          go_wp2_with fail
          go_roundw
          case rel => exact ⟨k + 1, by omega, by go_num, All2.out, BD.out _⟩
          case measure => simp [intOf]; omega
        · have KQ : Hid (∀ q, Calls Try.prog 72 #[.slice A5 l c5, .slice A6 l' c6] (wr.drewN q) fun e w' => e = .returned (.bool false) ∧ ∃ m, w' = (wr.drewN q).drewN m) := Lib.hid fun q => by
            have := eqIs2 A5 A6 c5 c6 l l' y y' (wr.drewN q) (R1.out.drewN q) (R2.out.drewN q) L1 L2 (by omega) (by omega)
            rwa [decide_eq_false e] at this
          have Fin : Hid (false = decide (xss = yss)) := Lib.hid (Eq.symm (decide_eq_false fun e2 => e (by rw [← Ey.out, ← Ey'.out, e2])))
          clear e
          go_wp2_with fail
          go_quiet ((go_at_call 72; exact Calls.quiet_of (KQ.out _)))
          go_wp2_with fail
          go_ret
          exact ⟨ret_bool Fin.out, BD.out _⟩
      · obtain rfl : k = n := by omega
        have Fin : Hid (true = decide (xss = yss)) := Lib.hid (Eq.symm (decide_eq_true (by
          apply List.ext_getElem (by rw [HX.out.lx, HY.out.lx])
          intro i h1 h2
          have := All.out i (by rw [← HX.out.lx]; exact h1)
          rw [getD_LP h1, getD_LP h2] at this
          exact this)))
        go_wp2_with fail
        go_ret
        exact ⟨ret_bool Fin.out, Be.out⟩
  · have e0 : ((n : Int) != (m : Int)) = true := by rw [bne_iff_ne]; omega
    have e1 : ((n : Int) == (m : Int)) = false := by rw [beq_eq_false_iff_ne]; omega
    have Fin : Hid (false = decide (xss = yss)) := Lib.hid (Eq.symm (decide_eq_false fun e2 => hnm (by rw [← HX.out.lx, ← HY.out.lx, e2])))
    go_enter Try.func69, Try.ntmps69
    go_wp2_with fail
    go_ret
    exact ⟨ret_bool Fin.out, Below.refl _ _⟩
end Go.Proofs.Ytkjokchhffjidaa
