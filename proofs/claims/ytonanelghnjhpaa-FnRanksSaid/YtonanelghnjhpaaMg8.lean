/- Part 8 of the texts: RowB, SrcA, DrawG, DrawX, DrawM, WalkI4, DrawN, NtM, Less, WalkK5, WalkL5, WalkM5. No condition of its own: each text tells its own. -/
import Derived.Test.YtonanelghnjhpaaMg2
import Derived.Test.YtonanelghnjhpaaMg3
import Derived.Test.YtonanelghnjhpaaMg1
import Derived.Test.YtonanelghnjhpaaMg5
import Derived.Test.YtonanelghnjhpaaMg4
import Derived.Deep.CutRange
import Derived.Deep.LoopGhost
import Derived.Deep.RegionHeld3
set_option linter.unusedVariables false
set_option linter.unusedSimpArgs false

/- What the frame of a proof knows of a slice of bytes that came in, in the words of the walks. No condition. -/
namespace Go.Proofs.Ytonanelghnjhpaa
open Go.RowKit

theorem SB.of_rowB {w : World} {a : Option Addr} {len cap : Nat} {zs : List Int}
    (h : (a = none ∧ len = 0 ∧ cap = 0 ∧ zs = []) ∨ ∃ x, a = some x ∧ len ≤ cap ∧ cap ≤ maxLen ∧ zs.length = cap ∧ (∀ i, i < zs.length → w.cell? (x.add i) = some (.int .u8 (zs.getD i 0))) ∧ ∀ n ∈ zs, (Lit.int .u8 n).wf = true)
    (hw : ∀ n : Int, (Lit.int .u8 n).wf = true → 0 ≤ n ∧ n ≤ 255) : SB w w.heap.size a len := by
  rcases h with ⟨rfl, rfl, rfl, rfl⟩ | ⟨⟨b, off, spot⟩, rfl, hl, hm, hz, hc, hwf⟩
  · exact fun h => absurd h (by omega)
  · intro hp
    have h0 := hc 0 (by omega)
    have hspot : spot = none := by simpa [Addr.add] using World.cell?_spot h0
    subst hspot
    refine ⟨b, off, rfl, ?_, fun j hj => ?_⟩
    · have := World.block_lt_of_cell? w _ h0
      simpa [Addr.add] using this
    · have hjz : j < zs.length := by omega
      have hr := hw (zs.getD j 0) (hwf _ (by rw [List.getD_eq_getElem?_getD, List.getElem?_eq_getElem hjz]; exact List.getElem_mem _))
      refine ⟨(zs.getD j 0).toNat, by omega, ?_⟩
      rw [Int.toNat_of_nonneg hr.1, ← hc j hjz]
      unfold Addr.add
      split <;> simp_all
end Go.Proofs.Ytonanelghnjhpaa

/- The model's draws of any permutation. Condition: degrees from 1 to 20. -/
namespace Go.Proofs.Ytonanelghnjhpaa
open Go.RowKit

/-- A literal row of numbers, read later. -/
theorem lit_at {w w1 : World} {g : Nat} {cs : Array Value} {r : Nat} (hg : g < w.heap.size) (hb : (w.alloc (.cells cs 2)).grownBy w1 (some g)) (hr : r < cs.size) (hall : ∀ (i : Nat) (h : i < cs.size), ∃ z : Int, cs[i] = .int .i64 z) : ∃ z : Int, w1.cell? ⟨w.heap.size, r, none⟩ = some (.int .i64 z) := by
  obtain ⟨z, hz⟩ := hall r hr
  refine ⟨z, ?_⟩
  rw [World.cell?_of_block (hb.block w.heap.size (by simp) (by intro e; injection e with e; omega)), World.cell?_alloc_at _ _ _ _ rfl]
  show cs[r]? = _
  rw [Array.getElem?_eq_getElem hr, hz]

set_option maxHeartbeats 1600000 in
theorem srcExtreme (g : Nat) (w : World) (hs : Src w g) :
    Calls Try.prog 77 #[.pointer (some ⟨g, 0, none⟩)] w fun e w' => ∃ z : Int, e = .returned (.int .i64 z) ∧ Src w' g ∧ w.grownBy w' (some g) := by
  have hg := hs.lt
  have Hs := Lib.hid hs
  clear hs
  go_enter Try.func77, Try.ntmps77
  go_wp2_with fail
  refine (srcBelow g _ 10 _ (Hs.out.below ((Below.refl w.heap.size w).alloc (Nat.le_refl _) _) hg) rfl (by omega) (by omega)).mono ?_
  rintro e w1 ⟨r, hr, rfl, s1, g1⟩
  have S1 := Lib.hid s1
  have G1 : Hid (w.grownBy w1 (some g)) := Lib.hid (grown_trans' (grown_alloc2 (grown_refl _ _) _) g1)
  obtain ⟨z, hz⟩ := lit_at (r := r) hg g1 hr (by
    intro i h
    have h : i < 10 := h
    rcases i with _ | _ | _ | _ | _ | _ | _ | _ | _ | _ | i
    all_goals first | exact ⟨_, rfl⟩ | omega)
  have p0 : (0 : Int) ≤ r := by omega
  have p1 : (r : Int) < 10 := by omega
  clear s1 g1
  go_wp2_with fail
  go_ret
  exact ⟨z, rfl, S1.out, G1.out⟩

set_option maxHeartbeats 1600000 in
theorem srcNumber (g n : Nat) (w : World) (hs : Src w g) (h1 : 1 ≤ n) (hn : n ≤ 100) :
    Calls Try.prog 67 #[.pointer (some ⟨g, 0, none⟩), .int .i64 (n : Int)] w fun e w' => ∃ z : Int, e = .returned (.int .i64 z) ∧ Src w' g ∧ w.grownBy w' (some g) := by
  go_enter Try.func67, Try.ntmps67
  go_wp2_with fail
  refine (srcOne g _ 10 w hs rfl (by omega) (by omega)).mono ?_
  rintro e w1 ⟨b, rfl, s1, g1⟩
  have S1 := Lib.hid s1
  have G1 := Lib.hid g1
  clear s1 g1
  cases b
  · go_wp2_with fail
    refine (srcOne g _ 2 w1 S1.out rfl (by omega) (by omega)).mono ?_
    rintro e w2 ⟨b, rfl, s2, g2⟩
    have S2 := Lib.hid s2
    have G2 : Hid (w.grownBy w2 (some g)) := Lib.hid (grown_trans' G1.out g2)
    clear s2 g2
    cases b
    · go_wp2_with fail
      refine (srcBelow g _ (n + 1) w2 S2.out (by omega) (by omega) (by omega)).mono ?_
      rintro e w3 ⟨r, hr, rfl, s3, g3⟩
      have S3 := Lib.hid s3
      have G3 : Hid (w.grownBy w3 (some g)) := Lib.hid (grown_trans' G2.out g3)
      clear s3 g3
      go_wp2_with fail
      go_ret
      exact ⟨r, rfl, S3.out, G3.out⟩
    · by_cases h4 : n ≤ 4
      · have hm : (min (n : Int) 4) = (n : Int) := by omega
        have d4 : decide ((n : Int) ≤ 4) = true := by simp; omega
        go_wp2_with fail
        refine (srcBelow g _ (n + 1) w2 S2.out (by omega) (by omega) (by omega)).mono ?_
        rintro e w3 ⟨r, hr, rfl, s3, g3⟩
        have S3 := Lib.hid s3
        have G3 : Hid (w.grownBy w3 (some g)) := Lib.hid (grown_trans' G2.out g3)
        clear s3 g3
        go_wp2_with fail
        go_ret
        exact ⟨r, rfl, S3.out, G3.out⟩
      · have hm : (min (n : Int) 4) = 4 := by omega
        have d4 : decide ((n : Int) ≤ 4) = false := by simp; omega
        go_wp2_with fail
        refine (srcBelow g _ (5) w2 S2.out (by omega) (by omega) (by omega)).mono ?_
        rintro e w3 ⟨r, hr, rfl, s3, g3⟩
        have S3 := Lib.hid s3
        have G3 : Hid (w.grownBy w3 (some g)) := Lib.hid (grown_trans' G2.out g3)
        clear s3 g3
        go_wp2_with fail
        go_ret
        exact ⟨r, rfl, S3.out, G3.out⟩
  · go_wp2_with fail
    refine (srcExtreme g w1 S1.out).mono ?_
    rintro e w2 ⟨z, rfl, s2, g2⟩
    have S2 := Lib.hid s2
    have hg2 := s2.lt
    have G2 : Hid (w.grownBy w2 (some g)) := Lib.hid (grown_trans' G1.out g2)
    clear s2 g2
    go_wp2_with fail
    refine (srcBelow g _ 4 _ (S2.out.below ((Below.refl w2.heap.size w2).alloc (Nat.le_refl _) _) hg2) rfl (by omega) (by omega)).mono ?_
    rintro e w3 ⟨r, hr, rfl, s3, g3⟩
    have S3 := Lib.hid s3
    have G3 : Hid (w.grownBy w3 (some g)) := Lib.hid (grown_trans' (grown_alloc2 G2.out _) g3)
    obtain ⟨y, hy⟩ := lit_at (r := r) hg2 g3 hr (by
      intro i h
      have h : i < 4 := h
      rcases i with _ | _ | _ | _ | i
      all_goals first | exact ⟨_, rfl⟩ | omega)
    have p0 : (0 : Int) ≤ r := by omega
    have p1 : (r : Int) < 4 := by omega
    clear s3 g3
    go_wp2_with fail
    go_ret
    exact ⟨y, rfl, S3.out, G3.out⟩

/-- What can be read: m numbers, in a block from base on. -/
def Pm (w : World) (base : Nat) (A : Option Addr) (m c : Nat) (xs : List Int) : Prop :=
  xs.length = m ∧ m ≤ c ∧ (0 < m → ∃ b off, A = some ⟨b, off, none⟩ ∧ base ≤ b ∧ b < w.heap.size ∧ ∀ j, j < m → w.cell? ⟨b, off + j, none⟩ = some (.int .i64 (xs.getD j 0)))
theorem Pm.of_slc {w : World} {base n c : Nat} {A : Option Addr} {xs : List Int} (h : Slc w base A n c xs) : Pm w base A n c xs := by
  refine ⟨h.1, h.le.1, fun hp => ?_⟩
  have hri := h.ri_
  obtain ⟨b, o, e, hb, hc⟩ := hri (by rw [h.1]; exact hp)
  refine ⟨b, o, e, (h.lt_ b (by subst e; rfl)).1, hb, fun j hj => hc j (by rw [h.1]; exact hj)⟩
theorem Pm.ri {w : World} {base n c : Nat} {A : Option Addr} {xs : List Int} (h : Pm w base A n c xs) : RI w w.heap.size A xs := fun hp => by
  obtain ⟨b, o, e, h1, h2, hc⟩ := h.2.2 (by rw [← h.1]; exact hp)
  exact ⟨b, o, e, h2, fun j hj => hc j (by rw [← h.1]; exact hj)⟩
theorem Pm.gro {w w' : World} {base n c g : Nat} {A : Option Addr} {xs : List Int} (h : Pm w base A n c xs) (hg : w.grownBy w' (some g)) (hb : g < base) : Pm w' base A n c xs := by
  refine ⟨h.1, h.2.1, fun hp => ?_⟩
  obtain ⟨b, o, e, h1, h2, hc⟩ := h.2.2 hp
  exact ⟨b, o, e, h1, Nat.lt_of_lt_of_le h2 hg.size, fun j hj => (World.cell?_of_block (a := ⟨b, o + j, none⟩) (hg.block b h2 (by intro e2; injection e2 with e2; omega))).trans (hc j hj)⟩
theorem Pm.up {w w' : World} {base n c : Nat} {A : Option Addr} {xs : List Int} (h : Pm w base A n c xs) (hb : Below w.heap.size w w') : Pm w' base A n c xs := by
  refine ⟨h.1, h.2.1, fun hp => ?_⟩
  obtain ⟨b, o, e, h1, h2, hc⟩ := h.2.2 hp
  exact ⟨b, o, e, h1, Nat.lt_of_lt_of_le h2 hb.size, fun j hj => (hb.cell (p := ⟨b, o + j, none⟩) h2).trans (hc j hj)⟩
theorem Pm.mono {w : World} {base base' n c : Nat} {A : Option Addr} {xs : List Int} (h : Pm w base A n c xs) (hb : base' ≤ base) : Pm w base' A n c xs := by
  refine ⟨h.1, h.2.1, fun hp => ?_⟩
  obtain ⟨b, o, e, h1, h2, hc⟩ := h.2.2 hp
  exact ⟨b, o, e, by omega, h2, hc⟩
theorem Pm.tail {w : World} {base n c q : Nat} {xs : List Int} (h : Slc w base (some ⟨q, 0, none⟩) n c xs) {A : Option Addr} (hA : 1 < n → A = some ⟨q, 1, none⟩) : Pm w base A (n - 1) (c - 1) (xs.drop 1) := by
  refine ⟨by rw [List.length_drop, h.1], by have := h.le.1; omega, fun hp => ?_⟩
  have hri : RI w w.heap.size (some ⟨q, 0, none⟩) xs := h.ri_
  have lx := h.1
  refine ⟨q, 1, hA (by omega), (h.lt_ q rfl).1, (h.lt_ q rfl).2, fun j hj => ?_⟩
  have := (hri.cellAt (j := 1 + j) (by omega)).2
  rw [Nat.zero_add] at this
  rw [this, List.getD_eq_getElem?_getD, List.getD_eq_getElem?_getD, List.getElem?_drop]

theorem grown_below3 {w w1 w' : World} {row : Option Nat} (h : w.grownBy w1 row) (b : Below w.heap.size w1 w') : w.grownBy w' row :=
  ⟨b.os.trans h.os, b.tape.trans h.tape, b.output.trans h.output, Nat.le_trans h.size b.size, fun k hk hn => (b.block k hk).trans (h.block k hk hn)⟩
theorem drawPermK (g n : Nat) (N : Int) (w : World) (hs : Src w g) (hN : N = (n : Int)) (hn : n ≤ 100) :
    Calls Try.prog 121 #[.pointer (some ⟨g, 0, none⟩), .int .i64 N] w fun e w' => ∃ q c xs, e = .returned (.slice (some ⟨q, 0, none⟩) n c) ∧ Slc w' w.heap.size (some ⟨q, 0, none⟩) n c xs ∧ Src w' g ∧ w.grownBy w' (some g) := by
  subst hN; exact drawPerm g n w hs hn
theorem grown_far {w w1 : World} {g q : Nat} (h : w.grownBy w1 (some g)) (hq : w.heap.size ≤ q) (j : Nat) (u : Value) : w.grownBy (w1.setCell ⟨q, j, none⟩ u) (some g) :=
  ⟨h.os, h.tape, h.output, by simpa [World.setCell] using h.size, fun k hk hn => (Below.heap_setCell w1 _ u k (by show k ≠ q; omega)).trans (h.block k hk hn)⟩

set_option maxHeartbeats 4000000 in
theorem drawAny (g n : Nat) (w : World) (hs : Src w g) (h1 : 1 ≤ n) (hn : n ≤ 20) :
    Calls Try.prog 96 #[.pointer (some ⟨g, 0, none⟩), .int .i64 (n : Int)] w fun e w' => ∃ A m c xs, e = .returned (.slice A m c) ∧ Pm w' w.heap.size A m c xs ∧ m ≤ 21 ∧ Src w' g ∧ w.grownBy w' (some g) := by
  have hg := hs.lt
  go_enter Try.func96, Try.ntmps96
  go_wp2_with fail
  refine (drawPerm g n w hs (by omega)).mono ?_
  rintro e w1 ⟨q, c, xs, rfl, sl1, s1, g1⟩
  have Sl1 := Lib.hid sl1
  have S1 := Lib.hid s1
  have G1 := Lib.hid g1
  have hq := (sl1.lt_ q rfl).1
  have hnc := sl1.le.1
  clear sl1 s1 g1
  go_wp2_with fail
  refine (srcOne g _ 12 w1 S1.out rfl (by omega) (by omega)).mono ?_
  rintro e w2 ⟨b2, rfl, s2, g2⟩
  have S2 := Lib.hid s2
  have G2 : Hid (w.grownBy w2 (some g)) := Lib.hid (grown_trans' G1.out g2)
  have Sl2 : Hid (Slc w2 w.heap.size (some ⟨q, 0, none⟩) n c xs) := Lib.hid (Sl1.out.kept g2 (.inr (by intro e; simp [Value.ownBlock] at e; omega)))
  clear s2 g2
  have hn0 : 0 < n := by omega
  cases b2
  · have S4 := S2
    have G4 := G2
    have P4 := Lib.hid (Pm.of_slc Sl2.out)
    have hm4 : n ≤ 21 := by omega
    go_wp2_with fail
    refine (srcOne g _ 60 _ S4.out rfl (by omega) (by omega)).mono ?_
    rintro e w5 ⟨b5, rfl, s5, g5⟩
    have S5 := Lib.hid s5
    have G5 : Hid (w.grownBy w5 (some g)) := Lib.hid (grown_trans' G4.out g5)
    have P5 := Lib.hid (P4.out.gro g5 hg)
    clear s5 g5
    cases b5
    · go_wp2_with fail
      go_ret
      exact ⟨_, _, _, _, rfl, P5.out, hm4, S5.out, G5.out⟩
    · go_wp2_with fail
      refine (srcBelow g _ 2 w5 S5.out rfl (by omega) (by omega)).mono ?_
      rintro e w6 ⟨r6, hr6, rfl, s6, g6⟩
      have S6 := Lib.hid s6
      have G6 : Hid (w.grownBy w6 (some g)) := Lib.hid (grown_trans' G5.out g6)
      clear s6 g6
      go_wp2_with fail
      refine (drawPermK g (20 + r6) _ w6 S6.out (by push_cast; rfl) (by omega)).mono ?_
      rintro e w7 ⟨q7, c7, xs7, rfl, sl7, s7, g7⟩
      have S7 := Lib.hid s7
      have G7 : Hid (w.grownBy w7 (some g)) := Lib.hid (grown_trans' G6.out g7)
      have P7 : Hid (Pm w7 w.heap.size (some ⟨q7, 0, none⟩) (20 + r6) c7 xs7) := Lib.hid ((Pm.of_slc sl7).mono G6.out.size)
      clear s7 g7 sl7
      go_wp2_with fail
      go_ret
      exact ⟨_, _, _, _, rfl, P7.out, by omega, S7.out, G7.out⟩
  · go_wp2_with fail
    refine (srcBelow g _ 3 w2 S2.out rfl (by omega) (by omega)).mono ?_
    rintro e w3 ⟨r3, hr3, rfl, s3, g3⟩
    have S3 := Lib.hid s3
    have G3 : Hid (w.grownBy w3 (some g)) := Lib.hid (grown_trans' G2.out g3)
    have Sl3 : Hid (Slc w3 w.heap.size (some ⟨q, 0, none⟩) n c xs) := Lib.hid (Sl2.out.kept g3 (.inr (by intro e; simp [Value.ownBlock] at e; omega)))
    clear s3 g3
    obtain rfl | rfl | rfl : r3 = 0 ∨ r3 = 1 ∨ r3 = 2 := by omega
    · go_wp2_with fail
      refine (srcBelow g _ n w3 S3.out rfl (by omega) (by omega)).mono ?_
      rintro e w8 ⟨i, hi, rfl, s8, g8⟩
      have S8 := Lib.hid s8
      have G8 : Hid (w.grownBy w8 (some g)) := Lib.hid (grown_trans' G3.out g8)
      have Sl8 : Hid (Slc w8 w.heap.size (some ⟨q, 0, none⟩) n c xs) := Lib.hid (Sl3.out.kept g8 (.inr (by intro e; simp [Value.ownBlock] at e; omega)))
      clear s8 g8
      go_wp2_with fail
      refine (srcNumber g n w8 S8.out h1 (by omega)).mono ?_
      rintro e w9 ⟨z, rfl, s9, g9⟩
      have row : Row w9 w.heap.size q n c xs := Row.of_own (by have := (Sl8.out.kept g9 (.inr (by intro e; simp [Value.ownBlock] at e; omega))); have h2 := this.2; rw [← this.1] at h2; rw [this.1] at h2; exact h2)
      have c9 := row.cell hi
      have f9 := row.free i
      have p0 : (0 : Int) ≤ i := by omega
      have p1 : (i : Int) < n := by omega
      have P4 := Lib.hid (Pm.of_slc (row.store i z).slc)
      have S4 : Hid (Src (w9.setCell ⟨q, i, none⟩ (.int .i64 z)) g) := Lib.hid (s9.below ((Below.refl (g + 1) w9).setCell (by show g + 1 ≤ q; omega) _) (by omega))
      have G4 : Hid (w.grownBy (w9.setCell ⟨q, i, none⟩ (.int .i64 z)) (some g)) := Lib.hid (grown_far (grown_trans' G8.out g9) hq _ _)
      have hm4 : n ≤ 21 := by omega
      clear s9 g9 row
      go_wp2_with fail
      refine (srcOne g _ 60 _ S4.out rfl (by omega) (by omega)).mono ?_
      rintro e w5 ⟨b5, rfl, s5, g5⟩
      have S5 := Lib.hid s5
      have G5 : Hid (w.grownBy w5 (some g)) := Lib.hid (grown_trans' G4.out g5)
      have P5 := Lib.hid (P4.out.gro g5 hg)
      clear s5 g5
      cases b5
      · go_wp2_with fail
        go_ret
        exact ⟨_, _, _, _, rfl, P5.out, hm4, S5.out, G5.out⟩
      · go_wp2_with fail
        refine (srcBelow g _ 2 w5 S5.out rfl (by omega) (by omega)).mono ?_
        rintro e w6 ⟨r6, hr6, rfl, s6, g6⟩
        have S6 := Lib.hid s6
        have G6 : Hid (w.grownBy w6 (some g)) := Lib.hid (grown_trans' G5.out g6)
        clear s6 g6
        go_wp2_with fail
        refine (drawPermK g (20 + r6) _ w6 S6.out (by push_cast; rfl) (by omega)).mono ?_
        rintro e w7 ⟨q7, c7, xs7, rfl, sl7, s7, g7⟩
        have S7 := Lib.hid s7
        have G7 : Hid (w.grownBy w7 (some g)) := Lib.hid (grown_trans' G6.out g7)
        have P7 : Hid (Pm w7 w.heap.size (some ⟨q7, 0, none⟩) (20 + r6) c7 xs7) := Lib.hid ((Pm.of_slc sl7).mono G6.out.size)
        clear s7 g7 sl7
        go_wp2_with fail
        go_ret
        exact ⟨_, _, _, _, rfl, P7.out, by omega, S7.out, G7.out⟩
    · have p1 : (1 : Int) ≤ n := by omega
      have p2 : (1 : Int) ≤ c := by omega
      have S4 := S3
      have G4 := G3
      have hm4 : n - 1 ≤ 21 := by omega
      by_cases hc1 : c = 1
      · have P4 : Hid (Pm w3 w.heap.size (some ⟨q, 0, none⟩) (n - 1) 0 (xs.drop 1)) := Lib.hid (by have := Pm.tail (A := some ⟨q, 0, none⟩) Sl3.out (fun h => by omega); rw [show c - 1 = 0 by omega] at this; exact this)
        go_wp2_with fail
        refine (srcOne g _ 60 _ S4.out rfl (by omega) (by omega)).mono ?_
        rintro e w5 ⟨b5, rfl, s5, g5⟩
        have S5 := Lib.hid s5
        have G5 : Hid (w.grownBy w5 (some g)) := Lib.hid (grown_trans' G4.out g5)
        have P5 := Lib.hid (P4.out.gro g5 hg)
        clear s5 g5
        cases b5
        · go_wp2_with fail
          go_ret
          exact ⟨_, _, _, _, rfl, P5.out, hm4, S5.out, G5.out⟩
        · go_wp2_with fail
          refine (srcBelow g _ 2 w5 S5.out rfl (by omega) (by omega)).mono ?_
          rintro e w6 ⟨r6, hr6, rfl, s6, g6⟩
          have S6 := Lib.hid s6
          have G6 : Hid (w.grownBy w6 (some g)) := Lib.hid (grown_trans' G5.out g6)
          clear s6 g6
          go_wp2_with fail
          refine (drawPermK g (20 + r6) _ w6 S6.out (by push_cast; rfl) (by omega)).mono ?_
          rintro e w7 ⟨q7, c7, xs7, rfl, sl7, s7, g7⟩
          have S7 := Lib.hid s7
          have G7 : Hid (w.grownBy w7 (some g)) := Lib.hid (grown_trans' G6.out g7)
          have P7 : Hid (Pm w7 w.heap.size (some ⟨q7, 0, none⟩) (20 + r6) c7 xs7) := Lib.hid ((Pm.of_slc sl7).mono G6.out.size)
          clear s7 g7 sl7
          go_wp2_with fail
          go_ret
          exact ⟨_, _, _, _, rfl, P7.out, by omega, S7.out, G7.out⟩
      · have P4 : Hid (Pm w3 w.heap.size (some ⟨q, 1, none⟩) (n - 1) (c - 1) (xs.drop 1)) := Lib.hid (Pm.tail Sl3.out (fun _ => rfl))
        go_wp2_with fail
        refine (srcOne g _ 60 _ S4.out rfl (by omega) (by omega)).mono ?_
        rintro e w5 ⟨b5, rfl, s5, g5⟩
        have S5 := Lib.hid s5
        have G5 : Hid (w.grownBy w5 (some g)) := Lib.hid (grown_trans' G4.out g5)
        have P5 := Lib.hid (P4.out.gro g5 hg)
        clear s5 g5
        cases b5
        · go_wp2_with fail
          go_ret
          exact ⟨_, _, _, _, rfl, P5.out, hm4, S5.out, G5.out⟩
        · go_wp2_with fail
          refine (srcBelow g _ 2 w5 S5.out rfl (by omega) (by omega)).mono ?_
          rintro e w6 ⟨r6, hr6, rfl, s6, g6⟩
          have S6 := Lib.hid s6
          have G6 : Hid (w.grownBy w6 (some g)) := Lib.hid (grown_trans' G5.out g6)
          clear s6 g6
          go_wp2_with fail
          refine (drawPermK g (20 + r6) _ w6 S6.out (by push_cast; rfl) (by omega)).mono ?_
          rintro e w7 ⟨q7, c7, xs7, rfl, sl7, s7, g7⟩
          have S7 := Lib.hid s7
          have G7 : Hid (w.grownBy w7 (some g)) := Lib.hid (grown_trans' G6.out g7)
          have P7 : Hid (Pm w7 w.heap.size (some ⟨q7, 0, none⟩) (20 + r6) c7 xs7) := Lib.hid ((Pm.of_slc sl7).mono G6.out.size)
          clear s7 g7 sl7
          go_wp2_with fail
          go_ret
          exact ⟨_, _, _, _, rfl, P7.out, by omega, S7.out, G7.out⟩
    · have hz := G3.out.size
      go_wp2_with (first | (at_builtin; refine wpList_app1 rfl _ _ rfl w.heap.size (some ⟨q, 0, none⟩) n c _ rfl (Sl3.out.alloc _) w3.heap.size (n : Int) rfl (by rw [World.cell?_alloc_at _ _ _ _ rfl]; rfl) (by omega) (by simp; omega) ?_; intro A4 c4 w4 s4 g4))
      have P4 := Lib.hid (Pm.of_slc s4)
      have B4 : Below w.heap.size w3 w4 := ((Below.refl _ w3).alloc hz _).grown g4 (by simp; omega) (fun j hj => (Sl3.out.lt_ j hj).1)
      have S4 : Hid (Src w4 g) := Lib.hid (S3.out.below B4 hg)
      have G4 : Hid (w.grownBy w4 (some g)) := Lib.hid (grown_below3 G3.out B4)
      have hm4 : n + 1 ≤ 21 := by omega
      clear s4 g4 B4
      go_wp2_with fail
      refine (srcOne g _ 60 _ S4.out rfl (by omega) (by omega)).mono ?_
      rintro e w5 ⟨b5, rfl, s5, g5⟩
      have S5 := Lib.hid s5
      have G5 : Hid (w.grownBy w5 (some g)) := Lib.hid (grown_trans' G4.out g5)
      have P5 := Lib.hid (P4.out.gro g5 hg)
      clear s5 g5
      cases b5
      · go_wp2_with fail
        go_ret
        exact ⟨_, _, _, _, rfl, P5.out, hm4, S5.out, G5.out⟩
      · go_wp2_with fail
        refine (srcBelow g _ 2 w5 S5.out rfl (by omega) (by omega)).mono ?_
        rintro e w6 ⟨r6, hr6, rfl, s6, g6⟩
        have S6 := Lib.hid s6
        have G6 : Hid (w.grownBy w6 (some g)) := Lib.hid (grown_trans' G5.out g6)
        clear s6 g6
        go_wp2_with fail
        refine (drawPermK g (20 + r6) _ w6 S6.out (by push_cast; rfl) (by omega)).mono ?_
        rintro e w7 ⟨q7, c7, xs7, rfl, sl7, s7, g7⟩
        have S7 := Lib.hid s7
        have G7 : Hid (w.grownBy w7 (some g)) := Lib.hid (grown_trans' G6.out g7)
        have P7 : Hid (Pm w7 w.heap.size (some ⟨q7, 0, none⟩) (20 + r6) c7 xs7) := Lib.hid ((Pm.of_slc sl7).mono G6.out.size)
        clear s7 g7 sl7
        go_wp2_with fail
        go_ret
        exact ⟨_, _, _, _, rfl, P7.out, by omega, S7.out, G7.out⟩
end Go.Proofs.Ytonanelghnjhpaa

/- The model's draws of numbers, with their bounds; draws of generators and of groups. Condition: at most 4096 bytes. -/
namespace Go.Proofs.Ytonanelghnjhpaa
open Go.RowKit

/-- The bounds of an int64. -/
def B64 (z : Int) : Prop := -9223372036854775808 ≤ z ∧ z ≤ 9223372036854775807
/-- A literal row of numbers, read later. -/
theorem lit_atB {w w1 : World} {g : Nat} {cs : Array Value} {r : Nat} (hg : g < w.heap.size) (hb : (w.alloc (.cells cs 2)).grownBy w1 (some g)) (hr : r < cs.size) (hall : ∀ (i : Nat) (h : i < cs.size), ∃ z : Int, cs[i] = .int .i64 z ∧ B64 z) : ∃ z : Int, w1.cell? ⟨w.heap.size, r, none⟩ = some (.int .i64 z) ∧ B64 z := by
  obtain ⟨z, hz, hB⟩ := hall r hr
  refine ⟨z, ?_, hB⟩
  rw [World.cell?_of_block (hb.block w.heap.size (by simp) (by intro e; injection e with e; omega)), World.cell?_alloc_at _ _ _ _ rfl]
  show cs[r]? = _
  rw [Array.getElem?_eq_getElem hr, hz]

set_option maxHeartbeats 1600000 in
theorem srcExtremeB (g : Nat) (w : World) (hs : Src w g) :
    Calls Try.prog 77 #[.pointer (some ⟨g, 0, none⟩)] w fun e w' => ∃ z : Int, e = .returned (.int .i64 z) ∧ B64 z ∧ Src w' g ∧ w.grownBy w' (some g) := by
  have hg := hs.lt
  have Hs := Lib.hid hs
  clear hs
  go_enter Try.func77, Try.ntmps77
  go_wp2_with fail
  refine (srcBelow g _ 10 _ (Hs.out.below ((Below.refl w.heap.size w).alloc (Nat.le_refl _) _) hg) rfl (by omega) (by omega)).mono ?_
  rintro e w1 ⟨r, hr, rfl, s1, g1⟩
  have S1 := Lib.hid s1
  have G1 : Hid (w.grownBy w1 (some g)) := Lib.hid (grown_trans' (grown_alloc2 (grown_refl _ _) _) g1)
  obtain ⟨z, hz, hzB⟩ := lit_atB (r := r) hg g1 hr (by
    intro i h
    have h : i < 10 := h
    rcases i with _ | _ | _ | _ | _ | _ | _ | _ | _ | _ | i
    all_goals first | exact ⟨_, rfl, by unfold B64; omega⟩ | omega)
  have p0 : (0 : Int) ≤ r := by omega
  have p1 : (r : Int) < 10 := by omega
  clear s1 g1
  go_wp2_with fail
  go_ret
  exact ⟨z, rfl, hzB, S1.out, G1.out⟩

set_option maxHeartbeats 1600000 in
theorem srcNumberB (g n : Nat) (w : World) (hs : Src w g) (h1 : 1 ≤ n) (hn : n ≤ 100) :
    Calls Try.prog 67 #[.pointer (some ⟨g, 0, none⟩), .int .i64 (n : Int)] w fun e w' => ∃ z : Int, e = .returned (.int .i64 z) ∧ B64 z ∧ Src w' g ∧ w.grownBy w' (some g) := by
  go_enter Try.func67, Try.ntmps67
  go_wp2_with fail
  refine (srcOne g _ 10 w hs rfl (by omega) (by omega)).mono ?_
  rintro e w1 ⟨b, rfl, s1, g1⟩
  have S1 := Lib.hid s1
  have G1 := Lib.hid g1
  clear s1 g1
  cases b
  · go_wp2_with fail
    refine (srcOne g _ 2 w1 S1.out rfl (by omega) (by omega)).mono ?_
    rintro e w2 ⟨b, rfl, s2, g2⟩
    have S2 := Lib.hid s2
    have G2 : Hid (w.grownBy w2 (some g)) := Lib.hid (grown_trans' G1.out g2)
    clear s2 g2
    cases b
    · go_wp2_with fail
      refine (srcBelow g _ (n + 1) w2 S2.out (by omega) (by omega) (by omega)).mono ?_
      rintro e w3 ⟨r, hr, rfl, s3, g3⟩
      have S3 := Lib.hid s3
      have G3 : Hid (w.grownBy w3 (some g)) := Lib.hid (grown_trans' G2.out g3)
      clear s3 g3
      go_wp2_with fail
      go_ret
      exact ⟨r, rfl, by unfold B64; omega, S3.out, G3.out⟩
    · by_cases h4 : n ≤ 4
      · have hm : (min (n : Int) 4) = (n : Int) := by omega
        have d4 : decide ((n : Int) ≤ 4) = true := by simp; omega
        go_wp2_with fail
        refine (srcBelow g _ (n + 1) w2 S2.out (by omega) (by omega) (by omega)).mono ?_
        rintro e w3 ⟨r, hr, rfl, s3, g3⟩
        have S3 := Lib.hid s3
        have G3 : Hid (w.grownBy w3 (some g)) := Lib.hid (grown_trans' G2.out g3)
        clear s3 g3
        go_wp2_with fail
        go_ret
        exact ⟨r, rfl, by unfold B64; omega, S3.out, G3.out⟩
      · have hm : (min (n : Int) 4) = 4 := by omega
        have d4 : decide ((n : Int) ≤ 4) = false := by simp; omega
        go_wp2_with fail
        refine (srcBelow g _ (5) w2 S2.out (by omega) (by omega) (by omega)).mono ?_
        rintro e w3 ⟨r, hr, rfl, s3, g3⟩
        have S3 := Lib.hid s3
        have G3 : Hid (w.grownBy w3 (some g)) := Lib.hid (grown_trans' G2.out g3)
        clear s3 g3
        go_wp2_with fail
        go_ret
        exact ⟨r, rfl, by unfold B64; omega, S3.out, G3.out⟩
  · go_wp2_with fail
    refine (srcExtremeB g w1 S1.out).mono ?_
    rintro e w2 ⟨z, rfl, hzB, s2, g2⟩
    have S2 := Lib.hid s2
    have hg2 := s2.lt
    have G2 : Hid (w.grownBy w2 (some g)) := Lib.hid (grown_trans' G1.out g2)
    clear s2 g2
    go_wp2_with fail
    refine (srcBelow g _ 4 _ (S2.out.below ((Below.refl w2.heap.size w2).alloc (Nat.le_refl _) _) hg2) rfl (by omega) (by omega)).mono ?_
    rintro e w3 ⟨r, hr, rfl, s3, g3⟩
    have S3 := Lib.hid s3
    have G3 : Hid (w.grownBy w3 (some g)) := Lib.hid (grown_trans' (grown_alloc2 G2.out _) g3)
    obtain ⟨y, hy, hyB⟩ := lit_atB (r := r) hg2 g3 hr (by
      intro i h
      have h : i < 4 := h
      rcases i with _ | _ | _ | _ | i
      all_goals first | exact ⟨_, rfl, by unfold B64; omega⟩ | exact ⟨_, rfl, hzB⟩ | omega)
    have p0 : (0 : Int) ≤ r := by omega
    have p1 : (r : Int) < 4 := by omega
    clear s3 g3
    go_wp2_with fail
    go_ret
    exact ⟨y, rfl, hyB, S3.out, G3.out⟩


section
variable {w w' : World} {base n c : Nat} {A : Option Addr} {vs : List SV} {xss : List (List Int)}
/-- Kept where a block turned that is none of its own. -/
theorem SS.farR {r lo hi : Nat} (h : SS w base base A n c vs xss) (hg : w.grownBy w' (some r)) (hA : ∀ k, (Value.slice A n c).ownBlock = some k → lo ≤ k ∧ k < hi) (hI : ∀ i, i < n → ∀ k, (sval (vs.getD i sd0)).ownBlock = some k → lo ≤ k ∧ k < hi) (hr : r < lo ∨ hi ≤ r) : SS w' base base A n c vs xss := by
  have ne : ∀ (v : Value), (∀ k, v.ownBlock = some k → lo ≤ k ∧ k < hi) → v.ownBlock = none ∨ v.ownBlock ≠ some r := fun v hv => by
    rcases e : v.ownBlock with _ | k
    · exact .inl rfl
    · exact .inr fun e2 => by injection e2 with e2; have := hv k e; omega
  exact ⟨World.ownsRow.kept h.own hg (ne _ hA), h.lv, h.lx, fun i hi' => (h.row i hi').kept hg (ne _ (hI i hi')), h.dis⟩
/-- A slice that can be read, appended onto a slice of slices of the call's own. -/
theorem wpList_app2R {ops : Array Oper} {rest : List Oper} {o : Oper} {a : Act} {Q : Exit → Act → World → Prop} (hgd : o.guard = none) (s x : Operand)
    (ho : o.op = .call { callee := .builtin .append, args := #[s, x], argTypes := #[24, 24] })
    (hs : a.eval s = .slice A n c) (hss : SS w base base A n c vs xss) (g : Nat) (dA : Option Addr) (dn dc lo : Nat) (ys : List Int) (hx : a.eval x = .slice (some ⟨g, 0, none⟩) 1 1)
    (hcell : w.cell? ⟨g, 0, none⟩ = some (.slice dA dn dc)) (hys : Pm w lo dA dn dc ys) (hlo : ∀ k, (Value.slice A n c).ownBlock = some k → k < lo) (hn : n ≤ 1000000000) (hbase : base ≤ w.heap.size)
    (h : ∀ A' c' w', RR w' w'.heap.size A' (n + 1) (vs ++ [(dA, dn, dc)]) (xss ++ [ys]) → w.grownBy w' (Value.slice A n c).ownBlock → wpList Try.prog ops Q rest (a.put o.dst (.slice A' (n + 1) c')) w') : wpList Try.prog ops Q (o :: rest) a w := by
  obtain ⟨i0, hi, hz0, hz1, hz2⟩ := info_parts infoS
  refine wpList_append_own (w := w) hgd s x 24 ho base 28 i0 (.slice none 0 0) 1 24 Try.underlying24 hi hz0 hz1 hz2 rfl (by decide) _ n _ hs hss.own ⟨g, 0, none⟩ 1 1 [.slice dA dn dc] hx rfl ?_ ?_ ?_ (by omega) hbase ?_
  · intro j v hj
    match j, hj with
    | 0, hj => simp at hj; subst hj; simpa [Addr.add] using hcell
    | j + 1, hj => simp at hj
  · intro v hv; simp at hv; subst hv; rfl
  · unfold maxLen; omega
  · intro v' w' hown' hg _
    rcases hown'.2 with ⟨rfl, h0⟩ | ⟨g', cap, cur, rfl, hb', hg', hnc, _⟩
    · omega
    · refine h (some ⟨g', 0, none⟩) cap w' ⟨by simp [hss.lv], by simp [hss.lx], fun _ => ⟨g', 0, rfl, (Array.getElem?_eq_some_iff.1 hg').1, fun j hj => ?_⟩, fun j hj => ?_, fun j hj => ?_, fun j hj => ?_⟩ hg
      · rw [Nat.zero_add, hown'.cellAt j (by omega)]
        by_cases e : j < n
        · rw [List.getElem?_append_left (by rw [List.length_map, hss.lv]; exact e), List.getElem?_map, getD_app _ _ _ _ (by rw [hss.lv]; exact e), List.getD_eq_getElem?_getD, List.getElem?_eq_getElem (by rw [hss.lv]; exact e)]; rfl
        · obtain rfl : j = n := by omega
          rw [List.getElem?_append_right (by rw [List.length_map, hss.lv]; exact Nat.le_refl _), List.length_map, hss.lv, Nat.sub_self, getD_snoc _ _ _ _ hss.lv.symm]; rfl
      · by_cases e : j < n
        · rw [getD_app _ _ _ _ (by rw [hss.lv]; exact e), getD_app _ _ _ _ (by rw [hss.lx]; exact e)]
          exact ((hss.row j e).kept hg (apart_types (hss.row j e) hss.own)).ri_
        · obtain rfl : j = n := by omega
          rw [getD_snoc _ _ _ _ hss.lv.symm, getD_snoc _ _ _ _ hss.lx.symm]
          intro hp
          obtain ⟨b, off, e1, h1, h2, hc⟩ := hys.2.2 (by rw [← hys.1]; exact hp)
          refine ⟨b, off, e1, Nat.lt_of_lt_of_le h2 hg.size, fun t ht => (World.cell?_of_block (a := ⟨b, off + t, none⟩) (hg.block b h2 fun e2 => ?_)).trans (hc t (by rw [← hys.1]; exact ht))⟩
          have := hlo b e2.symm
          omega
      · by_cases e : j < n
        · rw [getD_app _ _ _ _ (by rw [hss.lx]; exact e), getD_app _ _ _ _ (by rw [hss.lv]; exact e)]; exact (hss.row j e).1
        · obtain rfl : j = n := by omega
          rw [getD_snoc _ _ _ _ hss.lx.symm, getD_snoc _ _ _ _ hss.lv.symm]; exact hys.1
      · by_cases e : j < n
        · rw [getD_app _ _ _ _ (by rw [hss.lv]; exact e)]; exact (hss.row j e).le.1
        · obtain rfl : j = n := by omega
          rw [getD_snoc _ _ _ _ hss.lv.symm]; exact hys.2.1
end
theorem wrap_pos2 (k : Nat) (h : k ≤ 1000) : IntKind.i64.wrap ((k : Int) + 1) = (k : Int) + 1 := by rw [IntKind.wrap_i64]; omega
theorem grown_new2 {a b c : World} {g : Nat} {row : Option Nat} (h : a.grownBy b (some g)) (h2 : b.grownBy c row) (hr : ∀ j, row = some j → a.heap.size ≤ j) : a.grownBy c (some g) :=
  ⟨h2.os.trans h.os, h2.tape.trans h.tape, h2.output.trans h.output, Nat.le_trans h.size h2.size, fun i hi hne => (h2.block i (Nat.lt_of_lt_of_le hi h.size) (fun e => by have := hr _ e.symm; omega)).trans (h.block i hi hne)⟩
theorem Src.gro2 {g : Nat} {row : Option Nat} {w w' : World} (h : Src w g) (hb : w.grownBy w' row) (hg : ∀ r, row = some r → g < r) : Src w' g := by
  obtain ⟨A, len, cap, k, x, h1, h2, h3, h4⟩ := h
  refine ⟨A, len, cap, k, x, h1, h2, h3.keep fun p hp => World.cell?_of_block (hb.block p.block (by have := h4.lt; omega) (fun e => by have := hg _ e.symm; omega)), h4.grown hb (fun e => by have := hg _ e.symm; omega)⟩

set_option maxHeartbeats 4000000 in
set_option maxRecDepth 100000 in
/-- drawGenerators. -/
theorem drawGens (g n : Nat) (w : World) (hs : Src w g) (h1 : 1 ≤ n) (hn : n ≤ 20) :
    Calls Try.prog 95 #[.pointer (some ⟨g, 0, none⟩), .int .i64 (n : Int)] w fun e w' => ∃ A m c us xss, e = .returned (.slice A m c) ∧ SS w' w.heap.size w.heap.size A m c us xss ∧ (∀ i, i < m → (us.getD i sd0).2.1 = n) ∧ m ≤ 3 ∧ Src w' g ∧ w.grownBy w' (some g) := by
  have hg := hs.lt
  have Sr0 : Hid (Src (w.alloc (.cells #[] 28)) g) := Lib.hid (hs.below ((Below.refl w.heap.size w).alloc (Nat.le_refl _) _) hg)
  have Ss0 := Lib.hid (SS.lit0 w w.heap.size w.heap.size (Nat.le_refl _))
  have G0 : Hid (w.grownBy (w.alloc (.cells #[] 28)) (some g)) := Lib.hid (grown_alloc2 (grown_refl _ _) _)
  clear hs
  go_enter Try.func95, Try.ntmps95
  go_wp2_with fail
  refine (srcBelow g _ 3 _ Sr0.out rfl (by omega) (by omega)).mono ?_
  rintro e w1 ⟨r, hr, rfl, s1, g1⟩
  have Sr1 := Lib.hid s1
  have Ss1 : Hid (SS w1 w.heap.size w.heap.size (some ⟨w.heap.size, 0, none⟩) 0 0 [] []) := Lib.hid (Ss0.out.farR (lo := w.heap.size) (hi := w.heap.size + 1) g1 (fun k e => by simp [Value.ownBlock] at e; omega) (fun i hi => absurd hi (by omega)) (.inl hg))
  have G1 : Hid (w.grownBy w1 (some g)) := Lib.hid (grown_trans' G0.out g1)
  have wr1 : IntKind.i64.wrap (1 + (r : Int)) = ((r + 1 : Nat) : Int) := by rw [IntKind.wrap_i64]; omega
  clear s1 g1 Sr0 Ss0 G0
  go_wp2_with fail
  go_loopg [5, 6] 4 (fun gg v kk wr => ∃ (k : Nat) (A : Option Addr) (m c : Nat) (us : List SV) (xss : List (List Int)), m + k ≤ 3 ∧ k ≤ gg ∧ kk = .int .i64 (k : Nat) ∧ v = .slice A m c ∧ SS wr w.heap.size w.heap.size A m c us xss ∧ (∀ i, i < m → (us.getD i sd0).2.1 = n) ∧ Src wr g ∧ w.grownBy wr (some g))
  case atStart => exact ⟨r + 1, _, 0, _, [], [], by omega, by omega, rfl, rfl, Ss1.out, fun i hi => absurd hi (by omega), Sr1.out, G1.out⟩
  case round =>
    clear Sr1 Ss1 G1 wr1
    obtain ⟨k0, A, m, c, us, xss, hmk, hgk, rfl, rfl, ss, ln, sr, gr⟩ := hrel
    have Ss := Lib.hid ss
    have Ln := Lib.hid ln
    have Sr := Lib.hid sr
    have Gr := Lib.hid gr
    have hwz : w.heap.size ≤ wr.heap.size := gr.size
    clear ss ln sr gr
    by_cases hk0 : 0 < k0
    · obtain ⟨k, rfl⟩ : ∃ k, k0 = k + 1 := ⟨k0 - 1, by omega⟩
      have wk : IntKind.i64.wrap (((k + 1 : Nat) : Int) - 1) = (k : Int) := by rw [IntKind.wrap_i64]; omega
      have LA : Hid (∀ j, (Value.slice A m c).ownBlock = some j → w.heap.size ≤ j ∧ j < wr.heap.size) := Lib.hid Ss.out.lt_
      have LI : Hid (∀ t, t < m → ∀ j, (sval (us.getD t sd0)).ownBlock = some j → w.heap.size ≤ j ∧ j < wr.heap.size) := Lib.hid fun t ht => (Ss.out.row t ht).lt_
      go_wp2_with fail
      refine (specIdent n wr (by omega)).mono ?_
      rintro e w2 ⟨A1, c1, rfl, s2, b2⟩
      have Sr2 := Lib.hid (Sr.out.below b2 Sr.out.lt)
      have Ss2 := Lib.hid (Ss.out.up b2)
      have G2 : Hid (w.grownBy w2 (some g)) := Lib.hid (grown_below2 Gr.out b2)
      rcases Slc.at_ s2 with ⟨_, _, e0, _⟩ | ⟨q, rfl, hq1, hq2⟩
      · omega
      have Sl2 := Lib.hid s2
      have hz2 := b2.size
      clear s2 b2
      go_wp2_with fail
      refine (srcBelow g _ 4 w2 Sr2.out rfl (by omega) (by omega)).mono ?_
      rintro e w3 ⟨r3, hr3, rfl, s3, g3⟩
      have Sr3 := Lib.hid s3
      have Ss3 := Lib.hid (Ss2.out.farR g3 LA.out LI.out (.inl hg))
      have Sl3 : Hid (Slc w3 wr.heap.size (some ⟨q, 0, none⟩) n c1 (idL n)) := Lib.hid (Sl2.out.kept g3 (.inr (by simp [Value.ownBlock]; omega)))
      have G3 : Hid (w.grownBy w3 (some g)) := Lib.hid (grown_trans' G2.out g3)
      have hz3 := g3.size
      clear s3 g3
      obtain rfl | rfl | hr23 : r3 = 0 ∨ r3 = 1 ∨ (r3 = 2 ∨ r3 = 3) := by omega
      · clear Sl3 Sl2 hq1 hq2
        go_wp2_with fail
        refine (drawPermK g n _ w3 Sr3.out rfl (by omega)).mono ?_
        rintro e w4 ⟨q, c1, ys, rfl, s4, r4, g4⟩
        have Sr4 := Lib.hid r4
        have Ss4 := Lib.hid (Ss3.out.farR g4 LA.out LI.out (.inl hg))
        have hq1 : wr.heap.size ≤ q := by have := (s4.lt_ q rfl).1; omega
        have Sl4 : Hid (Slc w4 w.heap.size (some ⟨q, 0, none⟩) n c1 ys) := Lib.hid (s4.mono (by omega))
        have G4 : Hid (w.grownBy w4 (some g)) := Lib.hid (grown_trans' G3.out g4)
        clear s4 r4 g4
        have D5 := Lib.hid (show ∀ t, t < m → (sval (us.getD t sd0)).ownBlock = none ∨ (sval (us.getD t sd0)).ownBlock ≠ (Value.slice (some ⟨q, 0, none⟩) n c1).ownBlock from fun t ht => by
          rcases e9 : (sval (us.getD t sd0)).ownBlock with _ | z
          · exact .inl rfl
          · exact .inr fun e8 => by have := (LI.out t ht z e9).2; simp [Value.ownBlock] at e8; omega)
        have hzT : w.heap.size ≤ w4.heap.size := G4.out.size
        go_wp2_with (first
          | (at_builtin
             refine wpList_app2 rfl _ _ rfl rfl (Ss4.out.alloc _) w4.heap.size (some ⟨q, 0, none⟩) n c1 ys rfl (by rw [World.cell?_alloc_at _ _ _ _ rfl]; rfl) ((Sl4.out).alloc _) D5.out (by omega) (by simp; omega) ?_
             intro A7 c7 w7 ss7 g7))
        have S7 : Hid (SS w7 w.heap.size w.heap.size A7 (m + 1) c7 (us ++ [(some ⟨q, 0, none⟩, n, c1)]) (xss ++ [ys])) := Lib.hid ss7
        have Sr7 : Hid (Src w7 g) := Lib.hid ((Sr4.out.below ((Below.refl w4.heap.size w4).alloc (Nat.le_refl _) (.cells #[.slice (some ⟨q, 0, none⟩) n c1] 28)) Sr4.out.lt).gro2 g7 (fun j hj => by have := (Ss4.out.lt_ j hj).1; omega))
        have G7 : Hid (w.grownBy w7 (some g)) := Lib.hid (grown_new2 (grown_alloc2 G4.out (.cells #[.slice (some ⟨q, 0, none⟩) n c1] 28)) g7 (fun j hj => (Ss4.out.lt_ j hj).1))
        have Ln7 : Hid (∀ i, i < m + 1 → ((us ++ [((some ⟨q, 0, none⟩, n, c1) : SV)]).getD i sd0).2.1 = n) := Lib.hid fun i hi => by
          by_cases e9 : i < m
          · rw [getD_app _ _ _ _ (by rw [Ss4.out.lv]; exact e9)]; exact Ln.out i e9
          · rw [getD_snoc _ _ _ _ (by rw [Ss4.out.lv]; omega)]
        clear ss7 g7
        go_wp2_with fail
        go_roundg k
        case rel => exact ⟨k, A7, m + 1, c7, _, _, by omega, by omega, by go_num, rfl, S7.out, Ln7.out, Sr7.out, G7.out⟩
        case measure => omega
      · have row3 : Hid (Row w3 wr.heap.size q n c1 (idL n)) := Lib.hid (Row.of_own (by have h2 := Sl3.out.2; rw [← Sl3.out.1] at h2 ⊢; exact h2))
        go_wp2_with fail
        obtain ⟨wl, rfl⟩ : ∃ wl, wl = wr := ⟨_, rfl⟩
        go_loopg [8] n (fun gg iv wr2 => ∃ (i : Nat) (ys : List Int), i ≤ n ∧ n - i ≤ gg ∧ iv = .int .i64 (i : Nat) ∧ Row wr2 wl.heap.size q n c1 ys ∧ SS wr2 w.heap.size w.heap.size A m c us xss ∧ Src wr2 g ∧ w.grownBy wr2 (some g))
        case atStart => exact ⟨0, _, Nat.zero_le _, by omega, rfl, row3.out, Ss3.out, Sr3.out, G3.out⟩
        case round =>
          obtain ⟨i, ys, hi, hgi, rfl, row, ss5, sr5, g5⟩ := hrel
          have Ro := Lib.hid row
          have Ss5 := Lib.hid ss5
          have Sr5 := Lib.hid sr5
          have G5 := Lib.hid g5
          clear row ss5 sr5 g5
          by_cases hil : i < n
          · have c5 := Ro.out.cell hil
            have f5 := Ro.out.free i
            obtain ⟨u, hu⟩ : ∃ u, ((i : Int) + 1).tmod (n : Int) = u := ⟨_, rfl⟩
            have wi := wrap_pos2 i (by omega)
            have hn0 : ¬ ((n : Int) = 0) := by omega
            have p0 : (0 : Int) ≤ i := by omega
            have p1 : (i : Int) < n := by omega
            have Ro6 := Lib.hid (Ro.out.store i u)
            have Ss6 : Hid (SS (wr.setCell ⟨q, i, none⟩ (.int .i64 u)) w.heap.size w.heap.size A m c us xss) := Lib.hid (Ss5.out.farR (r := q) (grown_set (grown_refl _ _) _ _) LA.out LI.out (.inr hq1))
            have Sr6 : Hid (Src (wr.setCell ⟨q, i, none⟩ (.int .i64 u)) g) := Lib.hid (Sr5.out.gro (grown_set (grown_refl _ (some q)) i _) (by omega))
            have G6 : Hid (w.grownBy (wr.setCell ⟨q, i, none⟩ (.int .i64 u)) (some g)) := Lib.hid (grown_far G5.out (by omega) i _)
            obtain ⟨z5, hz5⟩ : ∃ z5, ys.getD i 0 = z5 := ⟨_, rfl⟩
            rw [hz5] at c5
            clear hz5
            go_wp2_with fail
            go_roundg (n - (i + 1))
            case rel => exact ⟨i + 1, _, by omega, by omega, by go_num, Ro6.out, Ss6.out, Sr6.out, G6.out⟩
            case measure => omega
          · have hin : i = n := by omega
            have Sl5 : Hid (Slc wr w.heap.size (some ⟨q, 0, none⟩) n c1 ys) := Lib.hid (Ro.out.slc.mono (by omega))
            clear hin
            have D5 := Lib.hid (show ∀ t, t < m → (sval (us.getD t sd0)).ownBlock = none ∨ (sval (us.getD t sd0)).ownBlock ≠ (Value.slice (some ⟨q, 0, none⟩) n c1).ownBlock from fun t ht => by
              rcases e9 : (sval (us.getD t sd0)).ownBlock with _ | z
              · exact .inl rfl
              · exact .inr fun e8 => by have := (LI.out t ht z e9).2; simp [Value.ownBlock] at e8; omega)
            have hzT : w.heap.size ≤ wr.heap.size := G5.out.size
            go_wp2_with (first
              | (at_builtin
                 refine wpList_app2 rfl _ _ rfl rfl (Ss5.out.alloc _) wr.heap.size (some ⟨q, 0, none⟩) n c1 ys rfl (by rw [World.cell?_alloc_at _ _ _ _ rfl]; rfl) ((Sl5.out).alloc _) D5.out (by omega) (by simp; omega) ?_
                 intro A7 c7 w7 ss7 g7))
            have S7 : Hid (SS w7 w.heap.size w.heap.size A7 (m + 1) c7 (us ++ [(some ⟨q, 0, none⟩, n, c1)]) (xss ++ [ys])) := Lib.hid ss7
            have Sr7 : Hid (Src w7 g) := Lib.hid ((Sr5.out.below ((Below.refl wr.heap.size wr).alloc (Nat.le_refl _) (.cells #[.slice (some ⟨q, 0, none⟩) n c1] 28)) Sr5.out.lt).gro2 g7 (fun j hj => by have := (Ss5.out.lt_ j hj).1; omega))
            have G7 : Hid (w.grownBy w7 (some g)) := Lib.hid (grown_new2 (grown_alloc2 G5.out (.cells #[.slice (some ⟨q, 0, none⟩) n c1] 28)) g7 (fun j hj => (Ss5.out.lt_ j hj).1))
            have Ln7 : Hid (∀ i, i < m + 1 → ((us ++ [((some ⟨q, 0, none⟩, n, c1) : SV)]).getD i sd0).2.1 = n) := Lib.hid fun i hi => by
              by_cases e9 : i < m
              · rw [getD_app _ _ _ _ (by rw [Ss5.out.lv]; exact e9)]; exact Ln.out i e9
              · rw [getD_snoc _ _ _ _ (by rw [Ss5.out.lv]; omega)]
            clear ss7 g7
            go_wp2_with fail
            go_roundg k
            case rel => exact ⟨k, A7, m + 1, c7, _, _, by omega, by omega, by go_num, rfl, S7.out, Ln7.out, Sr7.out, G7.out⟩
            case measure => omega
      · have d30 : ((r3 : Int) == 0) = false := by simp; omega
        have d31 : ((r3 : Int) == 1) = false := by simp; omega
        clear hr23 hr3
        go_wp2_with fail
        refine (srcBelow g _ n w3 Sr3.out rfl (by omega) (by omega)).mono ?_
        rintro e w4 ⟨x, hx, rfl, s4, g4⟩
        have Sr4 := Lib.hid s4
        have Ss4 := Lib.hid (Ss3.out.farR g4 LA.out LI.out (.inl hg))
        have Sl4 : Hid (Slc w4 wr.heap.size (some ⟨q, 0, none⟩) n c1 (idL n)) := Lib.hid (Sl3.out.kept g4 (.inr (by simp [Value.ownBlock]; omega)))
        have G4 : Hid (w.grownBy w4 (some g)) := Lib.hid (grown_trans' G3.out g4)
        clear s4 g4
        go_wp2_with fail
        refine (srcBelow g _ n w4 Sr4.out rfl (by omega) (by omega)).mono ?_
        rintro e w5 ⟨y, hy, rfl, s5, g5⟩
        have Sr5 := Lib.hid s5
        have Ss5 := Lib.hid (Ss4.out.farR g5 LA.out LI.out (.inl hg))
        have Sl5 : Hid (Slc w5 wr.heap.size (some ⟨q, 0, none⟩) n c1 (idL n)) := Lib.hid (Sl4.out.kept g5 (.inr (by simp [Value.ownBlock]; omega)))
        have G5 : Hid (w.grownBy w5 (some g)) := Lib.hid (grown_trans' G4.out g5)
        clear s5 g5
        have row5 : Row w5 wr.heap.size q n c1 (idL n) := Row.of_own (by have h2 := Sl5.out.2; rw [← Sl5.out.1] at h2 ⊢; exact h2)
        have c5 := row5.cell hx
        have f5 := row5.free x
        rw [idL_getD hx] at c5
        have row6 := row5.store x (y : Int)
        have c6 := row6.cell hy
        have f6 := row6.free y
        obtain ⟨z6, hz6⟩ : ∃ z6, ((idL n).set x (y : Int)).getD y 0 = z6 := ⟨_, rfl⟩
        rw [hz6] at c6
        have Ro7 := Lib.hid (row6.store y (x : Int))
        obtain ⟨w6, hw6⟩ : ∃ w6, w5.setCell ⟨q, x, none⟩ (.int .i64 (y : Int)) = w6 := ⟨_, rfl⟩
        have Ss6 : Hid (SS w6 w.heap.size w.heap.size A m c us xss) := Lib.hid (by rw [← hw6]; exact Ss5.out.farR (r := q) (grown_set (grown_refl _ _) _ _) LA.out LI.out (.inr hq1))
        have Sr6 : Hid (Src w6 g) := Lib.hid (by rw [← hw6]; exact Sr5.out.gro (grown_set (grown_refl _ (some q)) x _) (by omega))
        have G6 : Hid (w.grownBy w6 (some g)) := Lib.hid (by rw [← hw6]; exact grown_far G5.out (by omega) x _)
        have Ss8 : Hid (SS (w6.setCell ⟨q, y, none⟩ (.int .i64 (x : Int))) w.heap.size w.heap.size A m c us xss) := Lib.hid (Ss6.out.farR (r := q) (grown_set (grown_refl _ _) _ _) LA.out LI.out (.inr hq1))
        have Sr8 : Hid (Src (w6.setCell ⟨q, y, none⟩ (.int .i64 (x : Int))) g) := Lib.hid (Sr6.out.gro (grown_set (grown_refl _ (some q)) y _) (by omega))
        have G8 : Hid (w.grownBy (w6.setCell ⟨q, y, none⟩ (.int .i64 (x : Int))) (some g)) := Lib.hid (grown_far G6.out (by omega) y _)
        obtain ⟨w8, hw8⟩ : ∃ w8, w6.setCell ⟨q, y, none⟩ (.int .i64 (x : Int)) = w8 := ⟨_, rfl⟩
        rw [hw8] at Ss8 Sr8 G8
        rw [hw6] at c6 f6 Ro7
        rw [hw8] at Ro7
        have Sl8 : Hid (Slc w8 w.heap.size (some ⟨q, 0, none⟩) n c1 (((idL n).set x (y : Int)).set y (x : Int))) := Lib.hid (Ro7.out.slc.mono (by omega))
        have x0 : (0 : Int) ≤ x := by omega
        have x1 : (x : Int) < n := by omega
        have y0 : (0 : Int) ≤ y := by omega
        have y1 : (y : Int) < n := by omega
        clear row5 row6 hz6
        have D5 := Lib.hid (show ∀ t, t < m → (sval (us.getD t sd0)).ownBlock = none ∨ (sval (us.getD t sd0)).ownBlock ≠ (Value.slice (some ⟨q, 0, none⟩) n c1).ownBlock from fun t ht => by
          rcases e9 : (sval (us.getD t sd0)).ownBlock with _ | z
          · exact .inl rfl
          · exact .inr fun e8 => by have := (LI.out t ht z e9).2; simp [Value.ownBlock] at e8; omega)
        have hzT : w.heap.size ≤ w8.heap.size := G8.out.size
        go_wp2_with (first
          | (at_builtin
             refine wpList_app2 rfl _ _ rfl rfl (Ss8.out.alloc _) w8.heap.size (some ⟨q, 0, none⟩) n c1 (((idL n).set x (y : Int)).set y (x : Int)) rfl (by rw [World.cell?_alloc_at _ _ _ _ rfl]; rfl) ((Sl8.out).alloc _) D5.out (by omega) (by simp; omega) ?_
             intro A7 c7 w7 ss7 g7))
        have S7 : Hid (SS w7 w.heap.size w.heap.size A7 (m + 1) c7 (us ++ [(some ⟨q, 0, none⟩, n, c1)]) (xss ++ [(((idL n).set x (y : Int)).set y (x : Int))])) := Lib.hid ss7
        have Sr7 : Hid (Src w7 g) := Lib.hid ((Sr8.out.below ((Below.refl w8.heap.size w8).alloc (Nat.le_refl _) (.cells #[.slice (some ⟨q, 0, none⟩) n c1] 28)) Sr8.out.lt).gro2 g7 (fun j hj => by have := (Ss8.out.lt_ j hj).1; omega))
        have G7 : Hid (w.grownBy w7 (some g)) := Lib.hid (grown_new2 (grown_alloc2 G8.out (.cells #[.slice (some ⟨q, 0, none⟩) n c1] 28)) g7 (fun j hj => (Ss8.out.lt_ j hj).1))
        have Ln7 : Hid (∀ i, i < m + 1 → ((us ++ [((some ⟨q, 0, none⟩, n, c1) : SV)]).getD i sd0).2.1 = n) := Lib.hid fun i hi => by
          by_cases e9 : i < m
          · rw [getD_app _ _ _ _ (by rw [Ss8.out.lv]; exact e9)]; exact Ln.out i e9
          · rw [getD_snoc _ _ _ _ (by rw [Ss8.out.lv]; omega)]
        clear ss7 g7
        go_wp2_with fail
        go_roundg k
        case rel => exact ⟨k, A7, m + 1, c7, _, _, by omega, by omega, by go_num, rfl, S7.out, Ln7.out, Sr7.out, G7.out⟩
        case measure => omega
    · have hk00 : k0 = 0 := by omega
      subst hk00
      go_wp2_with fail
      go_ret
      exact ⟨_, _, _, _, _, rfl, Ss.out, Ln.out, by omega, Sr.out, Gr.out⟩

theorem SS.lens_le {w : World} {bo bi n c : Nat} {A : Option Addr} {us : List SV} {xss : List (List Int)} (_h : SS w bo bi A n c us xss) {N : Nat} (hl : ∀ i, i < n → (us.getD i sd0).2.1 = N) (hN : N ≤ 21) : ∀ i, i < n → (us.getD i sd0).2.1 ≤ 21 := fun i hi => by rw [hl i hi]; exact hN

set_option maxHeartbeats 4000000 in
set_option maxRecDepth 100000 in
/-- drawGroup. -/
theorem drawGroupT (g : Nat) (w : World) (hs : Src w g) :
    Calls Try.prog 55 #[.pointer (some ⟨g, 0, none⟩)] w fun e w' => ∃ (z : Int) (A : Option Addr) (m c : Nat) (vs : List SV) (xss : List (List Int)), e = .returned (.tuple #[.int .i64 z, .slice A m c]) ∧ B64 z ∧ RR w' w'.heap.size A m vs xss ∧ m ≤ 9 ∧ (∀ i, i < m → (vs.getD i sd0).2.1 ≤ 21) ∧ Src w' g ∧ w.grownBy w' (some g) := by
  have hg := hs.lt
  go_enter Try.func55, Try.ntmps55
  go_wp2_with fail
  refine (srcBetween g 2 5 w hs (by omega) (by omega)).mono ?_
  rintro e w1 ⟨n1, h11, h12, rfl, s1, g1⟩
  have Sr1 := Lib.hid s1
  have G1 := Lib.hid g1
  clear s1 g1 hs
  go_wp2_with fail
  refine (srcOne g _ 6 w1 Sr1.out rfl (by omega) (by omega)).mono ?_
  rintro e w2 ⟨b, rfl, s2, g2⟩
  have Sr2 := Lib.hid s2
  have G2 : Hid (w.grownBy w2 (some g)) := Lib.hid (grown_trans' G1.out g2)
  clear s2 g2
  go_upto_if 9 with fail
  go_cut [4] from 6 to 48 (fun nn wx => ∃ n : Nat, 1 ≤ n ∧ n ≤ 7 ∧ nn = .int .i64 (n : Nat) ∧ Src wx g ∧ w.grownBy wx (some g))
  case first =>
    cases b
    · go_wp2_with fail
      go_meet
      exact ⟨n1, by omega, by omega, rfl, Sr2.out, G2.out⟩
    · go_wp2_with fail
      refine (srcBetween g 1 7 w2 Sr2.out (by omega) (by omega)).mono ?_
      rintro e w3 ⟨n3, h31, h32, rfl, s3, g3⟩
      have Sr3 := Lib.hid s3
      have G3 : Hid (w.grownBy w3 (some g)) := Lib.hid (grown_trans' G2.out g3)
      clear s3 g3
      go_wp2_with fail
      go_meet
      exact ⟨n3, by omega, by omega, rfl, Sr3.out, G3.out⟩
  case rest =>
    obtain ⟨n, hn1, hn7, rfl, src, grc⟩ := hcut
    have Sr3 := Lib.hid src
    have G3 := Lib.hid grc
    clear src grc Sr2 G2 Sr1 G1
    go_wp2_with fail
    refine (drawGens g n wc Sr3.out hn1 (by omega)).mono ?_
    rintro e w4 ⟨A, m, c, us, xss, rfl, ss4, ln4, hm4, s4, g4⟩
    have Ss4 := Lib.hid ss4
    have Ln4 := Lib.hid ln4
    have Sr4 := Lib.hid s4
    have G4 : Hid (w.grownBy w4 (some g)) := Lib.hid (grown_trans' G3.out g4)
    have hgc : g < wc.heap.size := Sr3.out.lt
    have hz4 := G4.out.size
    have LA : Hid (∀ j, (Value.slice A m c).ownBlock = some j → wc.heap.size ≤ j ∧ j < w4.heap.size) := Lib.hid ss4.lt_
    have LI : Hid (∀ t, t < m → ∀ j, (sval (us.getD t sd0)).ownBlock = some j → wc.heap.size ≤ j ∧ j < w4.heap.size) := Lib.hid fun t ht => (ss4.row t ht).lt_
    have hzc4 := g4.size
    clear ss4 ln4 s4 g4
    go_wp2_with fail
    refine (srcOne g _ 20 w4 Sr4.out rfl (by omega) (by omega)).mono ?_
    rintro e w5 ⟨b5, rfl, s5, g5⟩
    have Sr5 := Lib.hid s5
    have Ss5 := Lib.hid (Ss4.out.farR g5 LA.out LI.out (.inl hgc))
    have G5 : Hid (w.grownBy w5 (some g)) := Lib.hid (grown_trans' G4.out g5)
    have hz5 := g5.size
    clear s5 g5
    cases b5
    · go_wp2_with fail
      go_ret2
      exact ⟨_, _, _, _, us, xss, rfl, by unfold B64; omega, Ss5.out.rr, by omega, Ss5.out.lens_le Ln4.out (by omega), Sr5.out, G5.out⟩
    · go_wp2_with fail
      refine (srcBelow g _ 4 w5 Sr5.out rfl (by omega) (by omega)).mono ?_
      rintro e w6 ⟨r6, hr6, rfl, s6, g6⟩
      have Sr6 := Lib.hid s6
      have Ss6 := Lib.hid (Ss5.out.farR g6 LA.out LI.out (.inl hgc))
      have G6 : Hid (w.grownBy w6 (some g)) := Lib.hid (grown_trans' G5.out g6)
      have hz6 := g6.size
      clear s6 g6
      obtain rfl | rfl | rfl | rfl : r6 = 0 ∨ r6 = 1 ∨ r6 = 2 ∨ r6 = 3 := by omega
      · go_wp2_with fail
        refine (srcNumberB g 20 w6 Sr6.out (by omega) (by omega)).mono ?_
        rintro e w7 ⟨z7, rfl, hB7, s7, g7⟩
        have Sr7 := Lib.hid s7
        have Ss7 := Lib.hid (Ss6.out.farR g7 LA.out LI.out (.inl hgc))
        have G7 : Hid (w.grownBy w7 (some g)) := Lib.hid (grown_trans' G6.out g7)
        have HB7 := Lib.hid hB7
        clear s7 g7 hB7
        go_wp2_with fail
        go_ret2
        exact ⟨_, _, _, _, us, xss, rfl, HB7.out, Ss7.out.rr, by omega, Ss7.out.lens_le Ln4.out (by omega), Sr7.out, G7.out⟩
      · go_wp2_with fail
        refine (drawAny g n w6 Sr6.out (by omega) (by omega)).mono ?_
        rintro e w7 ⟨A7, m7, c7, ys, rfl, p7, hm7, s7, g7⟩
        have Sr7 := Lib.hid s7
        have Ss7 := Lib.hid (Ss6.out.farR g7 LA.out LI.out (.inl hgc))
        have G7 : Hid (w.grownBy w7 (some g)) := Lib.hid (grown_trans' G6.out g7)
        have P7 : Hid (Pm (w7.alloc (.cells #[.slice A7 m7 c7] 28)) w6.heap.size A7 m7 c7 ys) := Lib.hid (p7.up ((Below.refl w7.heap.size w7).alloc (Nat.le_refl _) _))
        have hz7 := G7.out.size
        have hz67 := g7.size
        have hlt7 : Hid (∀ j, (Value.slice A m c).ownBlock = some j → j < w6.heap.size) := Lib.hid fun j hj => by have := (LA.out j hj).2; omega
        clear s7 g7 p7
        go_wp2_with (first
          | (at_builtin
             refine wpList_app2R rfl _ _ rfl rfl (Ss7.out.alloc _) w7.heap.size A7 m7 c7 w6.heap.size ys rfl (by rw [World.cell?_alloc_at _ _ _ _ rfl]; rfl) P7.out hlt7.out (by omega) (by simp; omega) ?_
             intro A8 c8 w8 rr8 g8))
        have R8 := Lib.hid rr8
        have Sr8 : Hid (Src w8 g) := Lib.hid ((Sr7.out.below ((Below.refl w7.heap.size w7).alloc (Nat.le_refl _) (.cells #[.slice A7 m7 c7] 28)) Sr7.out.lt).gro2 g8 (fun j hj => by have := (LA.out j hj).1; omega))
        have G8 : Hid (w.grownBy w8 (some g)) := Lib.hid (grown_new2 (grown_alloc2 G7.out (.cells #[.slice A7 m7 c7] 28)) g8 (fun j hj => by have := (LA.out j hj).1; have := G3.out.size; omega))
        have Ln8 : Hid (∀ i, i < m + 1 → ((us ++ [((A7, m7, c7) : SV)]).getD i sd0).2.1 ≤ 21) := Lib.hid fun i hi => by
          by_cases e9 : i < m
          · rw [getD_app _ _ _ _ (by rw [Ss7.out.lv]; exact e9), Ln4.out i e9]; omega
          · rw [getD_snoc _ _ _ _ (by rw [Ss7.out.lv]; omega)]; exact hm7
        clear rr8 g8
        go_wp2_with fail
        go_ret2
        exact ⟨_, _, _, _, _, _, rfl, by unfold B64; omega, R8.out, by omega, Ln8.out, Sr8.out, G8.out⟩
      · have hw6 := G6.out.size
        have Sr7 : Hid (Src (w6.alloc (.cells #[] 28)) g) := Lib.hid (Sr6.out.below ((Below.refl w6.heap.size w6).alloc (Nat.le_refl _) _) Sr6.out.lt)
        have G7 : Hid (w.grownBy (w6.alloc (.cells #[] 28)) (some g)) := Lib.hid (grown_alloc2 G6.out _)
        go_wp2_with fail
        go_ret2
        exact ⟨_, _, 0, _, [], [], rfl, by unfold B64; omega, RR.nil_, by omega, fun i hi => absurd hi (by omega), Sr7.out, G7.out⟩
      · go_wp2_with fail
        go_loopg [5] 10 (fun gg v wr => ∃ (A : Option Addr) (m c : Nat) (us : List SV) (xss : List (List Int)), m ≤ 9 ∧ 9 - m ≤ gg ∧ v = .slice A m c ∧ SS wr wc.heap.size wc.heap.size A m c us xss ∧ (∀ i, i < m → (us.getD i sd0).2.1 = n) ∧ Src wr g ∧ w.grownBy wr (some g) ∧ wc.heap.size ≤ wr.heap.size)
        case atStart => exact ⟨_, m, _, _, _, by omega, by omega, rfl, Ss6.out, Ln4.out, Sr6.out, G6.out, by omega⟩
        case round =>
          clear LA LI Ss4 Ss5 Ss6
          obtain ⟨A, m, c, us, xss, hm9, hgm, rfl, ss, ln, sr, gr, hzc⟩ := hrel
          have Ss := Lib.hid ss
          have Ln := Lib.hid ln
          have Sr := Lib.hid sr
          have Gr := Lib.hid gr
          have LA : Hid (∀ j, (Value.slice A m c).ownBlock = some j → wc.heap.size ≤ j ∧ j < wr.heap.size) := Lib.hid ss.lt_
          have LI : Hid (∀ t, t < m → ∀ j, (sval (us.getD t sd0)).ownBlock = some j → wc.heap.size ≤ j ∧ j < wr.heap.size) := Lib.hid fun t ht => (ss.row t ht).lt_
          clear ss ln sr gr
          go_wp2_with fail
          refine (srcBelow g _ 2 wr Sr.out rfl (by omega) (by omega)).mono ?_
          rintro e w7 ⟨r7, hr7, rfl, s7, g7⟩
          have Sr7 := Lib.hid s7
          have Ss7 := Lib.hid (Ss.out.farR g7 LA.out LI.out (.inl hgc))
          have G7 : Hid (w.grownBy w7 (some g)) := Lib.hid (grown_trans' Gr.out g7)
          have hz7 := g7.size
          have w88 : IntKind.i64.wrap (8 + (r7 : Int)) = 8 + (r7 : Int) := by rw [IntKind.wrap_i64]; omega
          have w89 : IntKind.i64.wrap (r7 : Int) = (r7 : Int) := by rw [IntKind.wrap_i64]; omega
          clear s7 g7
          by_cases hlt : (m : Int) < 8 + (r7 : Int)
          · have d7 : decide ((m : Int) < 8 + (r7 : Int)) = true := decide_eq_true hlt
            have hm8 : m ≤ 8 := by omega
            go_wp2_with fail
            refine (specIdent n w7 (by omega)).mono ?_
            rintro e w8 ⟨A8, c8, rfl, s8, b8⟩
            have Sr8 := Lib.hid (Sr7.out.below b8 Sr7.out.lt)
            have Ss8 := Lib.hid (Ss7.out.up b8)
            have G8 : Hid (w.grownBy w8 (some g)) := Lib.hid (grown_below2 G7.out b8)
            have D8 := Lib.hid (lies_dis Ss7.out s8.lies (Nat.le_refl _))
            have hz8 := b8.size
            have Sl8 := Lib.hid (s8.mono (show wc.heap.size ≤ w7.heap.size by omega))
            clear s8 b8
            go_wp2_with (first
              | (at_builtin
                 refine wpList_app2 rfl _ _ rfl rfl (Ss8.out.alloc _) w8.heap.size A8 n c8 (idL n) rfl (by rw [World.cell?_alloc_at _ _ _ _ rfl]; rfl) (Sl8.out.alloc _) D8.out (by omega) (by simp; omega) ?_
                 intro A9 c9 w9 ss9 g9))
            have Ss9 : Hid (SS w9 wc.heap.size wc.heap.size A9 (m + 1) c9 (us ++ [(A8, n, c8)]) (xss ++ [idL n])) := Lib.hid ss9
            have Sr9 : Hid (Src w9 g) := Lib.hid ((Sr8.out.below ((Below.refl w8.heap.size w8).alloc (Nat.le_refl _) (.cells #[.slice A8 n c8] 28)) Sr8.out.lt).gro2 g9 (fun j hj => by have := (LA.out j hj).1; omega))
            have G9 : Hid (w.grownBy w9 (some g)) := Lib.hid (grown_new2 (grown_alloc2 G8.out (.cells #[.slice A8 n c8] 28)) g9 (fun j hj => by have := (LA.out j hj).1; have := G3.out.size; omega))
            have hz9 : wc.heap.size ≤ w9.heap.size := by have := g9.size; simp at this; omega
            have Ln9 : Hid (∀ i, i < m + 1 → ((us ++ [((A8, n, c8) : SV)]).getD i sd0).2.1 = n) := Lib.hid fun i hi => by
              by_cases e9 : i < m
              · rw [getD_app _ _ _ _ (by rw [Ss8.out.lv]; exact e9)]; exact Ln.out i e9
              · rw [getD_snoc _ _ _ _ (by rw [Ss8.out.lv]; omega)]
            clear ss9 g9
            go_wp2_with fail
            go_roundg (9 - (m + 1))
            case rel => exact ⟨A9, m + 1, c9, _, _, by omega, by omega, rfl, Ss9.out, Ln9.out, Sr9.out, G9.out, hz9⟩
            case measure => omega
          · have d7 : decide ((m : Int) < 8 + (r7 : Int)) = false := decide_eq_false hlt
            go_wp2_with fail
            go_ret2
            exact ⟨_, _, _, _, us, xss, rfl, by unfold B64; omega, Ss7.out.rr, by omega, Ss7.out.lens_le Ln.out (by omega), Sr7.out, G7.out⟩
end Go.Proofs.Ytonanelghnjhpaa

/- A draw of a group, with where its slices lie. Condition: at most 4096 bytes. -/
namespace Go.Proofs.Ytonanelghnjhpaa
open Go.RowKit

/-- Slices of numbers that can be read, all in blocks from lo on. -/
structure RX (w : World) (lo : Nat) (A : Option Addr) (n : Nat) (vs : List SV) (xss : List (List Int)) : Prop where
  rr : RR w w.heap.size A n vs xss
  outer : 0 < n → ∀ b off, A = some ⟨b, off, none⟩ → lo ≤ b
  inner : ∀ j, j < n → ∀ b off, (vs.getD j sd0).1 = some ⟨b, off, none⟩ → 0 < (xss.getD j []).length → lo ≤ b
section
variable {w w' : World} {lo g n : Nat} {A : Option Addr} {vs : List SV} {xss : List (List Int)}
theorem RX.nil_ {c : Option Addr} : RX w lo c 0 [] [] := ⟨RR.nil_, fun h => absurd h (Nat.lt_irrefl _), fun j h => absurd h (Nat.not_lt_zero _)⟩
theorem RX.of_ss {bo bi c : Nat} (h : SS w bo bi A n c vs xss) (h1 : lo ≤ bo) (h2 : lo ≤ bi) : RX w lo A n vs xss :=
  ⟨h.rr, fun _ b off e => by have := (h.lt_ b (by subst e; rfl)).1; omega, fun j hj b off e _ => by have := ((h.row j hj).lt_ b (by rw [e]; rfl)).1; omega⟩
theorem RX.gro (h : RX w lo A n vs xss) (hg : w.grownBy w' (some g)) (hl : g < lo) : RX w' lo A n vs xss :=
  ⟨⟨h.rr.lv, h.rr.lx, fun hn => by
      obtain ⟨b, off, e, hb, hc⟩ := h.rr.cells hn
      have := h.outer hn b off e
      exact ⟨b, off, e, Nat.lt_of_lt_of_le hb hg.size, fun j hj => (World.cell?_of_block (a := ⟨b, off + j, none⟩) (hg.block b hb (by intro e2; injection e2 with e2; omega))).trans (hc j hj)⟩,
    fun j hj hp => by
      obtain ⟨b, off, e, hb, hc⟩ := h.rr.rows j hj hp
      have := h.inner j hj b off e hp
      exact ⟨b, off, e, Nat.lt_of_lt_of_le hb hg.size, fun t ht => (World.cell?_of_block (a := ⟨b, off + t, none⟩) (hg.block b hb (by intro e2; injection e2 with e2; omega))).trans (hc t ht)⟩, h.rr.lens, h.rr.caps⟩, h.outer, h.inner⟩
theorem RX.up (h : RX w lo A n vs xss) (hb : Below w.heap.size w w') : RX w' lo A n vs xss := ⟨h.rr.up hb, h.outer, h.inner⟩
end
section
variable {w w' : World} {base n c : Nat} {A : Option Addr} {vs : List SV} {xss : List (List Int)}
/-- A slice that can be read, appended onto a slice of slices of the call's own. -/
theorem wpList_app2X {ops : Array Oper} {rest : List Oper} {o : Oper} {a : Act} {Q : Exit → Act → World → Prop} (hgd : o.guard = none) (s x : Operand)
    (ho : o.op = .call { callee := .builtin .append, args := #[s, x], argTypes := #[24, 24] })
    (hs : a.eval s = .slice A n c) (hss : SS w base base A n c vs xss) (g : Nat) (dA : Option Addr) (dn dc lo : Nat) (ys : List Int) (hx : a.eval x = .slice (some ⟨g, 0, none⟩) 1 1)
    (hcell : w.cell? ⟨g, 0, none⟩ = some (.slice dA dn dc)) (hys : Pm w lo dA dn dc ys) (hlo : ∀ k, (Value.slice A n c).ownBlock = some k → k < lo) (hn : n ≤ 1000000000) (hbase : base ≤ w.heap.size) (l0 : Nat) (hl0 : l0 ≤ base) (hl1 : l0 ≤ lo)
    (h : ∀ A' c' w', RX w' l0 A' (n + 1) (vs ++ [(dA, dn, dc)]) (xss ++ [ys]) → w.grownBy w' (Value.slice A n c).ownBlock → wpList Try.prog ops Q rest (a.put o.dst (.slice A' (n + 1) c')) w') : wpList Try.prog ops Q (o :: rest) a w := by
  obtain ⟨i0, hi, hz0, hz1, hz2⟩ := info_parts infoS
  refine wpList_append_own (w := w) hgd s x 24 ho base 28 i0 (.slice none 0 0) 1 24 Try.underlying24 hi hz0 hz1 hz2 rfl (by decide) _ n _ hs hss.own ⟨g, 0, none⟩ 1 1 [.slice dA dn dc] hx rfl ?_ ?_ ?_ (by omega) hbase ?_
  · intro j v hj
    match j, hj with
    | 0, hj => simp at hj; subst hj; simpa [Addr.add] using hcell
    | j + 1, hj => simp at hj
  · intro v hv; simp at hv; subst hv; rfl
  · unfold maxLen; omega
  · intro v' w' hown' hg _
    rcases hown'.2 with ⟨rfl, h0⟩ | ⟨g', cap, cur, rfl, hb', hg', hnc, _⟩
    · omega
    · refine h (some ⟨g', 0, none⟩) cap w' ⟨⟨by simp [hss.lv], by simp [hss.lx], fun _ => ⟨g', 0, rfl, (Array.getElem?_eq_some_iff.1 hg').1, fun j hj => ?_⟩, fun j hj => ?_, fun j hj => ?_, fun j hj => ?_⟩, fun _ b off e => ?_, fun j hj b off e hp => ?_⟩ hg
      · rw [Nat.zero_add, hown'.cellAt j (by omega)]
        by_cases e : j < n
        · rw [List.getElem?_append_left (by rw [List.length_map, hss.lv]; exact e), List.getElem?_map, getD_app _ _ _ _ (by rw [hss.lv]; exact e), List.getD_eq_getElem?_getD, List.getElem?_eq_getElem (by rw [hss.lv]; exact e)]; rfl
        · obtain rfl : j = n := by omega
          rw [List.getElem?_append_right (by rw [List.length_map, hss.lv]; exact Nat.le_refl _), List.length_map, hss.lv, Nat.sub_self, getD_snoc _ _ _ _ hss.lv.symm]; rfl
      · by_cases e : j < n
        · rw [getD_app _ _ _ _ (by rw [hss.lv]; exact e), getD_app _ _ _ _ (by rw [hss.lx]; exact e)]
          exact ((hss.row j e).kept hg (apart_types (hss.row j e) hss.own)).ri_
        · obtain rfl : j = n := by omega
          rw [getD_snoc _ _ _ _ hss.lv.symm, getD_snoc _ _ _ _ hss.lx.symm]
          intro hp
          obtain ⟨b, off, e1, h1, h2, hc⟩ := hys.2.2 (by rw [← hys.1]; exact hp)
          refine ⟨b, off, e1, Nat.lt_of_lt_of_le h2 hg.size, fun t ht => (World.cell?_of_block (a := ⟨b, off + t, none⟩) (hg.block b h2 fun e2 => ?_)).trans (hc t (by rw [← hys.1]; exact ht))⟩
          have := hlo b e2.symm
          omega
      · by_cases e : j < n
        · rw [getD_app _ _ _ _ (by rw [hss.lx]; exact e), getD_app _ _ _ _ (by rw [hss.lv]; exact e)]; exact (hss.row j e).1
        · obtain rfl : j = n := by omega
          rw [getD_snoc _ _ _ _ hss.lx.symm, getD_snoc _ _ _ _ hss.lv.symm]; exact hys.1
      · by_cases e : j < n
        · rw [getD_app _ _ _ _ (by rw [hss.lv]; exact e)]; exact (hss.row j e).le.1
        · obtain rfl : j = n := by omega
          rw [getD_snoc _ _ _ _ hss.lv.symm]; exact hys.2.1
      · injection e with e; injection e with e; omega
      · by_cases e9 : j < n
        · rw [getD_app _ _ _ _ (by rw [hss.lv]; exact e9)] at e
          have := ((hss.row j e9).lt_ b (by rw [e]; rfl)).1
          omega
        · obtain rfl : j = n := by omega
          rw [getD_snoc _ _ _ _ hss.lv.symm] at e
          rw [getD_snoc _ _ _ _ hss.lx.symm] at hp
          obtain ⟨b2, off2, e1, h1, _⟩ := hys.2.2 (by rw [← hys.1]; exact hp)
          have e3 : (some ⟨b, off, none⟩ : Option Addr) = some ⟨b2, off2, none⟩ := e.symm.trans e1
          injection e3 with e3; injection e3 with e3; omega
end

set_option maxHeartbeats 4000000 in
set_option maxRecDepth 100000 in
/-- drawGroup. -/
theorem drawGroupX (g : Nat) (w : World) (hs : Src w g) :
    Calls Try.prog 55 #[.pointer (some ⟨g, 0, none⟩)] w fun e w' => ∃ (z : Int) (A : Option Addr) (m c : Nat) (vs : List SV) (xss : List (List Int)), e = .returned (.tuple #[.int .i64 z, .slice A m c]) ∧ B64 z ∧ RX w' w.heap.size A m vs xss ∧ m ≤ 9 ∧ (∀ i, i < m → (vs.getD i sd0).2.1 ≤ 21) ∧ Src w' g ∧ w.grownBy w' (some g) := by
  have hg := hs.lt
  go_enter Try.func55, Try.ntmps55
  go_wp2_with fail
  refine (srcBetween g 2 5 w hs (by omega) (by omega)).mono ?_
  rintro e w1 ⟨n1, h11, h12, rfl, s1, g1⟩
  have Sr1 := Lib.hid s1
  have G1 := Lib.hid g1
  clear s1 g1 hs
  go_wp2_with fail
  refine (srcOne g _ 6 w1 Sr1.out rfl (by omega) (by omega)).mono ?_
  rintro e w2 ⟨b, rfl, s2, g2⟩
  have Sr2 := Lib.hid s2
  have G2 : Hid (w.grownBy w2 (some g)) := Lib.hid (grown_trans' G1.out g2)
  clear s2 g2
  go_upto_if 9 with fail
  go_cut [4] from 6 to 48 (fun nn wx => ∃ n : Nat, 1 ≤ n ∧ n ≤ 7 ∧ nn = .int .i64 (n : Nat) ∧ Src wx g ∧ w.grownBy wx (some g))
  case first =>
    cases b
    · go_wp2_with fail
      go_meet
      exact ⟨n1, by omega, by omega, rfl, Sr2.out, G2.out⟩
    · go_wp2_with fail
      refine (srcBetween g 1 7 w2 Sr2.out (by omega) (by omega)).mono ?_
      rintro e w3 ⟨n3, h31, h32, rfl, s3, g3⟩
      have Sr3 := Lib.hid s3
      have G3 : Hid (w.grownBy w3 (some g)) := Lib.hid (grown_trans' G2.out g3)
      clear s3 g3
      go_wp2_with fail
      go_meet
      exact ⟨n3, by omega, by omega, rfl, Sr3.out, G3.out⟩
  case rest =>
    obtain ⟨n, hn1, hn7, rfl, src, grc⟩ := hcut
    have Sr3 := Lib.hid src
    have G3 := Lib.hid grc
    clear src grc Sr2 G2 Sr1 G1
    have hwc := G3.out.size
    go_wp2_with fail
    refine (drawGens g n wc Sr3.out hn1 (by omega)).mono ?_
    rintro e w4 ⟨A, m, c, us, xss, rfl, ss4, ln4, hm4, s4, g4⟩
    have Ss4 := Lib.hid ss4
    have Ln4 := Lib.hid ln4
    have Sr4 := Lib.hid s4
    have G4 : Hid (w.grownBy w4 (some g)) := Lib.hid (grown_trans' G3.out g4)
    have hgc : g < wc.heap.size := Sr3.out.lt
    have hz4 := G4.out.size
    have LA : Hid (∀ j, (Value.slice A m c).ownBlock = some j → wc.heap.size ≤ j ∧ j < w4.heap.size) := Lib.hid ss4.lt_
    have LI : Hid (∀ t, t < m → ∀ j, (sval (us.getD t sd0)).ownBlock = some j → wc.heap.size ≤ j ∧ j < w4.heap.size) := Lib.hid fun t ht => (ss4.row t ht).lt_
    have hzc4 := g4.size
    clear ss4 ln4 s4 g4
    go_wp2_with fail
    refine (srcOne g _ 20 w4 Sr4.out rfl (by omega) (by omega)).mono ?_
    rintro e w5 ⟨b5, rfl, s5, g5⟩
    have Sr5 := Lib.hid s5
    have Ss5 := Lib.hid (Ss4.out.farR g5 LA.out LI.out (.inl hgc))
    have G5 : Hid (w.grownBy w5 (some g)) := Lib.hid (grown_trans' G4.out g5)
    have hz5 := g5.size
    clear s5 g5
    cases b5
    · go_wp2_with fail
      go_ret2
      exact ⟨_, _, _, _, us, xss, rfl, by unfold B64; omega, (RX.of_ss Ss5.out (by omega) (by omega)), by omega, Ss5.out.lens_le Ln4.out (by omega), Sr5.out, G5.out⟩
    · go_wp2_with fail
      refine (srcBelow g _ 4 w5 Sr5.out rfl (by omega) (by omega)).mono ?_
      rintro e w6 ⟨r6, hr6, rfl, s6, g6⟩
      have Sr6 := Lib.hid s6
      have Ss6 := Lib.hid (Ss5.out.farR g6 LA.out LI.out (.inl hgc))
      have G6 : Hid (w.grownBy w6 (some g)) := Lib.hid (grown_trans' G5.out g6)
      have hz6 := g6.size
      clear s6 g6
      obtain rfl | rfl | rfl | rfl : r6 = 0 ∨ r6 = 1 ∨ r6 = 2 ∨ r6 = 3 := by omega
      · go_wp2_with fail
        refine (srcNumberB g 20 w6 Sr6.out (by omega) (by omega)).mono ?_
        rintro e w7 ⟨z7, rfl, hB7, s7, g7⟩
        have Sr7 := Lib.hid s7
        have Ss7 := Lib.hid (Ss6.out.farR g7 LA.out LI.out (.inl hgc))
        have G7 : Hid (w.grownBy w7 (some g)) := Lib.hid (grown_trans' G6.out g7)
        have HB7 := Lib.hid hB7
        clear s7 g7 hB7
        go_wp2_with fail
        go_ret2
        exact ⟨_, _, _, _, us, xss, rfl, HB7.out, (RX.of_ss Ss7.out (by omega) (by omega)), by omega, Ss7.out.lens_le Ln4.out (by omega), Sr7.out, G7.out⟩
      · go_wp2_with fail
        refine (drawAny g n w6 Sr6.out (by omega) (by omega)).mono ?_
        rintro e w7 ⟨A7, m7, c7, ys, rfl, p7, hm7, s7, g7⟩
        have Sr7 := Lib.hid s7
        have Ss7 := Lib.hid (Ss6.out.farR g7 LA.out LI.out (.inl hgc))
        have G7 : Hid (w.grownBy w7 (some g)) := Lib.hid (grown_trans' G6.out g7)
        have P7 : Hid (Pm (w7.alloc (.cells #[.slice A7 m7 c7] 28)) w6.heap.size A7 m7 c7 ys) := Lib.hid (p7.up ((Below.refl w7.heap.size w7).alloc (Nat.le_refl _) _))
        have hz7 := G7.out.size
        have hz67 := g7.size
        have hlt7 : Hid (∀ j, (Value.slice A m c).ownBlock = some j → j < w6.heap.size) := Lib.hid fun j hj => by have := (LA.out j hj).2; omega
        clear s7 g7 p7
        go_wp2_with (first
          | (at_builtin
             refine wpList_app2X rfl _ _ rfl rfl (Ss7.out.alloc _) w7.heap.size A7 m7 c7 w6.heap.size ys rfl (by rw [World.cell?_alloc_at _ _ _ _ rfl]; rfl) P7.out hlt7.out (by omega) (by simp; omega) w.heap.size (by omega) (by omega) ?_
             intro A8 c8 w8 rr8 g8))
        have R8 := Lib.hid rr8
        have Sr8 : Hid (Src w8 g) := Lib.hid ((Sr7.out.below ((Below.refl w7.heap.size w7).alloc (Nat.le_refl _) (.cells #[.slice A7 m7 c7] 28)) Sr7.out.lt).gro2 g8 (fun j hj => by have := (LA.out j hj).1; omega))
        have G8 : Hid (w.grownBy w8 (some g)) := Lib.hid (grown_new2 (grown_alloc2 G7.out (.cells #[.slice A7 m7 c7] 28)) g8 (fun j hj => by have := (LA.out j hj).1; have := G3.out.size; omega))
        have Ln8 : Hid (∀ i, i < m + 1 → ((us ++ [((A7, m7, c7) : SV)]).getD i sd0).2.1 ≤ 21) := Lib.hid fun i hi => by
          by_cases e9 : i < m
          · rw [getD_app _ _ _ _ (by rw [Ss7.out.lv]; exact e9), Ln4.out i e9]; omega
          · rw [getD_snoc _ _ _ _ (by rw [Ss7.out.lv]; omega)]; exact hm7
        clear rr8 g8
        go_wp2_with fail
        go_ret2
        exact ⟨_, _, _, _, _, _, rfl, by unfold B64; omega, R8.out, by omega, Ln8.out, Sr8.out, G8.out⟩
      · have hw6 := G6.out.size
        have Sr7 : Hid (Src (w6.alloc (.cells #[] 28)) g) := Lib.hid (Sr6.out.below ((Below.refl w6.heap.size w6).alloc (Nat.le_refl _) _) Sr6.out.lt)
        have G7 : Hid (w.grownBy (w6.alloc (.cells #[] 28)) (some g)) := Lib.hid (grown_alloc2 G6.out _)
        go_wp2_with fail
        go_ret2
        exact ⟨_, _, 0, _, [], [], rfl, by unfold B64; omega, RX.nil_, by omega, fun i hi => absurd hi (by omega), Sr7.out, G7.out⟩
      · go_wp2_with fail
        go_loopg [5] 10 (fun gg v wr => ∃ (A : Option Addr) (m c : Nat) (us : List SV) (xss : List (List Int)), m ≤ 9 ∧ 9 - m ≤ gg ∧ v = .slice A m c ∧ SS wr wc.heap.size wc.heap.size A m c us xss ∧ (∀ i, i < m → (us.getD i sd0).2.1 = n) ∧ Src wr g ∧ w.grownBy wr (some g) ∧ wc.heap.size ≤ wr.heap.size)
        case atStart => exact ⟨_, m, _, _, _, by omega, by omega, rfl, Ss6.out, Ln4.out, Sr6.out, G6.out, by omega⟩
        case round =>
          clear LA LI Ss4 Ss5 Ss6
          obtain ⟨A, m, c, us, xss, hm9, hgm, rfl, ss, ln, sr, gr, hzc⟩ := hrel
          have Ss := Lib.hid ss
          have Ln := Lib.hid ln
          have Sr := Lib.hid sr
          have Gr := Lib.hid gr
          have LA : Hid (∀ j, (Value.slice A m c).ownBlock = some j → wc.heap.size ≤ j ∧ j < wr.heap.size) := Lib.hid ss.lt_
          have LI : Hid (∀ t, t < m → ∀ j, (sval (us.getD t sd0)).ownBlock = some j → wc.heap.size ≤ j ∧ j < wr.heap.size) := Lib.hid fun t ht => (ss.row t ht).lt_
          clear ss ln sr gr
          go_wp2_with fail
          refine (srcBelow g _ 2 wr Sr.out rfl (by omega) (by omega)).mono ?_
          rintro e w7 ⟨r7, hr7, rfl, s7, g7⟩
          have Sr7 := Lib.hid s7
          have Ss7 := Lib.hid (Ss.out.farR g7 LA.out LI.out (.inl hgc))
          have G7 : Hid (w.grownBy w7 (some g)) := Lib.hid (grown_trans' Gr.out g7)
          have hz7 := g7.size
          have w88 : IntKind.i64.wrap (8 + (r7 : Int)) = 8 + (r7 : Int) := by rw [IntKind.wrap_i64]; omega
          have w89 : IntKind.i64.wrap (r7 : Int) = (r7 : Int) := by rw [IntKind.wrap_i64]; omega
          clear s7 g7
          by_cases hlt : (m : Int) < 8 + (r7 : Int)
          · have d7 : decide ((m : Int) < 8 + (r7 : Int)) = true := decide_eq_true hlt
            have hm8 : m ≤ 8 := by omega
            go_wp2_with fail
            refine (specIdent n w7 (by omega)).mono ?_
            rintro e w8 ⟨A8, c8, rfl, s8, b8⟩
            have Sr8 := Lib.hid (Sr7.out.below b8 Sr7.out.lt)
            have Ss8 := Lib.hid (Ss7.out.up b8)
            have G8 : Hid (w.grownBy w8 (some g)) := Lib.hid (grown_below2 G7.out b8)
            have D8 := Lib.hid (lies_dis Ss7.out s8.lies (Nat.le_refl _))
            have hz8 := b8.size
            have Sl8 := Lib.hid (s8.mono (show wc.heap.size ≤ w7.heap.size by omega))
            clear s8 b8
            go_wp2_with (first
              | (at_builtin
                 refine wpList_app2 rfl _ _ rfl rfl (Ss8.out.alloc _) w8.heap.size A8 n c8 (idL n) rfl (by rw [World.cell?_alloc_at _ _ _ _ rfl]; rfl) (Sl8.out.alloc _) D8.out (by omega) (by simp; omega) ?_
                 intro A9 c9 w9 ss9 g9))
            have Ss9 : Hid (SS w9 wc.heap.size wc.heap.size A9 (m + 1) c9 (us ++ [(A8, n, c8)]) (xss ++ [idL n])) := Lib.hid ss9
            have Sr9 : Hid (Src w9 g) := Lib.hid ((Sr8.out.below ((Below.refl w8.heap.size w8).alloc (Nat.le_refl _) (.cells #[.slice A8 n c8] 28)) Sr8.out.lt).gro2 g9 (fun j hj => by have := (LA.out j hj).1; omega))
            have G9 : Hid (w.grownBy w9 (some g)) := Lib.hid (grown_new2 (grown_alloc2 G8.out (.cells #[.slice A8 n c8] 28)) g9 (fun j hj => by have := (LA.out j hj).1; have := G3.out.size; omega))
            have hz9 : wc.heap.size ≤ w9.heap.size := by have := g9.size; simp at this; omega
            have Ln9 : Hid (∀ i, i < m + 1 → ((us ++ [((A8, n, c8) : SV)]).getD i sd0).2.1 = n) := Lib.hid fun i hi => by
              by_cases e9 : i < m
              · rw [getD_app _ _ _ _ (by rw [Ss8.out.lv]; exact e9)]; exact Ln.out i e9
              · rw [getD_snoc _ _ _ _ (by rw [Ss8.out.lv]; omega)]
            clear ss9 g9
            go_wp2_with fail
            go_roundg (9 - (m + 1))
            case rel => exact ⟨A9, m + 1, c9, _, _, by omega, by omega, rfl, Ss9.out, Ln9.out, Sr9.out, G9.out, hz9⟩
            case measure => omega
          · have d7 : decide ((m : Int) < 8 + (r7 : Int)) = false := decide_eq_false hlt
            go_wp2_with fail
            go_ret2
            exact ⟨_, _, _, _, us, xss, rfl, by unfold B64; omega, (RX.of_ss Ss7.out (by omega) (by omega)), by omega, Ss7.out.lens_le Ln.out (by omega), Sr7.out, G7.out⟩
end Go.Proofs.Ytonanelghnjhpaa

/- The draws of chapter 4's named laws. Condition: at most 4096 bytes. -/
namespace Go.Proofs.Ytonanelghnjhpaa
open Go.RowKit

theorem drawAnyK (g n : Nat) (N : Int) (w : World) (hs : Src w g) (hN : N = (n : Int)) (h1 : 1 ≤ n) (hn : n ≤ 20) :
    Calls Try.prog 96 #[.pointer (some ⟨g, 0, none⟩), .int .i64 N] w fun e w' => ∃ A m c xs, e = .returned (.slice A m c) ∧ Pm w' w.heap.size A m c xs ∧ m ≤ 21 ∧ Src w' g ∧ w.grownBy w' (some g) := by
  subst hN; exact drawAny g n w hs h1 hn

set_option maxHeartbeats 4000000 in
set_option maxRecDepth 100000 in
/-- drawMember. -/
theorem drawMemberT (g lo : Nat) (z : Int) (A : Option Addr) (m c : Nat) (vs : List SV) (xss : List (List Int)) (w : World) (hs : Src w g) (hB : B64 z) (rx : RX w lo A m vs xss) (hg : g < lo) (hm : m ≤ 9) (hln : ∀ i, i < m → (vs.getD i sd0).2.1 ≤ 21) :
    Calls Try.prog 115 #[.pointer (some ⟨g, 0, none⟩), .int .i64 z, .slice A m c] w fun e w' => ∃ (A' : Option Addr) (n' c' : Nat) (p : List Int), e = .returned (.slice A' n' c') ∧ Pm w' w.heap.size A' n' c' p ∧ n' ≤ 21 ∧ Src w' g ∧ w.grownBy w' (some g) := by
  have Sr0 := Lib.hid hs
  have Rx0 := Lib.hid rx
  have hgw := hs.lt
  have Ln : Hid (∀ i, i < m → (vs.getD i sd0).2.1 ≤ 1048576) := Lib.hid fun i hi => by have := hln i hi; omega
  have hlx : Hid (xss.length = m) := Lib.hid rx.rr.lx
  clear hs rx hln
  go_enter Try.func115, Try.ntmps115
  go_wp2_with fail
  refine (specGS z A m c vs xss w Rx0.out.rr (by omega) Ln hB).mono ?_
  rintro e w1 ⟨rfl, b1⟩
  have Sr1 := Lib.hid (Sr0.out.below b1 hgw)
  have Rx1 := Lib.hid (Rx0.out.up b1)
  have G1 : Hid (w.grownBy w1 (some g)) := Lib.hid (grown_below2 (grown_refl w _) b1)
  clear b1
  rcases hq : gB z xss with _ | _
  · clear hq
    obtain hz | hz | hz : z < 1 ∨ (1 ≤ z ∧ z ≤ 7) ∨ 7 < z := by omega
    · go_wp2_with fail
      refine (drawAnyK g 1 1 w1 Sr1.out rfl (by omega) (by omega)).mono ?_
      rintro e w2 ⟨A2, n2, c2, p2, rfl, pm2, hn2, s2, g2⟩
      have Pm2 : Hid (Pm w2 w.heap.size A2 n2 c2 p2) := Lib.hid (pm2.mono G1.out.size)
      have Sr2 := Lib.hid s2
      have G2 : Hid (w.grownBy w2 (some g)) := Lib.hid (grown_trans' G1.out g2)
      clear pm2 s2 g2
      go_wp2_with fail
      go_ret
      exact ⟨_, _, _, _, rfl, Pm2.out, hn2, Sr2.out, G2.out⟩
    · obtain ⟨n, rfl⟩ : ∃ n : Nat, z = (n : Int) := ⟨z.toNat, by omega⟩
      obtain ⟨hz1, hz2⟩ := hz
      go_wp2_with fail
      all_goals
        refine (drawAnyK g n _ w1 Sr1.out (by omega) (by omega) (by omega)).mono ?_
        rintro e w2 ⟨A2, n2, c2, p2, rfl, pm2, hn2, s2, g2⟩
        have Pm2 : Hid (Pm w2 w.heap.size A2 n2 c2 p2) := Lib.hid (pm2.mono G1.out.size)
        have Sr2 := Lib.hid s2
        have G2 : Hid (w.grownBy w2 (some g)) := Lib.hid (grown_trans' G1.out g2)
        clear pm2 s2 g2
        go_wp2_with fail
        go_ret
        exact ⟨_, _, _, _, rfl, Pm2.out, hn2, Sr2.out, G2.out⟩
    · go_wp2_with fail
      refine (drawAnyK g 7 7 w1 Sr1.out rfl (by omega) (by omega)).mono ?_
      rintro e w2 ⟨A2, n2, c2, p2, rfl, pm2, hn2, s2, g2⟩
      have Pm2 : Hid (Pm w2 w.heap.size A2 n2 c2 p2) := Lib.hid (pm2.mono G1.out.size)
      have Sr2 := Lib.hid s2
      have G2 : Hid (w.grownBy w2 (some g)) := Lib.hid (grown_trans' G1.out g2)
      clear pm2 s2 g2
      go_wp2_with fail
      go_ret
      exact ⟨_, _, _, _, rfl, Pm2.out, hn2, Sr2.out, G2.out⟩
  · obtain ⟨N, rfl, hN1, hN2, hg8, hpm, hok⟩ := gB_pm hq
    have Ok := Lib.hid hok
    clear hq hpm hok
    go_wp2_with fail
    refine (specIdent N w1 (by omega)).mono ?_
    rintro e w2 ⟨A2, c2, rfl, s2, b2⟩
    have Sl2 : Hid (Slc w2 w.heap.size A2 N c2 (idL N)) := Lib.hid (s2.mono G1.out.size)
    have Sr2 := Lib.hid (Sr1.out.below b2 Sr1.out.lt)
    have Rx2 := Lib.hid (Rx1.out.up b2)
    have G2 : Hid (w.grownBy w2 (some g)) := Lib.hid (grown_below2 G1.out b2)
    clear s2 b2
    go_wp2_with fail
    refine (srcBelow g _ 8 w2 Sr2.out rfl (by omega) (by omega)).mono ?_
    rintro e w3 ⟨r3, hr3, rfl, s3, g3⟩
    have Sr3 := Lib.hid s3
    have Sl3 : Hid (Slc w3 w.heap.size A2 N c2 (idL N)) := Lib.hid (Sl2.out.kept g3 (.inr fun e => by have := (Sl2.out.lt_ g e).1; omega))
    have Rx3 := Lib.hid (Rx2.out.gro g3 hg)
    have G3 : Hid (w.grownBy w3 (some g)) := Lib.hid (grown_trans' G2.out g3)
    have I0 : Hid (Pn N (idL N)) := Lib.hid (pn_id hN1 hN2)
    clear s3 g3
    go_wp2_with fail
    go_loopg [7, 8] 8 (fun gg v i wr => ∃ (k cc : Nat) (A' : Option Addr) (p : List Int), k ≤ 8 ∧ k ≤ gg ∧ i = .int .i64 (k : Nat) ∧ v = .slice A' N cc ∧ Slc wr w.heap.size A' N cc p ∧ Pn N p ∧ Src wr g ∧ RX wr lo A m vs xss ∧ w.grownBy wr (some g))
    case atStart => exact ⟨r3, _, _, _, by omega, by omega, rfl, rfl, Sl3.out, I0.out, Sr3.out, Rx3.out, G3.out⟩
    case round =>
      clear Sl3 I0 Sr3 Rx3 G3 Sl2 Sr2 Rx2 G2
      obtain ⟨k, cc, A3, p, hk, hkg, rfl, rfl, hsl, hpp, hsr, hrx, hgr⟩ := hrel
      have Sl := Lib.hid hsl
      have Pp := Lib.hid hpp
      have Sr := Lib.hid hsr
      have Rx := Lib.hid hrx
      have Gr := Lib.hid hgr
      have hwr := hgr.size
      clear hsl hpp hsr hrx hgr
      by_cases hk0 : 0 < k ∧ 0 < m
      · obtain ⟨hk1, hm1⟩ := hk0
        have d1 : decide (0 < k) = true := decide_eq_true hk1
        have d2 : decide (0 < m) = true := decide_eq_true hm1
        have d3 : decide ((0 : Int) < (k : Int)) = true := by simp; omega
        have d4 : decide ((0 : Int) < (m : Int)) = true := by simp; omega
        have wk : IntKind.i64.wrap ((k : Int) - 1) = ((k - 1 : Nat) : Int) := by rw [IntKind.wrap_i64]; omega
        have Hk1 := Lib.hid hk1
        clear hk1
        go_wp2_with fail
        refine (srcBelow g _ m wr Sr.out rfl (by omega) (by omega)).mono ?_
        rintro e w4 ⟨r4, hr4, rfl, s4, g4⟩
        have Sr4 := Lib.hid s4
        have Sl4 : Hid (Slc w4 w.heap.size A3 N cc p) := Lib.hid (Sl.out.kept g4 (.inr fun e => by have := (Sl.out.lt_ g e).1; omega))
        have Rx4 := Lib.hid (Rx.out.gro g4 hg)
        have G4 : Hid (w.grownBy w4 (some g)) := Lib.hid (grown_trans' Gr.out g4)
        clear s4 g4
        obtain ⟨b, off, A5, l, c5, y, rfl, hb, hv, ey, x1, ri, ly, hl5⟩ := Rx4.out.rr.at_ hr4
        have hyP := Ok.out y (by rw [← ey]; exact getD_memL (by rw [hlx.out]; exact hr4))
        obtain rfl : l = N := by omega
        have Yp : Hid (Pn l y) := Lib.hid hyP
        have Ri := Lib.hid ri
        have q0 : (0 : Int) ≤ r4 := by omega
        have q1 : (r4 : Int) < m := by omega
        clear hb hv ey ri ly hl5 hyP
        go_wp2_with fail
        refine (specComp A3 A5 cc c5 l p y w4 Sl4.out.ri_ Ri.out (Lib.hid Pp.out.2) (Lib.hid Yp.out.2) (Lib.hid Pp.out.1) hN2).mono ?_
        rintro e w5 ⟨A6, c6, rfl, s5, b5⟩
        have Sl5 : Hid (Slc w5 w.heap.size A6 l c6 (compL p y)) := Lib.hid (s5.mono G4.out.size)
        have Sr5 := Lib.hid (Sr4.out.below b5 Sr4.out.lt)
        have Rx5 := Lib.hid (Rx4.out.up b5)
        have G5 : Hid (w.grownBy w5 (some g)) := Lib.hid (grown_below2 G4.out b5)
        have P5 : Hid (Pn l (compL p y)) := Lib.hid (Pp.out.comp Yp.out)
        clear s5 b5
        go_wp2_with fail
        go_roundg (k - 1)
        case rel => exact ⟨k - 1, _, _, _, by omega, by omega, by go_num, rfl, Sl5.out, P5.out, Sr5.out, Rx5.out, G5.out⟩
        case measure => have := Hk1.out; omega
      · have Done : Hid (¬ (0 < k ∧ 0 < m)) := Lib.hid hk0
        have d1 : (decide (0 < k) && decide (0 < m)) = false := by
          rw [Bool.and_eq_false_iff, decide_eq_false_iff_not, decide_eq_false_iff_not]; omega
        by_cases hk1 : 0 < k
        · have d2 : decide (0 < k) = true := decide_eq_true hk1
          have d3 : decide ((0 : Int) < (k : Int)) = true := by simp; omega
          have d4 : decide (0 < m) = false := decide_eq_false (by omega)
          have d5 : decide ((0 : Int) < (m : Int)) = false := by simp; omega
          clear hk0 hk1 d1
          go_wp2_with fail
          refine (srcOne g _ 3 wr Sr.out rfl (by omega) (by omega)).mono ?_
          rintro e w4 ⟨bb, rfl, s4, g4⟩
          have Sr4 := Lib.hid s4
          have Sl4 : Hid (Slc w4 w.heap.size A3 N cc p) := Lib.hid (Sl.out.kept g4 (.inr fun e => by have := (Sl.out.lt_ g e).1; omega))
          have G4 : Hid (w.grownBy w4 (some g)) := Lib.hid (grown_trans' Gr.out g4)
          clear s4 g4
          cases bb
          · go_wp2_with fail
            go_ret
            exact ⟨_, _, _, _, rfl, Pm.of_slc Sl4.out, by omega, Sr4.out, G4.out⟩
          · go_wp2_with fail
            refine (drawAnyK g N _ w4 Sr4.out rfl hN1 hN2).mono ?_
            rintro e w5 ⟨A5, n5, c5, p5, rfl, pm5, hn5, s5, g5⟩
            have Pm5 : Hid (Pm w5 w.heap.size A5 n5 c5 p5) := Lib.hid (pm5.mono G4.out.size)
            have Sr5 := Lib.hid s5
            have G5 : Hid (w.grownBy w5 (some g)) := Lib.hid (grown_trans' G4.out g5)
            clear pm5 s5 g5
            go_wp2_with fail
            go_ret
            exact ⟨_, _, _, _, rfl, Pm5.out, hn5, Sr5.out, G5.out⟩
        · have d2 : decide (0 < k) = false := decide_eq_false hk1
          have d3 : decide ((0 : Int) < (k : Int)) = false := by simp; omega
          clear hk0 hk1 d1
          go_wp2_with fail
          refine (srcOne g _ 3 wr Sr.out rfl (by omega) (by omega)).mono ?_
          rintro e w4 ⟨bb, rfl, s4, g4⟩
          have Sr4 := Lib.hid s4
          have Sl4 : Hid (Slc w4 w.heap.size A3 N cc p) := Lib.hid (Sl.out.kept g4 (.inr fun e => by have := (Sl.out.lt_ g e).1; omega))
          have G4 : Hid (w.grownBy w4 (some g)) := Lib.hid (grown_trans' Gr.out g4)
          clear s4 g4
          cases bb
          · go_wp2_with fail
            go_ret
            exact ⟨_, _, _, _, rfl, Pm.of_slc Sl4.out, by omega, Sr4.out, G4.out⟩
          · go_wp2_with fail
            refine (drawAnyK g N _ w4 Sr4.out rfl hN1 hN2).mono ?_
            rintro e w5 ⟨A5, n5, c5, p5, rfl, pm5, hn5, s5, g5⟩
            have Pm5 : Hid (Pm w5 w.heap.size A5 n5 c5 p5) := Lib.hid (pm5.mono G4.out.size)
            have Sr5 := Lib.hid s5
            have G5 : Hid (w.grownBy w5 (some g)) := Lib.hid (grown_trans' G4.out g5)
            clear pm5 s5 g5
            go_wp2_with fail
            go_ret
            exact ⟨_, _, _, _, rfl, Pm5.out, hn5, Sr5.out, G5.out⟩
set_option maxHeartbeats 1000000 in
/-- drawGroupAndMember. -/
theorem drawGM (g : Nat) (w : World) (hs : Src w g) :
    Calls Try.prog 84 #[.pointer (some ⟨g, 0, none⟩)] w fun e w' => ∃ (z : Int) (A : Option Addr) (m c : Nat) (vs : List SV) (xss : List (List Int)) (P : Option Addr) (np cp : Nat) (p : List Int), e = .returned (.tuple #[.int .i64 z, .slice A m c, .slice P np cp]) ∧ B64 z ∧ RX w' w.heap.size A m vs xss ∧ m ≤ 9 ∧ (∀ i, i < m → (vs.getD i sd0).2.1 ≤ 21) ∧ Pm w' w.heap.size P np cp p ∧ np ≤ 21 ∧ Src w' g ∧ w.grownBy w' (some g) := by
  have Hs := Lib.hid hs
  have hgw := hs.lt
  go_enter Try.func84, Try.ntmps84
  go_wp2_with fail
  refine (drawGroupX g w hs).mono ?_
  rintro e w1 ⟨z, A1, m, c, vs, xss, rfl, hB, rx, hm, hln, s1, g1⟩
  have HB := Lib.hid hB
  have Rx1 := Lib.hid rx
  have Ln := Lib.hid hln
  have Sr1 := Lib.hid s1
  have G1 := Lib.hid g1
  clear hB rx hln s1 g1 hs
  go_wp2_with fail
  refine (drawMemberT g w.heap.size z A1 m c vs xss w1 Sr1.out HB.out Rx1.out hgw hm Ln.out).mono ?_
  rintro e w2 ⟨P, np, cp, p, rfl, pm2, hnp, s2, g2⟩
  have Pm2 : Hid (Pm w2 w.heap.size P np cp p) := Lib.hid (pm2.mono G1.out.size)
  have Sr2 := Lib.hid s2
  have Rx2 := Lib.hid (Rx1.out.gro g2 hgw)
  have G2 : Hid (w.grownBy w2 (some g)) := Lib.hid (grown_trans' G1.out g2)
  clear pm2 s2 g2
  go_wp2_with fail
  go_ret3
  exact ⟨_, _, _, _, vs, xss, _, _, _, p, rfl, HB.out, Rx2.out, hm, Ln.out, Pm2.out, hnp, Sr2.out, G2.out⟩
end Go.Proofs.Ytonanelghnjhpaa

/- The walk of the law FnMembership: it returns true at every input, and writes nothing that was there. No condition but the program's own contracts. -/
namespace Go.Proofs.Ytonanelghnjhpaa
open Go.RowKit

set_option maxHeartbeats 400000 in
theorem bigF4 (A : Option Addr) (len cap : Nat) (w : World) (hl : len ≤ 4096) : Calls Try.prog 15 #[.slice A len cap] w fun e w' => e = .returned (.bool false) ∧ w = w' := by
  have d : decide ((4096 : Int) < (len : Int)) = false := by simp; omega
  go_enter Try.func15, Try.ntmps15
  go_wp2
  go_ret
  exact ⟨rfl, rfl⟩
set_option maxHeartbeats 400000 in
theorem bigT4 (A : Option Addr) (len cap : Nat) (w : World) (hl : 4096 < len) : Calls Try.prog 15 #[.slice A len cap] w fun e w' => e = .returned (.bool true) ∧ w = w' := by
  have d : decide ((4096 : Int) < (len : Int)) = true := by simp; omega
  go_enter Try.func15, Try.ntmps15
  go_wp2
  go_ret
  exact ⟨rfl, rfl⟩
theorem below_gro4 {w0 w w' : World} {g : Nat} (h : Below w0.heap.size w0 w) (hg : w.grownBy w' (some g)) (hB : w0.heap.size ≤ g) : Below w0.heap.size w0 w' := h.grown hg h.size (fun k e => by injection e with e; omega)
theorem likeI_eq (A B : Option Addr) (c d n m : Nat) (xs : List Int) (w : World) (hx : RI w w.heap.size A xs) (hy : RI w w.heap.size B xs) (lx : Hid (xs.length = n)) (ly : Hid (xs.length = m)) (hn : n ≤ 2097152) :
    Calls Try.prog 21 #[.slice A n c, .slice B m d] w fun e w' => e = .returned (.bool true) ∧ Below w.heap.size w w' :=
  (quiet_below (likeI_any A B c d n m _ _ w hx hy lx ly hn (by rw [← ly.out, lx.out]; exact hn))).mono fun e w' ⟨he, hb⟩ => ⟨he.trans (ret_bool (by simp)), hb⟩


/-! ### what the answers tell of each other -/
section
variable {N k np : Nat} {gs : List (List Int)} {p m : List Int}
theorem take_at {t : Nat} (h : t < (p.take k).length) : (p.take k).getD t 0 = p.getD t 0 := by
  rw [List.length_take] at h
  rw [List.getD_eq_getElem?_getD, List.getElem?_take, if_pos (by omega), ← List.getD_eq_getElem?_getD]
theorem lmp_all (hp : Pn N p) (h1 : 1 ≤ N) (h2 : N ≤ 20) (hg : ∀ g ∈ gs, Pn N g) (h : LmpOK N gs p k) : Mb gs N p ↔ k = N := by
  obtain ⟨a, ⟨q, hq, hq2⟩, b⟩ := h
  constructor
  · intro hm
    rcases Nat.lt_or_ge k N with hl | hl
    · exact absurd ⟨p, hm, fun _ _ => rfl⟩ (b hl)
    · omega
  · rintro rfl
    have : q = p := (hq.pn hg h1 h2).ext hp fun x hx => hq2 x hx
    exact this ▸ hq
theorem lmp_pre (hp : Pn N p) (h : LmpOK N gs p k) : ¬ NoMem N gs (p.take k) := by
  obtain ⟨a, ⟨q, hq, hq2⟩, _⟩ := h
  refine fun hn => hn q hq fun t ht => ?_
  rw [take_at ht]
  rw [List.length_take] at ht
  rw [hq2 t (by omega), nx_val hp.1 (by rw [hp.2]; omega)]
theorem lmp_none (hp : Pn N p) (h : LmpOK N gs p k) (hk : k < N) : ∀ q, Mb gs N q → ¬ ∀ t, t < (p.take (k + 1)).length → (nx q t : Int) = (p.take (k + 1)).getD t 0 := fun q hq hq2 => by
  refine h.2.2 hk ⟨q, hq, fun t ht => ?_⟩
  have h3 := hq2 t (by rw [List.length_take, hp.2]; omega)
  rw [take_at (by rw [List.length_take, hp.2]; omega), nx_val hp.1 (by rw [hp.2]; omega)] at h3
  omega
theorem greedy_all (hp : Pn N p) (h1 : 1 ≤ N) (h2 : N ≤ 20) (hg : ∀ g ∈ gs, Pn N g) (h : Greedy N gs p m) : m = p :=
  (h.1.pn hg h1 h2).ext hp fun x hx => by
    have := (h.2 x hx).1 (by rw [hp.2]; exact hx)
    rw [nx_val hp.1 (by rw [hp.2]; exact hx)] at this
    omega
end

end Go.Proofs.Ytonanelghnjhpaa

/- The draws of chapter 5's named laws. Condition: at most 4096 bytes. -/
namespace Go.Proofs.Ytonanelghnjhpaa
open Go.RowKit

set_option maxHeartbeats 1600000 in
/-- below, of whatever number. -/
theorem srcBelowN (g : Nat) (N : Int) (n : Nat) (w : World) (hs : Src w g) (hN : N = (n : Int)) (h1 : 1 ≤ n) (h2 : n ≤ 4611686018427387904) :
    Calls Try.prog 78 #[.pointer (some ⟨g, 0, none⟩), .int .i64 N] w fun e w' => ∃ r : Nat, r < n ∧ e = .returned (.int .i64 r) ∧ Src w' g ∧ w.grownBy w' (some g) := by
  by_cases hn : n ≤ 256
  · exact srcBelow g N n w hs hN h1 hn
  · subst hN
    have d1 : decide ((n : Int) ≤ 0) = false := by simp; omega
    have d2 : decide ((n : Int) ≤ 256) = false := by simp; omega
    have n0 : ¬ ((n : Int) = 0) := by omega
    go_enter Try.func78, Try.ntmps78
    go_wp2_with fail
    refine (srcByte g w hs).mono ?_
    rintro e w1 ⟨x, hx, rfl, s1, g1⟩
    have S1 := Lib.hid s1
    have G1 := Lib.hid g1
    clear s1 g1
    go_wp2_with fail
    refine (srcByte g w1 S1.out).mono ?_
    rintro e w2 ⟨y, hy, rfl, s2, g2⟩
    have S2 := Lib.hid s2
    have G2 : Hid (w.grownBy w2 (some g)) := Lib.hid (grown_trans' G1.out g2)
    clear s2 g2
    go_wp2_with fail
    refine (srcByte g w2 S2.out).mono ?_
    rintro e w3 ⟨z, hz, rfl, s3, g3⟩
    have S3 := Lib.hid s3
    have G3 : Hid (w.grownBy w3 (some g)) := Lib.hid (grown_trans' G2.out g3)
    clear s3 g3
    go_wp2_with fail
    refine (srcByte g w3 S3.out).mono ?_
    rintro e w4 ⟨t, ht, rfl, s4, g4⟩
    have S4 := Lib.hid s4
    have G4 : Hid (w.grownBy w4 (some g)) := Lib.hid (grown_trans' G3.out g4)
    have ex : ((x * 16777216 + y * 65536 + z * 256 + t : Nat) : Int) = (x : Int) * 16777216 + (y : Int) * 65536 + (z : Int) * 256 + (t : Int) := by omega
    have Ex := Lib.hid ex
    clear s4 g4 ex
    go_wp2_with fail
    go_ret
    exact ⟨(x * 16777216 + y * 65536 + z * 256 + t) % n, Nat.mod_lt _ (by omega), ret_int (by rw [Int.natCast_emod, Ex.out]), S4.out, G4.out⟩

set_option maxHeartbeats 1600000 in
theorem srcNumberN (g n : Nat) (w : World) (hs : Src w g) (h1 : 1 ≤ n) (hn : n ≤ 4611686018427387903) :
    Calls Try.prog 67 #[.pointer (some ⟨g, 0, none⟩), .int .i64 (n : Int)] w fun e w' => ∃ z : Int, e = .returned (.int .i64 z) ∧ B64 z ∧ Src w' g ∧ w.grownBy w' (some g) := by
  go_enter Try.func67, Try.ntmps67
  go_wp2_with fail
  refine (srcOne g _ 10 w hs rfl (by omega) (by omega)).mono ?_
  rintro e w1 ⟨b, rfl, s1, g1⟩
  have S1 := Lib.hid s1
  have G1 := Lib.hid g1
  clear s1 g1
  cases b
  · go_wp2_with fail
    refine (srcOne g _ 2 w1 S1.out rfl (by omega) (by omega)).mono ?_
    rintro e w2 ⟨b, rfl, s2, g2⟩
    have S2 := Lib.hid s2
    have G2 : Hid (w.grownBy w2 (some g)) := Lib.hid (grown_trans' G1.out g2)
    clear s2 g2
    cases b
    · go_wp2_with fail
      refine (srcBelowN g _ (n + 1) w2 S2.out (by omega) (by omega) (by omega)).mono ?_
      rintro e w3 ⟨r, hr, rfl, s3, g3⟩
      have S3 := Lib.hid s3
      have G3 : Hid (w.grownBy w3 (some g)) := Lib.hid (grown_trans' G2.out g3)
      clear s3 g3
      go_wp2_with fail
      go_ret
      exact ⟨r, rfl, by unfold B64; omega, S3.out, G3.out⟩
    · by_cases h4 : n ≤ 4
      · have hm : (min (n : Int) 4) = (n : Int) := by omega
        have d4 : decide ((n : Int) ≤ 4) = true := by simp; omega
        go_wp2_with fail
        refine (srcBelowN g _ (n + 1) w2 S2.out (by omega) (by omega) (by omega)).mono ?_
        rintro e w3 ⟨r, hr, rfl, s3, g3⟩
        have S3 := Lib.hid s3
        have G3 : Hid (w.grownBy w3 (some g)) := Lib.hid (grown_trans' G2.out g3)
        clear s3 g3
        go_wp2_with fail
        go_ret
        exact ⟨r, rfl, by unfold B64; omega, S3.out, G3.out⟩
      · have hm : (min (n : Int) 4) = 4 := by omega
        have d4 : decide ((n : Int) ≤ 4) = false := by simp; omega
        go_wp2_with fail
        refine (srcBelow g _ (5) w2 S2.out (by omega) (by omega) (by omega)).mono ?_
        rintro e w3 ⟨r, hr, rfl, s3, g3⟩
        have S3 := Lib.hid s3
        have G3 : Hid (w.grownBy w3 (some g)) := Lib.hid (grown_trans' G2.out g3)
        clear s3 g3
        go_wp2_with fail
        go_ret
        exact ⟨r, rfl, by unfold B64; omega, S3.out, G3.out⟩
  · go_wp2_with fail
    refine (srcExtremeB g w1 S1.out).mono ?_
    rintro e w2 ⟨z, rfl, hzB, s2, g2⟩
    have S2 := Lib.hid s2
    have hg2 := s2.lt
    have G2 : Hid (w.grownBy w2 (some g)) := Lib.hid (grown_trans' G1.out g2)
    clear s2 g2
    go_wp2_with fail
    refine (srcBelow g _ 4 _ (S2.out.below ((Below.refl w2.heap.size w2).alloc (Nat.le_refl _) _) hg2) rfl (by omega) (by omega)).mono ?_
    rintro e w3 ⟨r, hr, rfl, s3, g3⟩
    have S3 := Lib.hid s3
    have G3 : Hid (w.grownBy w3 (some g)) := Lib.hid (grown_trans' (grown_alloc2 G2.out _) g3)
    obtain ⟨y, hy, hyB⟩ := lit_atB (r := r) hg2 g3 hr (by
      intro i h
      have h : i < 4 := h
      rcases i with _ | _ | _ | _ | i
      all_goals first | exact ⟨_, rfl, by unfold B64; omega⟩ | exact ⟨_, rfl, hzB⟩ | omega)
    have p0 : (0 : Int) ≤ r := by omega
    have p1 : (r : Int) < 4 := by omega
    clear s3 g3
    go_wp2_with fail
    go_ret
    exact ⟨y, rfl, hyB, S3.out, G3.out⟩



theorem srcNumberK (g : Nat) (N : Int) (w : World) (hs : Src w g) (h1 : 1 ≤ N) (hn : N ≤ 4611686018427387903) :
    Calls Try.prog 67 #[.pointer (some ⟨g, 0, none⟩), .int .i64 N] w fun e w' => ∃ z : Int, e = .returned (.int .i64 z) ∧ B64 z ∧ Src w' g ∧ w.grownBy w' (some g) := by
  obtain ⟨n, rfl⟩ : ∃ n : Nat, N = (n : Int) := ⟨N.toNat, by omega⟩
  exact srcNumberN g n w hs (by omega) (by omega)
set_option maxHeartbeats 1000000 in
theorem drawMbs (len cap : Nat) (A : Option Addr) (w : World) (hb : SB w w.heap.size A len) (hl : len ≤ 4096) :
    Calls Try.prog 16 #[.slice A len cap] w fun e w' => ∃ (z : Int) (A : Option Addr) (m c : Nat) (vs : List SV) (xss : List (List Int)), e = .returned (.tuple #[.int .i64 z, .slice A m c]) ∧ I64 z ∧ GIn w' A m vs xss ∧ Below w.heap.size w w' := by
  go_enter Try.func16, Try.ntmps16
  go_wp2_with fail
  refine (newSrc len cap A w hb hl).mono ?_
  rintro e w1 ⟨rfl, s1, b1⟩
  have S1 := Lib.hid s1
  have B1 := Lib.hid b1
  clear s1 b1
  go_wp2_with fail
  refine (drawGroupX w.heap.size w1 S1.out).mono ?_
  rintro e w2 ⟨z, A2, m, c, vs, xss, rfl, hB, rx, hm, hln, s2, g2⟩
  have HB := Lib.hid hB
  have Gi : Hid (GIn w2 A2 m vs xss) := Lib.hid ⟨rx.rr, by omega, fun i hi => by have := hln i hi; omega⟩
  have B2 : Hid (Below w.heap.size w w2) := Lib.hid (below_gro4 B1.out g2 (Nat.le_refl _))
  clear hB rx hln s2 g2
  go_wp2_with fail
  go_ret2
  exact ⟨_, _, _, _, vs, xss, rfl, HB.out, Gi.out, B2.out⟩

set_option maxHeartbeats 2000000 in
theorem drawMat (len cap : Nat) (A : Option Addr) (w : World) (hb : SB w w.heap.size A len) (hl : len ≤ 4096) :
    Calls Try.prog 26 #[.slice A len cap] w fun e w' => ∃ (z : Int) (A : Option Addr) (m c : Nat) (vs : List SV) (xss : List (List Int)) (k : Int), e = .returned (.tuple #[.int .i64 z, .slice A m c, .int .i64 k]) ∧ I64 z ∧ I64 k ∧ GIn w' A m vs xss ∧ Below w.heap.size w w' := by
  go_enter Try.func26, Try.ntmps26
  go_wp2_with fail
  refine (newSrc len cap A w hb hl).mono ?_
  rintro e w1 ⟨rfl, s1, b1⟩
  have S1 := Lib.hid s1
  have B1 := Lib.hid b1
  have hg0 : w.heap.size < w1.heap.size := s1.lt
  clear s1 b1
  go_wp2_with fail
  refine (drawGroupX w.heap.size w1 S1.out).mono ?_
  rintro e w2 ⟨z, A2, m, c, vs, xss, rfl, hB, rx, hm, hln, s2, g2⟩
  have HB := Lib.hid hB
  have Rx2 := Lib.hid rx
  have Ln := Lib.hid hln
  have Gi : Hid (GIn w2 A2 m vs xss) := Lib.hid ⟨rx.rr, by omega, fun i hi => by have := hln i hi; omega⟩
  have S2 := Lib.hid s2
  have B2 : Hid (Below w.heap.size w w2) := Lib.hid (below_gro4 B1.out g2 (Nat.le_refl _))
  have Hz : Hid (w1.heap.size ≤ w2.heap.size) := Lib.hid g2.size
  clear hB rx hln s2 g2
  go_wp2_with fail
  refine (ctOrd z A2 m c vs xss w2 Gi.out HB.out).mono ?_
  rintro e w3 ⟨v, rfl, rv, b3⟩
  have hvb : 0 ≤ v ∧ v ≤ 2432902008176640000 := by
    rcases rv with ⟨e, xs, hx, rfl⟩ | ⟨_, rfl⟩
    · obtain ⟨N, rfl, h1, h2, _, _, hok⟩ := gB_pm e
      rw [Int.toNat_natCast] at hx
      have hp := hx.pr_le hok h1 h2 0 N (by omega)
      have hf := facts_le h2 (0 + N) (by omega)
      rw [prodL_pr, hx.1]
      omega
    · omega
  have S3 := Lib.hid (S2.out.below b3 S2.out.lt)
  have Rx3 := Lib.hid (Rx2.out.up b3)
  have B3 : Hid (Below w.heap.size w w3) := Lib.hid (btr B2.out b3)
  clear rv b3
  go_wp2_with fail
  all_goals
    refine (srcNumberK w.heap.size _ w3 S3.out (by omega) (by omega)).mono ?_
    rintro e w4 ⟨k, rfl, hkB, s4, g4⟩
    have HK : Hid (I64 k) := Lib.hid hkB
    have Gi4 : Hid (GIn w4 A2 m vs xss) := Lib.hid ⟨(Rx3.out.gro g4 hg0).rr, by omega, fun i hi => by have := Ln.out i hi; omega⟩
    have B4 : Hid (Below w.heap.size w w4) := Lib.hid (below_gro4 B3.out g4 (Nat.le_refl _))
    clear hkB s4 g4
    go_wp2_with fail
    go_ret3
    exact ⟨_, _, _, _, vs, xss, _, rfl, HB.out, HK.out, Gi4.out, B4.out⟩

set_option maxHeartbeats 2000000 in
theorem drawRnd (len cap : Nat) (A : Option Addr) (w : World) (hb : SB w w.heap.size A len) (hl : len ≤ 4096) :
    Calls Try.prog 33 #[.slice A len cap] w fun e w' => ∃ (z : Int) (A : Option Addr) (m c : Nat) (vs : List SV) (xss : List (List Int)) (k : Int), e = .returned (.tuple #[.int .i64 z, .slice A m c, .int .i64 k]) ∧ I64 z ∧ I64 k ∧ GIn w' A m vs xss ∧ Below w.heap.size w w' := by
  go_enter Try.func33, Try.ntmps33
  go_wp2_with fail
  refine (newSrc len cap A w hb hl).mono ?_
  rintro e w1 ⟨rfl, s1, b1⟩
  have S1 := Lib.hid s1
  have B1 := Lib.hid b1
  have hg0 : w.heap.size < w1.heap.size := s1.lt
  clear s1 b1
  go_wp2_with fail
  refine (drawGroupX w.heap.size w1 S1.out).mono ?_
  rintro e w2 ⟨z, A2, m, c, vs, xss, rfl, hB, rx, hm, hln, s2, g2⟩
  have HB := Lib.hid hB
  have Rx2 := Lib.hid rx
  have Ln := Lib.hid hln
  have S2 := Lib.hid s2
  have B2 : Hid (Below w.heap.size w w2) := Lib.hid (below_gro4 B1.out g2 (Nat.le_refl _))
  clear hB rx hln s2 g2
  go_wp2_with fail
  refine (srcOne w.heap.size _ 4 w2 S2.out rfl (by omega) (by omega)).mono ?_
  rintro e w3 ⟨b, rfl, s3, g3⟩
  have S3 := Lib.hid s3
  have Rx3 := Lib.hid (Rx2.out.gro g3 hg0)
  have B3 : Hid (Below w.heap.size w w3) := Lib.hid (below_gro4 B2.out g3 (Nat.le_refl _))
  clear s3 g3
  cases b
  · go_wp2_with fail
    refine (srcBelowN w.heap.size _ 1000 w3 S3.out rfl (by omega) (by omega)).mono ?_
    rintro e w4 ⟨r, hr, rfl, s4, g4⟩
    have HK : Hid (I64 (r : Int)) := Lib.hid (by unfold I64; omega)
    have Gi4 : Hid (GIn w4 A2 m vs xss) := Lib.hid ⟨(Rx3.out.gro g4 hg0).rr, by omega, fun i hi => by have := Ln.out i hi; omega⟩
    have B4 : Hid (Below w.heap.size w w4) := Lib.hid (below_gro4 B3.out g4 (Nat.le_refl _))
    clear s4 g4
    go_wp2_with fail
    go_ret3
    exact ⟨_, _, _, _, vs, xss, _, rfl, HB.out, HK.out, Gi4.out, B4.out⟩
  · go_wp2_with fail
    refine (srcExtremeB w.heap.size w3 S3.out).mono ?_
    rintro e w4 ⟨k, rfl, hkB, s4, g4⟩
    have HK : Hid (I64 k) := Lib.hid hkB
    have Gi4 : Hid (GIn w4 A2 m vs xss) := Lib.hid ⟨(Rx3.out.gro g4 hg0).rr, by omega, fun i hi => by have := Ln.out i hi; omega⟩
    have B4 : Hid (Below w.heap.size w w4) := Lib.hid (below_gro4 B3.out g4 (Nat.le_refl _))
    clear hkB s4 g4
    go_wp2_with fail
    go_ret3
    exact ⟨_, _, _, _, vs, xss, _, rfl, HB.out, HK.out, Gi4.out, B4.out⟩

set_option maxHeartbeats 2000000 in
theorem drawCty (len cap : Nat) (A : Option Addr) (w : World) (hb : SB w w.heap.size A len) (hl : len ≤ 4096) :
    Calls Try.prog 37 #[.slice A len cap] w fun e w' => ∃ (z : Int) (A : Option Addr) (m c : Nat) (vs : List SV) (xss : List (List Int)) (P : Option Addr) (np cp : Nat) (p : List Int), e = .returned (.tuple #[.int .i64 z, .slice A m c, .slice P np cp]) ∧ I64 z ∧ GIn w' A m vs xss ∧ SIn w' P np cp p ∧ Below w.heap.size w w' := by
  go_enter Try.func37, Try.ntmps37
  go_wp2_with fail
  refine (newSrc len cap A w hb hl).mono ?_
  rintro e w1 ⟨rfl, s1, b1⟩
  have S1 := Lib.hid s1
  have B1 := Lib.hid b1
  clear s1 b1
  go_wp2_with fail
  refine (drawGM w.heap.size w1 S1.out).mono ?_
  rintro e w2 ⟨z, A2, m, c, vs, xss, P, np, cp, p, rfl, hB, rx, hm, hln, pm, hnp, s2, g2⟩
  have HB := Lib.hid hB
  have Gi : Hid (GIn w2 A2 m vs xss) := Lib.hid ⟨rx.rr, by omega, fun i hi => by have := hln i hi; omega⟩
  have Ri : Hid (RI w2 w2.heap.size P p) := Lib.hid pm.ri
  have lp : Hid (p.length = np) := Lib.hid pm.1
  have hcp : np ≤ cp := pm.2.1
  have B2 : Hid (Below w.heap.size w w2) := Lib.hid (below_gro4 B1.out g2 (Nat.le_refl _))
  clear hB rx hln s2 g2 pm
  go_wp2_with fail
  refine (specCycleType P cp np p w2 Ri.out lp (by omega) hcp).mono ?_
  rintro e w3 ⟨A3, m3, c3, rfl, s3, hm3, b3⟩
  have Gi3 := Lib.hid (Gi.out.up b3)
  have Si3 : Hid (SIn w3 A3 m3 c3 (ctypeL p)) := Lib.hid ⟨s3.ri_, s3.1, by omega, s3.le.1⟩
  have B3 : Hid (Below w.heap.size w w3) := Lib.hid (btr B2.out b3)
  clear s3 b3
  go_wp2_with fail
  go_ret3
  exact ⟨_, _, _, _, vs, xss, _, _, _, _, rfl, HB.out, Gi3.out, Si3.out, B3.out⟩
end Go.Proofs.Ytonanelghnjhpaa

/- Plain facts for chapter 5's named laws: the only member of type 1, .., 1; ranks of members; seeds. No Go in it. No condition. -/
namespace Go.Proofs.Ytonanelghnjhpaa
open Go.RowKit

section
variable {N : Nat} {q : List Int}
theorem lens_ones (hq : Pn N q) (h : ∀ l ∈ lens q, l = 1) : q = idL N := by
  refine hq.ext (pn_id hq.pos.1 hq.pos.2) fun x hx => ?_
  rw [nx_id hx]
  obtain ⟨c, j, hc, hst, hj, e⟩ := min_ex hq.1 (x := x) (by rw [hq.2]; exact hx)
  have hcm : c ∈ heads q q.length := List.mem_filter.2 ⟨List.mem_range.2 hc, hst⟩
  have h1 : per q c = 1 := h _ (by rw [lens_heads]; exact List.mem_map.2 ⟨c, hcm, rfl⟩)
  obtain rfl : j = 0 := by omega
  obtain rfl : c = x := e
  exact (it_eq_iff hq.1 hc 1).2 (by rw [h1])
theorem ctype_ones (hq : Pn N q) : ctypeL q = List.replicate N (1 : Int) ↔ q = idL N := by
  have e1 : ctypeL q = ctype q := if_pos (isP_iff.2 hq.1)
  rw [e1]
  constructor
  · intro h
    refine lens_ones hq fun l hl => ?_
    have hb := lens_mem hq.1 l hl
    have hm : (l : Int) ∈ ctype q := List.count_pos_iff.1 (by
      unfold ctype
      rw [desc_count, if_pos (by omega), Int.toNat_natCast]
      exact List.count_pos_iff.2 hl)
    rw [h, List.mem_replicate] at hm
    omega
  · rintro rfl
    have hp1 : ∀ x, x < N → per (idL N) x = 1 := fun x hx => by
      have hs := per_spec hq.1 (x := x) (by rw [hq.2]; exact hx)
      have h1 : it (idL N) 1 x = x := nx_id hx
      have h2 := (it_eq_iff hq.1 (by rw [hq.2]; exact hx) 1).1 h1
      rcases Nat.lt_or_ge 1 (per (idL N) x) with h3 | h3
      · rw [Nat.mod_eq_of_lt h3] at h2; omega
      · have := hs.1; omega
    have hh : heads (idL N) (idL N).length = List.range N := by
      rw [idL_length]
      refine List.filter_eq_self.2 fun x hx => ?_
      refine st_true fun j hj => ?_
      rw [hp1 x (List.mem_range.1 hx)] at hj
      obtain rfl : j = 0 := by omega
      exact Nat.le_refl _
    have hl : lens (idL N) = (List.range N).map (per (idL N)) := by rw [lens_heads, hh]
    rw [List.eq_replicate_iff]
    refine ⟨by rw [ctype_len hq.1, ← lens_len, hl]; simp, fun b hb => ?_⟩
    have hc := List.count_pos_iff.2 hb
    unfold ctype at hc
    rw [desc_count] at hc
    split at hc
    · rename_i hr
      have hm := List.count_pos_iff.1 hc
      rw [hl, List.mem_map] at hm
      obtain ⟨x, hx, e⟩ := hm
      rw [hp1 x (List.mem_range.1 hx)] at e
      omega
    · omega
end

/-- A seed and what it leaves begin alike. -/
theorem seed0_mod (s : Int) : seed0 (s.tmod 999999937) = seed0 s := by
  unfold seed0; rw [Int.tmod_tmod_of_dvd]
  exact Int.dvd_refl _
theorem stt_mod (s : Int) : ∀ i, stt (s.tmod 999999937) i = stt s i
  | 0 => seed0_mod s
  | i + 1 => by show (stt (s.tmod 999999937) i * 48271 + 11).tmod 999999937 = (stt s i * 48271 + 11).tmod 999999937; rw [stt_mod s i]
theorem IsRnd.mod {a s : Int} {gs : List (List Int)} {m : List Int} {ok : Bool} (h : IsRnd a gs s m ok) : IsRnd a gs (s.tmod 999999937) m ok := by
  rcases h with ⟨e, h1, h2, h3⟩ | h
  · exact .inl ⟨e, h1, h2, fun i hi zs hz => by rw [stt_mod]; exact h3 i hi zs hz⟩
  · exact .inr h

section
variable {a k : Int} {gs l : List (List Int)} {p m : List Int} {ok : Bool}
theorem memb_of (e : gB a gs = true) (hm : Mb gs a.toNat m) : Memb a gs m := by
  obtain ⟨N, rfl, h1, h2, _, _, hok⟩ := gB_pm e
  rw [Int.toNat_natCast] at hm
  have hp := hm.pn hok h1 h2
  exact ⟨e, by rw [hp.2], isP_iff.2 hp.1, by rw [Int.toNat_natCast]; exact hm⟩
theorem IsMat.memb (h : IsMat a gs k m true) : Memb a gs m := by
  rcases h with ⟨e, _, hm, _⟩ | ⟨e, _⟩
  · exact memb_of e hm
  · cases e
theorem Memb.vld (h : Memb a gs m) : Vld a gs m := ⟨h.1, h.2.1, h.2.2.1⟩
theorem IsMat.rk (h : IsMat a gs k m true) : ∃ c : Nat, Rk a.toNat gs m c ∧ k = (c : Int) := by
  rcases h with ⟨_, _, _, c, h1, h2⟩ | ⟨e, _⟩
  · exact ⟨c, h1, h2⟩
  · cases e
/-- The rank of the member of rank k is k. -/
theorem IsMat.rnk {v : Int} (h : IsMat a gs k m true) (hv : IsRnk a gs m v) : v = k := by
  obtain ⟨c, hc, rfl⟩ := h.rk
  exact hv.uniq (.inl ⟨h.memb, c, hc, rfl⟩)
theorem IsMat.cmb {v : Int} (h : IsMat a gs k m true) (hv : IsCmb a gs m v) : v = k := by
  obtain ⟨c, hc, rfl⟩ := h.rk
  exact hv.uniq (.inl ⟨h.memb.vld, c, hc, rfl⟩)
/-- What follows the member of rank k is that of rank k + 1. -/
theorem IsMat.nxt {m' m2 : List Int} {ok' ok2 : Bool} (h : IsMat a gs k m true) (hn : IsNxt a gs m m' ok') (h2 : IsMat a gs (k + 1) m2 ok2) : m' = m2 ∧ ok' = ok2 := by
  obtain ⟨c, hc, rfl⟩ := h.rk
  rcases hn with ⟨_, c', b, hc', hb, hm⟩ | ⟨hn, _⟩
  · obtain rfl : c' = c := Crd.uniq hc' hc
    rw [if_pos (hb.2 h.memb)] at hm
    exact hm.uniq h2
  · exact absurd h.memb.vld hn
/-- Each number below the order is the rank of a member. -/
theorem rk_some {N V k : Nat} {gs : List (List Int)} (hg : ∀ g ∈ gs, Pn N g) (h1 : 1 ≤ N) (h2 : N ≤ 20) (hV : Crd (Mb gs N) V) (hk : k < V) : ∃ q, Mb gs N q ∧ Rk N gs q k := by
  classical
  have hV0 := hV
  obtain ⟨l, hd, hm, hl⟩ := hV
  have hr : ∀ q, Rk N gs q (l.filter fun x => decide (LxI N x q)).length := fun q => ⟨l.filter fun x => decide (LxI N x q), hd.filter _, fun p => by rw [List.mem_filter, hm, decide_eq_true_eq], rfl⟩
  have hin : k ∈ l.map fun q => (l.filter fun x => decide (LxI N x q)).length := by
    rcases Classical.em (k ∈ l.map fun q => (l.filter fun x => decide (LxI N x q)).length) with h | h
    · exact h
    · exfalso
      have hnd : (l.map fun q => (l.filter fun x => decide (LxI N x q)).length).Nodup := nd_mapA hd fun x hx y hy e => rk_inj hg h1 h2 (hr x) (by rw [e]; exact hr y) ((hm x).1 hx) ((hm y).1 hy)
      have := ndlen V (k :: l.map fun q => (l.filter fun x => decide (LxI N x q)).length) (List.nodup_cons.2 ⟨h, hnd⟩) fun x hx => by
        rcases List.mem_cons.1 hx with rfl | hx
        · exact hk
        · obtain ⟨q, hq, rfl⟩ := List.mem_map.1 hx
          exact rk_ord (hr q) hV0 ((hm q).1 hq)
      rw [List.length_cons, List.length_map] at this
      omega
  obtain ⟨q, hq, rfl⟩ := List.mem_map.1 hin
  exact ⟨q, (hm q).1 hq, hr q⟩
/-- A member other than the identity exactly if there are more than one. -/
theorem first_ok {v : Int} (e : gB a gs = true) (h : IsFst a gs m ok) (hv : IsOrd a gs v) : ok = decide (1 < v) := by
  obtain ⟨N, rfl, h1, h2, _, _, hok⟩ := gB_pm e
  rcases hv with ⟨_, xs, hx, rfl⟩ | ⟨e2, _⟩
  · rw [Int.toNat_natCast] at hx
    obtain ⟨V, hV, eV, _⟩ := hx.ordB hok h1 h2
    rw [eV]
    rcases h with ⟨_, rfl, hm, c, hc, ec⟩ | ⟨rfl, _, hn⟩
    · rw [Int.toNat_natCast] at hm hc
      have := rk_ord hc hV hm
      exact (decide_eq_true (by omega)).symm
    · refine (decide_eq_false fun hlt => ?_).symm
      obtain ⟨q, hq, hr⟩ := rk_some hok h1 h2 hV (show 1 < V by omega)
      exact hn e q (by rw [Int.toNat_natCast]; exact hq) 1 (by rw [Int.toNat_natCast]; exact hr) rfl
  · rw [e] at e2; cases e2
end
end Go.Proofs.Ytonanelghnjhpaa

/- PermutationLess, of the program (by slices.Compare) and of the model. Condition: at most 2097152 entries. -/
namespace Go.Proofs.Ytonanelghnjhpaa
open Go.RowKit

/-- p comes first: at the first place where they differ p is smaller. -/
def lessI (p q : List Int) (n : Nat) : Bool := decide (∃ k, k < n ∧ (∀ j, j < k → p.getD j 0 = q.getD j 0) ∧ p.getD k 0 < q.getD k 0)
theorem lessI_at {p q : List Int} {n k : Nat} (hk : k < n) (he : ∀ j, j < k → p.getD j 0 = q.getD j 0) (hne : p.getD k 0 ≠ q.getD k 0) : lessI p q n = decide (p.getD k 0 < q.getD k 0) := by
  unfold lessI
  rw [Bool.eq_iff_iff, decide_eq_true_eq, decide_eq_true_eq]
  constructor
  · rintro ⟨i, hi, h1, h2⟩
    rcases Nat.lt_trichotomy i k with h | h | h
    · have := he i h; omega
    · subst h; exact h2
    · exact absurd (h1 k h) hne
  · intro h; exact ⟨k, hk, he, h⟩
theorem lessI_end {p q : List Int} {n : Nat} (he : ∀ j, j < n → p.getD j 0 = q.getD j 0) : lessI p q n = false := by
  unfold lessI
  rw [decide_eq_false_iff_not]
  rintro ⟨k, hk, _, h⟩
  have := he k hk; omega
def lessP (p q : List Int) : Bool := sameD p q && lessI p q p.length

set_option maxHeartbeats 400000 in
theorem specPrec (A B : Option Addr) (c d n : Nat) (p q : List Int) (w : World) (hp : RI w w.heap.size A p) (hq : RI w w.heap.size B q) (lp : Hid (p.length = n)) (lq : Hid (q.length = n)) (hn : n ≤ 20) :
    Calls Try.prog 65 #[.slice A n c, .slice B n d] w fun e w' => e = .returned (.bool (lessI p q n)) ∧ ∃ m, w' = w.drewN m := by
  go_enter Try.func65, Try.ntmps65
  go_wp2
  go_loopw [5] (fun i wr => ∃ k : Nat, k ≤ n ∧ i = .int .i64 k ∧ (∀ j, j < k → p.getD j 0 = q.getD j 0) ∧ ∃ m, wr = w.drewN m) (fun i _ => n - (intOf i).toNat)
  case atStart => exact ⟨0, Nat.zero_le _, rfl, fun j h => absurd h (by omega), 0, rfl⟩
  case round =>
    obtain ⟨k, hk, rfl, heq, m, rfl⟩ := hrel
    have Heq := Lib.hid heq
    clear heq
    by_cases hlt : k < n
    · obtain ⟨b, off, rfl, hb, hc⟩ := hp (by rw [lp.out]; omega)
      obtain ⟨b', off', rfl, hb', hc'⟩ := hq (by rw [lq.out]; omega)
      have c1 := hc k (by rw [lp.out]; omega)
      have c2 := hc' k (by rw [lq.out]; omega)
      obtain ⟨x, ex⟩ : ∃ x, p.getD k 0 = x := ⟨_, rfl⟩
      obtain ⟨y, ey⟩ : ∃ y, q.getD k 0 = y := ⟨_, rfl⟩
      rw [ex] at c1
      rw [ey] at c2
      have Ex := Lib.hid ex
      have Ey := Lib.hid ey
      clear ex ey hc hc' hp hq
      have p1 : (0 : Int) ≤ k := by omega
      have p2 : (k : Int) < n := by omega
      by_cases hxy : x = y
      · subst hxy
        go_wp2
        go_quiet (fail)
        go_wp2
        go_roundw
        case rel => exact ⟨k + 1, by omega, by go_num, fun j hj => by
          by_cases e : j = k
          · subst e; rw [Ex.out, Ey.out]
          · exact Heq.out j (by omega), _, rfl⟩
        case measure => simp [intOf]; omega
      · have hd : (x != y) = true := by simpa using hxy
        have hd' : (x == y) = false := by simpa using hxy
        have Fin : Hid (lessI p q n = decide (x < y)) := Lib.hid (by rw [lessI_at hlt Heq.out (by rw [Ex.out, Ey.out]; exact hxy), Ex.out, Ey.out])
        clear hxy
        go_wp2
        go_quiet (fail)
        go_wp2
        go_quiet (fail)
        go_wp2
        go_ret
        exact ⟨ret_bool Fin.out.symm, _, by simp only [World.drewN_drewN]; rfl⟩
    · have hkn : k = n := by omega
      subst hkn
      have Fin : Hid (lessI p q k = false) := Lib.hid (lessI_end Heq.out)
      go_wp2
      go_ret
      exact ⟨ret_bool Fin.out.symm, _, rfl⟩

set_option maxHeartbeats 400000 in
/-- The model's PermutationLess. -/
theorem specPermutationLess (A B : Option Addr) (c d n m : Nat) (p q : List Int) (w : World) (hp : RI w w.heap.size A p) (hq : RI w w.heap.size B q) (lp : Hid (p.length = n)) (lq : Hid (q.length = m)) (hn : n ≤ 2097152) (hm : m ≤ 2097152) (hc : n ≤ c) (hd : m ≤ d) :
    Calls Try.prog 24 #[.slice A n c, .slice B m d] w fun e w' => e = .returned (.bool (lessP p q)) ∧ Below w.heap.size w w' := by
  rcases hs : sameD p q with _ | _
  · have Fin : Hid (lessP p q = false) := Lib.hid (by unfold lessP; rw [hs]; rfl)
    go_enter Try.func24, Try.ntmps24
    go_wp2_with fail
    refine (specSame A B c d n m p q w hp hq lp lq hn hm hc hd).mono ?_
    rintro e w1 ⟨rfl, b1⟩
    have B1 := Lib.hid b1
    clear b1
    go_wp2_with fail
    go_ret
    exact ⟨ret_bool Fin.out.symm, B1.out⟩
  · have Fin : Hid (lessP p q = lessI p q n) := Lib.hid (by unfold lessP; rw [hs, lp.out]; rfl)
    obtain ⟨h1, h2, h3⟩ := sameD_iff.1 hs
    have hn20 : n ≤ 20 := by rw [← lp.out]; exact h2.le
    obtain rfl : n = m := by rw [← lp.out, ← lq.out, h1]
    clear h1 h2 h3
    go_enter Try.func24, Try.ntmps24
    go_wp2_with fail
    refine (specSame A B c d n n p q w hp hq lp lq hn hn hc hd).mono ?_
    rintro e w1 ⟨rfl, b1⟩
    have B1 := Lib.hid b1
    clear b1
    go_wp2_with fail
    refine (quiet_below (specPrec A B c d n p q w1 (hp.up B1.out) (hq.up B1.out) lp lq hn20)).mono ?_
    rintro e w2 ⟨rfl, b2⟩
    have B2 : Hid (Below w.heap.size w w2) := Lib.hid (btr B1.out b2)
    clear b2
    go_wp2_with fail
    go_ret
    exact ⟨ret_bool Fin.out.symm, B2.out⟩
end Go.Proofs.Ytonanelghnjhpaa

/- The walk of the law FnChainOrder: it returns true at every input, and writes nothing that was there. No condition but the program's own contracts. -/
namespace Go.Proofs.Ytonanelghnjhpaa
open Go.RowKit

theorem lx_less {N : Nat} {p q : List Int} (hp : Pn N p) (hq : Pn N q) (h : LxI N p q) : lessP p q = true := by
  unfold lessP
  rw [sameD_iff.2 ⟨by rw [hp.2, hq.2], hp.1, hq.1⟩, Bool.true_and, hp.2]
  obtain ⟨t, ht, a, b⟩ := h
  refine decide_eq_true ⟨t, ht, fun j hj => ?_, ?_⟩
  · rw [nx_val hp.1 (by rw [hp.2]; omega), nx_val hq.1 (by rw [hq.2]; omega), a j hj]
  · rw [nx_val hp.1 (by rw [hp.2]; omega), nx_val hq.1 (by rw [hq.2]; omega)]; omega

set_option maxHeartbeats 8000000 in
set_option maxRecDepth 100000 in
theorem lawChainOrder (IG : CtImI 17 IsOrd) (IO : CtImS 18 IsSiz) (IM : CtImM 19 IsMbs) (IE : CtImmB 25 IsSam) (A : Option Addr) (cap len : Nat) (w : World) (hb : SB w w.heap.size A len) :
    Calls Try.prog 3 #[.slice A len cap] w fun e w' => e = .returned (.bool true) ∧ Below w.heap.size w w' := by
  by_cases hl : len ≤ 4096
  · go_enter Try.func3, Try.ntmps3
    go_wp2_with fail
    refine (bigF4 A len cap w hl).mono ?_
    rintro e w0 ⟨rfl, rfl⟩
    go_wp2_with fail
    refine (drawMbs len cap A w hb hl).mono ?_
    rintro e w1 ⟨z, A1, m, c, vs, xss, rfl, hB, gi, b1⟩
    have G1 := Lib.hid gi
    have HB := Lib.hid hB
    have B1 := Lib.hid b1
    clear gi b1 hB hb
    go_wp2_with fail
    refine (IG z A1 m c vs xss w1 G1.out HB.out).mono ?_
    rintro e w2 ⟨v, rfl, rv, b2⟩
    have Rv := Lib.hid rv
    have G2 := Lib.hid (G1.out.up b2)
    have B2 : Hid (Below w.heap.size w w2) := Lib.hid (btr B1.out b2)
    clear rv b2
    go_wp2_with fail
    refine (IO z A1 m c vs xss w2 G2.out HB.out).mono ?_
    rintro e w3 ⟨A3, n3, c3, xs, rfl, s3, r3, b3⟩
    have R3 := Lib.hid r3
    have X3 : Hid (RI w3 w3.heap.size A3 xs) := Lib.hid s3.ri_
    have L3 : Hid (xs.length = n3) := Lib.hid s3.1
    have hn3 : n3 ≤ 20 := by rw [← s3.1]; exact r3.len
    have G3 := Lib.hid (G2.out.up b3)
    have B3 : Hid (Below w.heap.size w w3) := Lib.hid (btr B2.out b3)
    clear r3 s3 b3
    go_wp2_with fail
    refine (IM z A1 m c vs xss w3 G3.out HB.out).mono ?_
    rintro e w4 ⟨A4, m4, c4, us4, l4, rfl, s4, r4, b4⟩
    have R4 := Lib.hid r4
    have O4 : Hid (RR w4 w4.heap.size A4 m4 us4 l4) := Lib.hid s4.rr
    have L4 : Hid (l4.length = m4) := Lib.hid s4.lx
    have hm4 : m4 ≤ 3000 := by rw [← s4.lx]; exact r4.len.1
    have X4 := Lib.hid (X3.out.up b4)
    have G4 := Lib.hid (G3.out.up b4)
    have B4 : Hid (Below w.heap.size w w4) := Lib.hid (btr B3.out b4)
    clear r4 s4 b4
    go_wp2_with fail
    refine (ctOrd z A1 m c vs xss w4 G4.out HB.out).mono ?_
    rintro e w5 ⟨v', rfl, rv', b5⟩
    obtain rfl : v' = v := rv'.uniq Rv.out
    have X5 := Lib.hid (X4.out.up b5)
    have O5 := Lib.hid (O4.out.up b5)
    have G5 := Lib.hid (G4.out.up b5)
    have B5 : Hid (Below w.heap.size w w5) := Lib.hid (btr B4.out b5)
    have ne1 : (v' != v') = false := by simp
    clear rv' b5
    go_wp2_with fail
    refine (ctSiz z A1 m c vs xss w5 G5.out HB.out).mono ?_
    rintro e w6 ⟨A6, n6, c6, ys, rfl, s6, r6, b6⟩
    obtain rfl : ys = xs := r6.uniq R3.out
    obtain rfl : n6 = n3 := by rw [← s6.1]; exact L3.out
    have Y6 : Hid (RI w6 w6.heap.size A6 ys) := Lib.hid s6.ri_
    have X6 := Lib.hid (X5.out.up b6)
    have O6 := Lib.hid (O5.out.up b6)
    have G6 := Lib.hid (G5.out.up b6)
    have B6 : Hid (Below w.heap.size w w6) := Lib.hid (btr B5.out b6)
    clear r6 s6 b6
    go_wp2_with fail
    refine (likeI_eq A3 A6 c3 c6 n6 n6 ys w6 X6.out Y6.out L3 L3 (by omega)).mono ?_
    rintro e w7 ⟨rfl, b7⟩
    have X7 := Lib.hid (X6.out.up b7)
    have O7 := Lib.hid (O6.out.up b7)
    have G7 := Lib.hid (G6.out.up b7)
    have B7 : Hid (Below w.heap.size w w7) := Lib.hid (btr B6.out b7)
    clear b7 Y6
    go_wp2_with fail
    refine (ctMbs z A1 m c vs xss w7 G7.out HB.out).mono ?_
    rintro e w8 ⟨A8, m8, c8, us8, l8, rfl, s8, r8, b8⟩
    obtain rfl : l8 = l4 := r8.uniq R4.out
    obtain rfl : m8 = m4 := by rw [← s8.lx]; exact L4.out
    have X8 := Lib.hid (X7.out.up b8)
    have O8 := Lib.hid (O7.out.up b8)
    have G8 := Lib.hid (G7.out.up b8)
    have B8 : Hid (Below w.heap.size w w8) := Lib.hid (btr B7.out b8)
    have ne2 : ((m8 : Int) != (m8 : Int)) = false := by simp
    clear r8 s8 b8
    rcases hq : gB z xss with _ | _
    · obtain rfl : v' = 0 := by
        rcases Rv.out with ⟨e, _⟩ | ⟨_, e⟩
        · rw [hq] at e; cases e
        · exact e
      have e3 : ys = [] := by
        rcases R3.out with ⟨e, _⟩ | ⟨_, e⟩
        · rw [hq] at e; cases e
        · exact e
      have e4 : l8 = [] := by
        rcases R4.out with ⟨⟨e, _⟩, _⟩ | ⟨_, e⟩
        · rw [hq] at e; cases e
        · exact e
      obtain rfl : n6 = 0 := by rw [← L3.out, e3]; rfl
      obtain rfl : m8 = 0 := by rw [← L4.out, e4]; rfl
      clear hq e3 e4
      go_wp2_with fail
      go_ret
      exact ⟨rfl, B8.out⟩
    · obtain ⟨N, rfl, hN1, hN2, hg8, hpm, hok⟩ := gB_pm hq
      have Ok : Hid (∀ g ∈ xss, Pn N g) := Lib.hid hok
      have Hq := Lib.hid hq
      have os : IsOS N xss ys := by
        rcases R3.out with ⟨_, h⟩ | ⟨e, _⟩
        · rw [Int.toNat_natCast] at h; exact h
        · rw [hq] at e; cases e
      have Os := Lib.hid os
      obtain rfl : n6 = N := by rw [← L3.out]; exact os.1
      obtain ⟨V, hV, eV, hVb⟩ := os.ordB hok hN1 hN2
      have hV1 : 1 ≤ V := crd_sub (crd_one (idL n6)) hV fun x hx => by subst hx; exact .one
      obtain rfl : v' = (V : Int) := by
        rcases Rv.out with ⟨_, xs', h, e⟩ | ⟨e, _⟩
        · rw [Int.toNat_natCast] at h; rw [e, h.uniq os, eV]
        · rw [hq] at e; cases e
      have eP : pr ys 0 n6 = (V : Int) := by rw [← eV, prodL_pr, os.1]
      have EP := Lib.hid eP
      have HV := Lib.hid hV
      have LV : Hid (V ≤ 3000 → m8 = V ∧ l8.Pairwise (LxI n6) ∧ ∀ p, p ∈ l8 ↔ Mb xss n6 p) := Lib.hid fun h3 => by
        rcases R4.out with ⟨_, a, b⟩ | ⟨e, _⟩
        · rw [Int.toNat_natCast] at a b
          refine ⟨?_, a, b⟩
          rw [← L4.out]
          exact (hV.uniq ⟨l8, lx_nodup a, b, rfl⟩).symm
        · exact absurd ⟨hq, V, by rw [Int.toNat_natCast]; exact hV, h3⟩ e
      have LN : Hid (¬ V ≤ 3000 → m8 = 0) := Lib.hid fun h3 => by
        rcases R4.out with ⟨⟨_, V', h, h'⟩, _⟩ | ⟨_, e⟩
        · rw [Int.toNat_natCast] at h
          have := h.uniq HV.out; omega
        · rw [← L4.out, e]; rfl
      have z0 : ((V : Int) == 0) = false := by rw [beq_eq_false_iff_ne]; omega
      clear hq hpm hok os hV eV eP
      go_wp2_with fail
      go_loopw [8, 9] (fun o i wr => ∃ k : Nat, k ≤ n6 ∧ i = .int .i64 (k : Nat) ∧ o = .int .i64 (pr ys 0 k) ∧ wr = w8) (fun _ i _ => n6 - (intOf i).toNat)
      case atStart => exact ⟨0, Nat.zero_le _, rfl, rfl, rfl⟩
      case round =>
        obtain ⟨k, hk, rfl, rfl, rfl⟩ := hrel
        by_cases hlt : k < n6
        · obtain ⟨b, off, rfl, hbb, hcc⟩ := X8.out (by rw [L3.out]; omega)
          have x1 := hcc k (by rw [L3.out]; exact hlt)
          have e1 : pr ys 0 (k + 1) = pr ys 0 k * ys.getD k 0 := by show pr ys 0 k * ys.getD (0 + k) 0 = _; rw [Nat.zero_add]
          have hpb := Os.out.pr_le Ok.out hN1 hN2 0 (k + 1) (by omega)
          have hfb := facts_le hN2 (0 + (k + 1)) (by omega)
          obtain ⟨y, hy⟩ : ∃ y, ys.getD k 0 = y := ⟨_, rfl⟩
          obtain ⟨q, hqq⟩ : ∃ q, pr ys 0 k = q := ⟨_, rfl⟩
          obtain ⟨r, hr⟩ : ∃ r, pr ys 0 (k + 1) = r := ⟨_, rfl⟩
          rw [hy] at x1 e1
          rw [hqq] at e1 ⊢
          rw [hr] at e1 hpb
          have Hr := Lib.hid hr
          have wq : IntKind.i64.wrap (q * y) = r := by rw [← e1, IntKind.wrap_i64]; omega
          have p0 : (0 : Int) ≤ k := by omega
          have p1 : (k : Int) < n6 := by omega
          clear hbb hcc hpb hfb hy hqq hr e1
          go_wp2_with fail
          go_roundw
          case rel => exact ⟨k + 1, by omega, by go_num, by rw [Hr.out], trivial⟩
          case measure => simp [intOf]; omega
        · obtain rfl : k = n6 := by omega
          rw [EP.out]
          have ne3 : ((V : Int) != (V : Int)) = false := by simp
          have Sam : Hid (SameG (k : Int) xss xss) := Lib.hid ⟨Hq.out, Hq.out, fun g hg => by rw [Int.toNat_natCast]; exact .of (Ok.out g hg) hg, fun g hg => by rw [Int.toNat_natCast]; exact .of (Ok.out g hg) hg⟩
          by_cases hV3 : V ≤ 3000
          · obtain ⟨hmv, hsr, hmm⟩ := LV.out hV3
            subst hmv
            have Sr := Lib.hid hsr
            have Mm := Lib.hid hmm
            have d3 : decide ((m8 : Int) ≤ 3000) = true := by simp; omega
            clear hsr hmm LV LN HV X8
            go_wp2_with fail
            obtain ⟨wl, rfl⟩ : ∃ wl, wl = wr := ⟨_, rfl⟩
            go_loopg [10] m8 (fun gg i wr => ∃ j : Nat, j < m8 ∧ m8 - j ≤ gg ∧ i = .int .i64 (j : Nat) ∧ Below wl.heap.size wl wr)
            case atStart => exact ⟨0, by omega, by omega, rfl, Below.refl _ _⟩
            case round =>
              obtain ⟨j, hj, hgj, rfl, bel⟩ := hrel
              have Bj := Lib.hid bel
              have O9 := Lib.hid (O8.out.up bel)
              have G9 := Lib.hid (G8.out.up bel)
              clear bel
              by_cases hjm : j + 1 < m8
              · obtain ⟨b, off, A5, k5, c5, p, rfl, hb5, e51, e52, x1, ri1, n1, cc1⟩ := O9.out.at_ (k := j) (by omega)
                obtain ⟨b', off', A6, k6, c6, q, e0, hb6, e61, e62, x2, ri2, n2, cc2⟩ := O9.out.at_ (k := j + 1) hjm
                injection e0 with e0
                injection e0 with f1 f2 _
                subst f1 f2
                have hp := (Mm.out p).1 (getD_of (by rw [L4.out]; omega) e52)
                have hq := (Mm.out q).1 (getD_of (by rw [L4.out]; exact hjm) e62)
                have hpp := hp.pn Ok.out hN1 hN2
                have hqp := hq.pn Ok.out hN1 hN2
                have hlx : LxI k p q := by
                  have := List.pairwise_iff_getElem.1 Sr.out j (j + 1) (by rw [L4.out]; omega) (by rw [L4.out]; exact hjm) (Nat.lt_succ_self j)
                  rw [List.getD_eq_getElem?_getD, List.getElem?_eq_getElem (by rw [L4.out]; omega)] at e52
                  rw [List.getD_eq_getElem?_getD, List.getElem?_eq_getElem (by rw [L4.out]; exact hjm)] at e62
                  have e52 : l8[j]'(by rw [L4.out]; omega) = p := e52
                  have e62 : l8[j + 1]'(by rw [L4.out]; exact hjm) = q := e62
                  rw [e52, e62] at this; exact this
                have Fin : Hid (lessP p q = true) := Lib.hid (lx_less hpp hqp hlx)
                have hk5 : k5 ≤ 20 := by rw [← n1, hpp.2]; exact hN2
                have hk6 : k6 ≤ 20 := by rw [← n2, hqp.2]; exact hN2
                have R1 := Lib.hid ri1
                have R2 := Lib.hid ri2
                have N1 := Lib.hid n1
                have N2 := Lib.hid n2
                have d1 : decide ((j : Int) + 1 < (m8 : Int)) = true := by simp; omega
                have w1' : IntKind.i64.wrap ((j : Int) + 1) = (j : Int) + 1 := by rw [IntKind.wrap_i64]; omega
                have p0 : (0 : Int) ≤ j := by omega
                have p1 : (j : Int) < m8 := by omega
                have p2 : (0 : Int) ≤ (j : Int) + 1 := by omega
                have p3 : (j : Int) + 1 < m8 := by omega
                have hbw : b < wr.heap.size := hb5
                clear e51 e52 e61 e62 hp hq hpp hqp hlx ri1 ri2 n1 n2 hb5 hb6
                go_wp2_with fail
                go_region_held3 (fun w' => w'.cell? ⟨b, off + j, none⟩ = some (.slice A5 k5 c5) ∧ w'.cell? ⟨b, off + (j + 1), none⟩ = some (.slice A6 k6 c6))
                  (first | exact ⟨x1, x2⟩ | exact hS1 | go_keep)
                  (first
                    | (go_at_call 24; refine (specPermutationLess A5 A6 c5 c6 k5 k6 p q _ ?_ ?_ N1 N2 (by omega) (by omega) cc1 cc2).mono ?_; (exact R1.out); (exact R2.out); rintro e w9 ⟨rfl, b9'⟩; rw [Fin.out]
                       have b9 : Below wr.heap.size wr w9 := ⟨b9'.os, b9'.tape, b9'.output, b9'.size, b9'.block⟩
                       have hS1 := And.intro ((b9.cell (p := ⟨b, off + j, none⟩) hbw).trans x1) ((b9.cell (p := ⟨b, off + (j + 1), none⟩) hbw).trans x2)))
                have B9 : Hid (Below wl.heap.size wl w9) := Lib.hid (btr Bj.out b9)
                clear b9 hS1 x1 x2
                go_wp2_with fail
                go_roundg (m8 - (j + 1))
                case rel => exact ⟨j + 1, hjm, by omega, by go_num, B9.out⟩
                case measure => omega
              · have d1 : decide ((j : Int) + 1 < (m8 : Int)) = false := by simp; omega
                have Bw : Hid (Below w.heap.size w wr) := Lib.hid (btr B8.out Bj.out)
                go_wp2_with fail
                refine (IE k A1 m c vs xss A1 m c vs xss wr G9.out G9.out HB.out).mono ?_
                rintro e w10 ⟨b10, rfl, r10, bb10⟩
                obtain rfl : b10 = true := r10.2 Sam.out
                have B10 : Hid (Below w.heap.size w w10) := Lib.hid (btr Bw.out bb10)
                clear r10 bb10
                go_wp2_with fail
                go_ret
                exact ⟨rfl, B10.out⟩
          · obtain rfl : m8 = 0 := LN.out hV3
            have d3 : decide ((V : Int) ≤ 3000) = false := by simp; omega
            clear LV LN HV X8
            go_wp2_with fail
            obtain ⟨wl, rfl⟩ : ∃ wl, wl = wr := ⟨_, rfl⟩
            go_loopg [10] 1 (fun gg i wr => i = .int .i64 0 ∧ wr = wl)
            case atStart => exact ⟨rfl, rfl⟩
            case round =>
              obtain ⟨rfl, rfl⟩ := hrel
              go_wp2_with fail
              refine (IE k A1 m c vs xss A1 m c vs xss _ G8.out G8.out HB.out).mono ?_
              rintro e w10 ⟨b10, rfl, r10, bb10⟩
              obtain rfl : b10 = true := r10.2 Sam.out
              have B10 : Hid (Below w.heap.size w w10) := Lib.hid (btr B8.out bb10)
              clear r10 bb10
              go_wp2_with fail
              go_ret
              exact ⟨rfl, B10.out⟩
  · clear hb
    go_enter Try.func3, Try.ntmps3
    go_wp2_with fail
    refine (bigT4 A len cap w (by omega)).mono ?_
    rintro e w0 ⟨rfl, rfl⟩
    go_wp2_with fail
    go_ret
    exact ⟨rfl, Below.refl _ _⟩
end Go.Proofs.Ytonanelghnjhpaa

/- The walk of the law FnRanks: it returns true at every input, and writes nothing that was there. No condition but the program's own contracts. -/
namespace Go.Proofs.Ytonanelghnjhpaa
open Go.RowKit

theorem exOS (N : Nat) (gs : List (List Int)) : ∃ xs, IsOS N gs xs := by
  classical
  refine ⟨(List.range N).map fun i => (((List.range N).filter fun y => decide (∃ p, Mb gs N p ∧ Fx i p ∧ nx p i = y)).length : Int), by simp, fun i hi => ⟨(List.range N).filter fun y => decide (∃ p, Mb gs N p ∧ Fx i p ∧ nx p i = y), List.nodup_range.filter _, fun y => by rw [List.mem_filter, List.mem_range, decide_eq_true_eq], ?_⟩⟩
  rw [List.getD_eq_getElem?_getD, List.getElem?_map, List.getElem?_range hi]; rfl
theorem IsMat.kb {a k : Int} {gs : List (List Int)} {m : List Int} (h : IsMat a gs k m true) : 0 ≤ k ∧ k < 2432902008176640000 := by
  rcases h with ⟨e, _, hm, c, hc, rfl⟩ | ⟨e, _⟩
  · obtain ⟨N, rfl, h1, h2, _, _, hok⟩ := gB_pm e
    rw [Int.toNat_natCast] at hm hc
    obtain ⟨xs, hx⟩ := exOS N gs
    obtain ⟨V, hV, _, hVb⟩ := hx.ordB hok h1 h2
    have := rk_ord hc hV hm
    omega
  · cases e

set_option maxHeartbeats 8000000 in
set_option maxRecDepth 100000 in
theorem lawRanks (IMa : CtImiP 27 IsMat) (INx : CtImsP 29 IsNxt) (IRk : CtImsI 30 IsRnk) (ICm : CtImsI 31 IsCmb) (IIm : CtImsB 32 IsMem) (A : Option Addr) (cap len : Nat) (w : World) (hb : SB w w.heap.size A len) :
    Calls Try.prog 4 #[.slice A len cap] w fun e w' => e = .returned (.bool true) ∧ Below w.heap.size w w' := by
  by_cases hl : len ≤ 4096
  · go_enter Try.func4, Try.ntmps4
    go_wp2_with fail
    refine (bigF4 A len cap w hl).mono ?_
    rintro e w0 ⟨rfl, rfl⟩
    go_wp2_with fail
    refine (drawMat len cap A w hb hl).mono ?_
    rintro e w1 ⟨z, A1, m, c, vs, xss, k, rfl, hB, hK, gi, b1⟩
    have G1 := Lib.hid gi
    have HB := Lib.hid hB
    have HK := Lib.hid hK
    have B1 := Lib.hid b1
    clear gi b1 hB hb hK
    go_wp2_with fail
    refine (IMa z A1 m c vs xss k w1 G1.out HB.out HK.out).mono ?_
    rintro e w2 ⟨A2, n2, c2, p, ok, rfl, s2, r2, b2⟩
    have R2 := Lib.hid r2
    have P2 : Hid (RI w2 w2.heap.size A2 p) := Lib.hid s2.ri_
    have L2 : Hid (p.length = n2) := Lib.hid s2.1
    have hn2 : n2 ≤ 20 := by rw [← s2.1]; exact r2.len
    have hc2 : n2 ≤ c2 := s2.le.1
    have G2 := Lib.hid (G1.out.up b2)
    have B2 : Hid (Below w.heap.size w w2) := Lib.hid (btr B1.out b2)
    clear r2 s2 b2
    go_wp2_with fail
    refine (ctMat z A1 m c vs xss k w2 G2.out HB.out HK.out).mono ?_
    rintro e w3 ⟨A3, n3, c3, p', ok', rfl, s3, r3, b3⟩
    obtain ⟨rfl, rfl⟩ := r3.uniq R2.out
    obtain rfl : n3 = n2 := by rw [← s3.1]; exact L2.out
    have Y3 : Hid (RI w3 w3.heap.size A3 p') := Lib.hid s3.ri_
    have P3 := Lib.hid (P2.out.up b3)
    have G3 := Lib.hid (G2.out.up b3)
    have B3 : Hid (Below w.heap.size w w3) := Lib.hid (btr B2.out b3)
    have ne1 : (ok' != ok') = false := by simp
    clear r3 s3 b3
    go_wp2_with fail
    refine (likeI_eq A2 A3 c2 c3 n3 n3 p' w3 P3.out Y3.out L2 L2 (by omega)).mono ?_
    rintro e w4 ⟨rfl, b4⟩
    have P4 := Lib.hid (P3.out.up b4)
    have G4 := Lib.hid (G3.out.up b4)
    have B4 : Hid (Below w.heap.size w w4) := Lib.hid (btr B3.out b4)
    clear b4 Y3 ne1
    rcases ok' with _ | _
    · obtain rfl : n3 = 0 := by
        rw [← L2.out]
        rcases R2.out with ⟨_, e, _⟩ | ⟨_, e, _⟩
        · cases e
        · rw [e]; rfl
      go_wp2_with fail
      go_ret
      exact ⟨rfl, B4.out⟩
    · have kb := R2.out.kb
      have Mm := Lib.hid R2.out.memb
      have S4 : Hid (SIn w4 A2 n3 c2 p') := Lib.hid ⟨P4.out, L2.out, by omega, hc2⟩
      have wk : IntKind.i64.wrap (k + 1) = k + 1 := by rw [IntKind.wrap_i64]; omega
      have HK1 : Hid (I64 (k + 1)) := Lib.hid (by unfold I64; omega)
      go_wp2_with fail
      refine (INx z A1 m c vs xss A2 n3 c2 p' w4 G4.out S4.out HB.out).mono ?_
      rintro e w5 ⟨A5, n5, c5, x, more, rfl, s5, r5, b5⟩
      have R5 := Lib.hid r5
      have X5 : Hid (RI w5 w5.heap.size A5 x) := Lib.hid s5.ri_
      have L5 : Hid (x.length = n5) := Lib.hid s5.1
      have hn5 : n5 ≤ 20 := by rw [← s5.1]; exact r5.len
      have S5 := Lib.hid (S4.out.up b5)
      have G5 := Lib.hid (G4.out.up b5)
      have B5 : Hid (Below w.heap.size w w5) := Lib.hid (btr B4.out b5)
      clear r5 s5 b5
      go_wp2_with fail
      refine (ctMat z A1 m c vs xss (k + 1) w5 G5.out HB.out HK1.out).mono ?_
      rintro e w6 ⟨A6, n6, c6, x', more', rfl, s6, r6, b6⟩
      obtain ⟨rfl, rfl⟩ := R2.out.nxt R5.out r6
      obtain rfl : n6 = n5 := by rw [← s6.1]; exact L5.out
      have Y6 : Hid (RI w6 w6.heap.size A6 x) := Lib.hid s6.ri_
      have X6 := Lib.hid (X5.out.up b6)
      have S6 := Lib.hid (S5.out.up b6)
      have G6 := Lib.hid (G5.out.up b6)
      have B6 : Hid (Below w.heap.size w w6) := Lib.hid (btr B5.out b6)
      clear r6 s6 b6
      go_wp2_with fail
      refine (IRk z A1 m c vs xss A2 n3 c2 p' w6 G6.out S6.out HB.out).mono ?_
      rintro e w7 ⟨v7, rfl, r7, b7⟩
      obtain rfl : v7 = k := R2.out.rnk r7
      have X7 := Lib.hid (X6.out.up b7)
      have Y7 := Lib.hid (Y6.out.up b7)
      have S7 := Lib.hid (S6.out.up b7)
      have G7 := Lib.hid (G6.out.up b7)
      have B7 : Hid (Below w.heap.size w w7) := Lib.hid (btr B6.out b7)
      have eq1 : (v7 == v7) = true := by simp
      clear r7 b7
      go_wp2_with fail
      refine (ICm z A1 m c vs xss A2 n3 c2 p' w7 G7.out S7.out HB.out).mono ?_
      rintro e w8 ⟨v8, rfl, r8, b8⟩
      obtain rfl : v8 = v7 := R2.out.cmb r8
      have X8 := Lib.hid (X7.out.up b8)
      have Y8 := Lib.hid (Y7.out.up b8)
      have S8 := Lib.hid (S7.out.up b8)
      have G8 := Lib.hid (G7.out.up b8)
      have B8 : Hid (Below w.heap.size w w8) := Lib.hid (btr B7.out b8)
      have eq2 : (more == more) = true := by simp
      clear r8 b8
      go_wp2_with fail
      refine (likeI_eq A5 A6 c5 c6 n6 n6 x w8 X8.out Y8.out L5 L5 (by omega)).mono ?_
      rintro e w9 ⟨rfl, b9⟩
      have S9 := Lib.hid (S8.out.up b9)
      have G9 := Lib.hid (G8.out.up b9)
      have B9 : Hid (Below w.heap.size w w9) := Lib.hid (btr B8.out b9)
      clear b9
      go_wp2_with fail
      refine (IIm z A1 m c vs xss A2 n3 c2 p' w9 G9.out S9.out HB.out).mono ?_
      rintro e w10 ⟨b10, rfl, r10, bb10⟩
      obtain rfl : b10 = true := r10.2 Mm.out
      have B10 : Hid (Below w.heap.size w w10) := Lib.hid (btr B9.out bb10)
      clear r10 bb10
      go_wp2_with fail
      go_ret
      exact ⟨rfl, B10.out⟩
  · clear hb
    go_enter Try.func4, Try.ntmps4
    go_wp2_with fail
    refine (bigT4 A len cap w (by omega)).mono ?_
    rintro e w0 ⟨rfl, rfl⟩
    go_wp2_with fail
    go_ret
    exact ⟨rfl, Below.refl _ _⟩
end Go.Proofs.Ytonanelghnjhpaa

/- The walk of the law FnRandomMembers: it returns true at every input, and writes nothing that was there. No condition but the program's own contracts. -/
namespace Go.Proofs.Ytonanelghnjhpaa
open Go.RowKit

theorem IsRnd.memb {a s : Int} {gs : List (List Int)} {m : List Int} (h : IsRnd a gs s m true) : Memb a gs m := by
  rcases h with ⟨e, _, hm, _⟩ | ⟨_, e, _⟩
  · exact memb_of e hm
  · cases e
theorem IsRnd.gb {a s : Int} {gs : List (List Int)} {m : List Int} (h : IsRnd a gs s m true) : gB a gs = true := h.memb.1

set_option maxHeartbeats 8000000 in
set_option maxRecDepth 100000 in
theorem lawRandomMembers (IRd : CtImiP 34 IsRnd) (IFs : CtImP 36 IsFst) (IRk : CtImsI 30 IsRnk) (IIm : CtImsB 32 IsMem) (A : Option Addr) (cap len : Nat) (w : World) (hb : SB w w.heap.size A len) :
    Calls Try.prog 5 #[.slice A len cap] w fun e w' => e = .returned (.bool true) ∧ Below w.heap.size w w' := by
  by_cases hl : len ≤ 4096
  · go_enter Try.func5, Try.ntmps5
    go_wp2_with fail
    refine (bigF4 A len cap w hl).mono ?_
    rintro e w0 ⟨rfl, rfl⟩
    go_wp2_with fail
    refine (drawRnd len cap A w hb hl).mono ?_
    rintro e w1 ⟨z, A1, m, c, vs, xss, k, rfl, hB, hK, gi, b1⟩
    have G1 := Lib.hid gi
    have HB := Lib.hid hB
    have HK := Lib.hid hK
    have B1 := Lib.hid b1
    clear gi b1 hB hb hK
    go_wp2_with fail
    refine (IRd z A1 m c vs xss k w1 G1.out HB.out HK.out).mono ?_
    rintro e w2 ⟨A2, n2, c2, p, ok, rfl, s2, r2, b2⟩
    have R2 := Lib.hid r2
    have P2 : Hid (RI w2 w2.heap.size A2 p) := Lib.hid s2.ri_
    have L2 : Hid (p.length = n2) := Lib.hid s2.1
    have hn2 : n2 ≤ 20 := by rw [← s2.1]; exact r2.len
    have hc2 : n2 ≤ c2 := s2.le.1
    have G2 := Lib.hid (G1.out.up b2)
    have B2 : Hid (Below w.heap.size w w2) := Lib.hid (btr B1.out b2)
    clear r2 s2 b2
    go_wp2_with fail
    refine (ctRnd z A1 m c vs xss k w2 G2.out HB.out HK.out).mono ?_
    rintro e w3 ⟨A3, n3, c3, p', ok', rfl, s3, r3, b3⟩
    obtain ⟨rfl, rfl⟩ := r3.uniq R2.out
    obtain rfl : n3 = n2 := by rw [← s3.1]; exact L2.out
    have Y3 : Hid (RI w3 w3.heap.size A3 p') := Lib.hid s3.ri_
    have P3 := Lib.hid (P2.out.up b3)
    have G3 := Lib.hid (G2.out.up b3)
    have B3 : Hid (Below w.heap.size w w3) := Lib.hid (btr B2.out b3)
    have ne1 : (ok' != ok') = false := by simp
    clear r3 s3 b3
    go_wp2_with fail
    refine (likeI_eq A2 A3 c2 c3 n3 n3 p' w3 P3.out Y3.out L2 L2 (by omega)).mono ?_
    rintro e w4 ⟨rfl, b4⟩
    have P4 := Lib.hid (P3.out.up b4)
    have G4 := Lib.hid (G3.out.up b4)
    have B4 : Hid (Below w.heap.size w w4) := Lib.hid (btr B3.out b4)
    clear b4 Y3 ne1
    rcases ok' with _ | _
    · obtain rfl : n3 = 0 := by
        rw [← L2.out]
        rcases R2.out with ⟨_, e, _⟩ | ⟨_, _, e⟩
        · cases e
        · rw [e]; rfl
      go_wp2_with fail
      go_ret
      exact ⟨rfl, B4.out⟩
    · have Mm := Lib.hid R2.out.memb
      have Gb := Lib.hid R2.out.gb
      have Rm := Lib.hid R2.out.mod
      have S4 : Hid (SIn w4 A2 n3 c2 p') := Lib.hid ⟨P4.out, L2.out, by omega, hc2⟩
      have hb := tmod_b k
      obtain ⟨s, hs⟩ : ∃ s, k.tmod 999999937 = s := ⟨_, rfl⟩
      rw [hs] at hb Rm
      have ws : IntKind.i64.wrap s = s := by rw [IntKind.wrap_i64]; omega
      have HS : Hid (I64 s) := Lib.hid (by unfold I64; omega)
      go_wp2_with fail
      refine (IRd z A1 m c vs xss s w4 G4.out HB.out HS.out).mono ?_
      rintro e w5 ⟨A5, n5, c5, x, ok5, rfl, s5, r5, b5⟩
      obtain ⟨rfl, rfl⟩ := Rm.out.uniq r5
      obtain rfl : n5 = n3 := by rw [← s5.1]; exact L2.out
      have X5 : Hid (RI w5 w5.heap.size A5 p') := Lib.hid s5.ri_
      have S5 := Lib.hid (S4.out.up b5)
      have G5 := Lib.hid (G4.out.up b5)
      have B5 : Hid (Below w.heap.size w w5) := Lib.hid (btr B4.out b5)
      clear r5 s5 b5 hs ws
      go_wp2_with fail
      refine (IFs z A1 m c vs xss w5 G5.out HB.out).mono ?_
      rintro e w6 ⟨A6, n6, c6, f, moves, rfl, s6, r6, b6⟩
      have R6 := Lib.hid r6
      have F6 : Hid (SIn w6 A6 n6 c6 f) := Lib.hid ⟨s6.ri_, s6.1, by rw [← s6.1]; have := r6.len; omega, s6.le.1⟩
      have X6 := Lib.hid (X5.out.up b6)
      have S6 := Lib.hid (S5.out.up b6)
      have G6 := Lib.hid (G5.out.up b6)
      have B6 : Hid (Below w.heap.size w w6) := Lib.hid (btr B5.out b6)
      clear r6 s6 b6
      go_wp2_with fail
      refine (likeI_eq A2 A5 c2 c5 n5 n5 p' w6 S6.out.ri X6.out L2 L2 (by omega)).mono ?_
      rintro e w7 ⟨rfl, b7⟩
      have S7 := Lib.hid (S6.out.up b7)
      have F7 := Lib.hid (F6.out.up b7)
      have G7 := Lib.hid (G6.out.up b7)
      have B7 : Hid (Below w.heap.size w w7) := Lib.hid (btr B6.out b7)
      clear b7 X6
      go_wp2_with fail
      refine (IIm z A1 m c vs xss A2 n5 c2 p' w7 G7.out S7.out HB.out).mono ?_
      rintro e w8 ⟨b8, rfl, r8, bb8⟩
      obtain rfl : b8 = true := r8.2 Mm.out
      have F8 := Lib.hid (F7.out.up bb8)
      have G8 := Lib.hid (G7.out.up bb8)
      have B8 : Hid (Below w.heap.size w w8) := Lib.hid (btr B7.out bb8)
      clear r8 bb8
      go_wp2_with fail
      refine (ctOrd z A1 m c vs xss w8 G8.out HB.out).mono ?_
      rintro e w9 ⟨v, rfl, rv, b9⟩
      have em := first_ok Gb.out R6.out rv
      have F9 := Lib.hid (F8.out.up b9)
      have G9 := Lib.hid (G8.out.up b9)
      have B9 : Hid (Below w.heap.size w w9) := Lib.hid (btr B8.out b9)
      clear rv b9
      by_cases hv : 1 < v
      · obtain rfl : moves = true := em.trans (decide_eq_true hv)
        have d1 : decide (1 < v) = true := decide_eq_true hv
        have d2 : decide (v > 1) = true := decide_eq_true hv
        clear em
        go_wp2_with fail
        refine (IRk z A1 m c vs xss A6 n6 c6 f w9 G9.out F9.out HB.out).mono ?_
        rintro e w10 ⟨v10, rfl, r10, b10⟩
        obtain rfl : v10 = 1 := IsMat.rnk R6.out r10
        have B10 : Hid (Below w.heap.size w w10) := Lib.hid (btr B9.out b10)
        clear r10 b10
        go_wp2_with fail
        go_ret
        exact ⟨rfl, B10.out⟩
      · obtain rfl : moves = false := em.trans (decide_eq_false hv)
        have d1 : decide (1 < v) = false := decide_eq_false hv
        have d2 : decide (v > 1) = false := decide_eq_false hv
        clear em
        go_wp2_with fail
        go_ret
        exact ⟨rfl, B9.out⟩
  · clear hb
    go_enter Try.func5, Try.ntmps5
    go_wp2_with fail
    refine (bigT4 A len cap w (by omega)).mono ?_
    rintro e w0 ⟨rfl, rfl⟩
    go_wp2_with fail
    go_ret
    exact ⟨rfl, Below.refl _ _⟩
end Go.Proofs.Ytonanelghnjhpaa
