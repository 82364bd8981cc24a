/- Part 6 of the texts: RowB, SrcA, DrawG, DrawX, DrawZ, DrawY, WalkK8. No condition of its own: each text tells its own. -/
import Derived.Test.YtoaaoikmkomofaaMg2
import Derived.Test.YtoaaoikmkomofaaMg3
import Derived.Test.YtoaaoikmkomofaaMg4
import Derived.Test.YtoaaoikmkomofaaMg5
import Derived.Test.YtoaaoikmkomofaaMg1
import Derived.Deep.CutRange
import Derived.Deep.LoopGhost
set_option linter.unusedVariables false
set_option linter.unusedSimpArgs false

/- What the frame of a proof knows of a slice of bytes that came in, in the words of the walks. No condition. -/
namespace Go.Proofs.Ytoaaoikmkomofaa
open Go.RowKit

theorem SB.of_rowB {w : World} {a : Option Addr} {len cap : Nat} {zs : List Int}
    (h : (a = none ∧ len = 0 ∧ cap = 0 ∧ zs = []) ∨ ∃ x, a = some x ∧ len ≤ cap ∧ cap ≤ maxLen ∧ zs.length = cap ∧ (∀ i, i < zs.length → w.cell? (x.add i) = some (.int .u8 (zs.getD i 0))) ∧ ∀ n ∈ zs, (Lit.int .u8 n).wf = true)
    (hw : ∀ n : Int, (Lit.int .u8 n).wf = true → 0 ≤ n ∧ n ≤ 255) : SB w w.heap.size a len := by
  rcases h with ⟨rfl, rfl, rfl, rfl⟩ | ⟨⟨b, off, spot⟩, rfl, hl, hm, hz, hc, hwf⟩
  · exact fun h => absurd h (by omega)
  · intro hp
    have h0 := hc 0 (by omega)
    have hspot : spot = none := by simpa [Addr.add] using World.cell?_spot h0
    subst hspot
    refine ⟨b, off, rfl, ?_, fun j hj => ?_⟩
    · have := World.block_lt_of_cell? w _ h0
      simpa [Addr.add] using this
    · have hjz : j < zs.length := by omega
      have hr := hw (zs.getD j 0) (hwf _ (by rw [List.getD_eq_getElem?_getD, List.getElem?_eq_getElem hjz]; exact List.getElem_mem _))
      refine ⟨(zs.getD j 0).toNat, by omega, ?_⟩
      rw [Int.toNat_of_nonneg hr.1, ← hc j hjz]
      unfold Addr.add
      split <;> simp_all
end Go.Proofs.Ytoaaoikmkomofaa

/- The model's draws of any permutation. Condition: degrees from 1 to 20. -/
namespace Go.Proofs.Ytoaaoikmkomofaa
open Go.RowKit

/-- A literal row of numbers, read later. -/
theorem lit_at {w w1 : World} {g : Nat} {cs : Array Value} {r : Nat} (hg : g < w.heap.size) (hb : (w.alloc (.cells cs 2)).grownBy w1 (some g)) (hr : r < cs.size) (hall : ∀ (i : Nat) (h : i < cs.size), ∃ z : Int, cs[i] = .int .i64 z) : ∃ z : Int, w1.cell? ⟨w.heap.size, r, none⟩ = some (.int .i64 z) := by
  obtain ⟨z, hz⟩ := hall r hr
  refine ⟨z, ?_⟩
  rw [World.cell?_of_block (hb.block w.heap.size (by simp) (by intro e; injection e with e; omega)), World.cell?_alloc_at _ _ _ _ rfl]
  show cs[r]? = _
  rw [Array.getElem?_eq_getElem hr, hz]

set_option maxHeartbeats 1600000 in
theorem srcExtreme (g : Nat) (w : World) (hs : Src w g) :
    Calls Try.prog 76 #[.pointer (some ⟨g, 0, none⟩)] w fun e w' => ∃ z : Int, e = .returned (.int .i64 z) ∧ Src w' g ∧ w.grownBy w' (some g) := by
  have hg := hs.lt
  have Hs := Lib.hid hs
  clear hs
  go_enter Try.func76, Try.ntmps76
  go_wp2_with fail
  refine (srcBelow g _ 10 _ (Hs.out.below ((Below.refl w.heap.size w).alloc (Nat.le_refl _) _) hg) rfl (by omega) (by omega)).mono ?_
  rintro e w1 ⟨r, hr, rfl, s1, g1⟩
  have S1 := Lib.hid s1
  have G1 : Hid (w.grownBy w1 (some g)) := Lib.hid (grown_trans' (grown_alloc2 (grown_refl _ _) _) g1)
  obtain ⟨z, hz⟩ := lit_at (r := r) hg g1 hr (by
    intro i h
    have h : i < 10 := h
    rcases i with _ | _ | _ | _ | _ | _ | _ | _ | _ | _ | i
    all_goals first | exact ⟨_, rfl⟩ | omega)
  have p0 : (0 : Int) ≤ r := by omega
  have p1 : (r : Int) < 10 := by omega
  clear s1 g1
  go_wp2_with fail
  go_ret
  exact ⟨z, rfl, S1.out, G1.out⟩

set_option maxHeartbeats 1600000 in
theorem srcNumber (g n : Nat) (w : World) (hs : Src w g) (h1 : 1 ≤ n) (hn : n ≤ 100) :
    Calls Try.prog 85 #[.pointer (some ⟨g, 0, none⟩), .int .i64 (n : Int)] w fun e w' => ∃ z : Int, e = .returned (.int .i64 z) ∧ Src w' g ∧ w.grownBy w' (some g) := by
  go_enter Try.func85, Try.ntmps85
  go_wp2_with fail
  refine (srcOne g _ 10 w hs rfl (by omega) (by omega)).mono ?_
  rintro e w1 ⟨b, rfl, s1, g1⟩
  have S1 := Lib.hid s1
  have G1 := Lib.hid g1
  clear s1 g1
  cases b
  · go_wp2_with fail
    refine (srcOne g _ 2 w1 S1.out rfl (by omega) (by omega)).mono ?_
    rintro e w2 ⟨b, rfl, s2, g2⟩
    have S2 := Lib.hid s2
    have G2 : Hid (w.grownBy w2 (some g)) := Lib.hid (grown_trans' G1.out g2)
    clear s2 g2
    cases b
    · go_wp2_with fail
      refine (srcBelow g _ (n + 1) w2 S2.out (by omega) (by omega) (by omega)).mono ?_
      rintro e w3 ⟨r, hr, rfl, s3, g3⟩
      have S3 := Lib.hid s3
      have G3 : Hid (w.grownBy w3 (some g)) := Lib.hid (grown_trans' G2.out g3)
      clear s3 g3
      go_wp2_with fail
      go_ret
      exact ⟨r, rfl, S3.out, G3.out⟩
    · by_cases h4 : n ≤ 4
      · have hm : (min (n : Int) 4) = (n : Int) := by omega
        have d4 : decide ((n : Int) ≤ 4) = true := by simp; omega
        go_wp2_with fail
        refine (srcBelow g _ (n + 1) w2 S2.out (by omega) (by omega) (by omega)).mono ?_
        rintro e w3 ⟨r, hr, rfl, s3, g3⟩
        have S3 := Lib.hid s3
        have G3 : Hid (w.grownBy w3 (some g)) := Lib.hid (grown_trans' G2.out g3)
        clear s3 g3
        go_wp2_with fail
        go_ret
        exact ⟨r, rfl, S3.out, G3.out⟩
      · have hm : (min (n : Int) 4) = 4 := by omega
        have d4 : decide ((n : Int) ≤ 4) = false := by simp; omega
        go_wp2_with fail
        refine (srcBelow g _ (5) w2 S2.out (by omega) (by omega) (by omega)).mono ?_
        rintro e w3 ⟨r, hr, rfl, s3, g3⟩
        have S3 := Lib.hid s3
        have G3 : Hid (w.grownBy w3 (some g)) := Lib.hid (grown_trans' G2.out g3)
        clear s3 g3
        go_wp2_with fail
        go_ret
        exact ⟨r, rfl, S3.out, G3.out⟩
  · go_wp2_with fail
    refine (srcExtreme g w1 S1.out).mono ?_
    rintro e w2 ⟨z, rfl, s2, g2⟩
    have S2 := Lib.hid s2
    have hg2 := s2.lt
    have G2 : Hid (w.grownBy w2 (some g)) := Lib.hid (grown_trans' G1.out g2)
    clear s2 g2
    go_wp2_with fail
    refine (srcBelow g _ 4 _ (S2.out.below ((Below.refl w2.heap.size w2).alloc (Nat.le_refl _) _) hg2) rfl (by omega) (by omega)).mono ?_
    rintro e w3 ⟨r, hr, rfl, s3, g3⟩
    have S3 := Lib.hid s3
    have G3 : Hid (w.grownBy w3 (some g)) := Lib.hid (grown_trans' (grown_alloc2 G2.out _) g3)
    obtain ⟨y, hy⟩ := lit_at (r := r) hg2 g3 hr (by
      intro i h
      have h : i < 4 := h
      rcases i with _ | _ | _ | _ | i
      all_goals first | exact ⟨_, rfl⟩ | omega)
    have p0 : (0 : Int) ≤ r := by omega
    have p1 : (r : Int) < 4 := by omega
    clear s3 g3
    go_wp2_with fail
    go_ret
    exact ⟨y, rfl, S3.out, G3.out⟩

/-- What can be read: m numbers, in a block from base on. -/
def Pm (w : World) (base : Nat) (A : Option Addr) (m c : Nat) (xs : List Int) : Prop :=
  xs.length = m ∧ m ≤ c ∧ (0 < m → ∃ b off, A = some ⟨b, off, none⟩ ∧ base ≤ b ∧ b < w.heap.size ∧ ∀ j, j < m → w.cell? ⟨b, off + j, none⟩ = some (.int .i64 (xs.getD j 0)))
theorem Pm.of_slc {w : World} {base n c : Nat} {A : Option Addr} {xs : List Int} (h : Slc w base A n c xs) : Pm w base A n c xs := by
  refine ⟨h.1, h.le.1, fun hp => ?_⟩
  have hri := h.ri_
  obtain ⟨b, o, e, hb, hc⟩ := hri (by rw [h.1]; exact hp)
  refine ⟨b, o, e, (h.lt_ b (by subst e; rfl)).1, hb, fun j hj => hc j (by rw [h.1]; exact hj)⟩
theorem Pm.ri {w : World} {base n c : Nat} {A : Option Addr} {xs : List Int} (h : Pm w base A n c xs) : RI w w.heap.size A xs := fun hp => by
  obtain ⟨b, o, e, h1, h2, hc⟩ := h.2.2 (by rw [← h.1]; exact hp)
  exact ⟨b, o, e, h2, fun j hj => hc j (by rw [← h.1]; exact hj)⟩
theorem Pm.gro {w w' : World} {base n c g : Nat} {A : Option Addr} {xs : List Int} (h : Pm w base A n c xs) (hg : w.grownBy w' (some g)) (hb : g < base) : Pm w' base A n c xs := by
  refine ⟨h.1, h.2.1, fun hp => ?_⟩
  obtain ⟨b, o, e, h1, h2, hc⟩ := h.2.2 hp
  exact ⟨b, o, e, h1, Nat.lt_of_lt_of_le h2 hg.size, fun j hj => (World.cell?_of_block (a := ⟨b, o + j, none⟩) (hg.block b h2 (by intro e2; injection e2 with e2; omega))).trans (hc j hj)⟩
theorem Pm.up {w w' : World} {base n c : Nat} {A : Option Addr} {xs : List Int} (h : Pm w base A n c xs) (hb : Below w.heap.size w w') : Pm w' base A n c xs := by
  refine ⟨h.1, h.2.1, fun hp => ?_⟩
  obtain ⟨b, o, e, h1, h2, hc⟩ := h.2.2 hp
  exact ⟨b, o, e, h1, Nat.lt_of_lt_of_le h2 hb.size, fun j hj => (hb.cell (p := ⟨b, o + j, none⟩) h2).trans (hc j hj)⟩
theorem Pm.mono {w : World} {base base' n c : Nat} {A : Option Addr} {xs : List Int} (h : Pm w base A n c xs) (hb : base' ≤ base) : Pm w base' A n c xs := by
  refine ⟨h.1, h.2.1, fun hp => ?_⟩
  obtain ⟨b, o, e, h1, h2, hc⟩ := h.2.2 hp
  exact ⟨b, o, e, by omega, h2, hc⟩
theorem Pm.tail {w : World} {base n c q : Nat} {xs : List Int} (h : Slc w base (some ⟨q, 0, none⟩) n c xs) {A : Option Addr} (hA : 1 < n → A = some ⟨q, 1, none⟩) : Pm w base A (n - 1) (c - 1) (xs.drop 1) := by
  refine ⟨by rw [List.length_drop, h.1], by have := h.le.1; omega, fun hp => ?_⟩
  have hri : RI w w.heap.size (some ⟨q, 0, none⟩) xs := h.ri_
  have lx := h.1
  refine ⟨q, 1, hA (by omega), (h.lt_ q rfl).1, (h.lt_ q rfl).2, fun j hj => ?_⟩
  have := (hri.cellAt (j := 1 + j) (by omega)).2
  rw [Nat.zero_add] at this
  rw [this, List.getD_eq_getElem?_getD, List.getD_eq_getElem?_getD, List.getElem?_drop]

theorem grown_below3 {w w1 w' : World} {row : Option Nat} (h : w.grownBy w1 row) (b : Below w.heap.size w1 w') : w.grownBy w' row :=
  ⟨b.os.trans h.os, b.tape.trans h.tape, b.output.trans h.output, Nat.le_trans h.size b.size, fun k hk hn => (b.block k hk).trans (h.block k hk hn)⟩
theorem drawPermK (g n : Nat) (N : Int) (w : World) (hs : Src w g) (hN : N = (n : Int)) (hn : n ≤ 100) :
    Calls Try.prog 98 #[.pointer (some ⟨g, 0, none⟩), .int .i64 N] w fun e w' => ∃ q c xs, e = .returned (.slice (some ⟨q, 0, none⟩) n c) ∧ Slc w' w.heap.size (some ⟨q, 0, none⟩) n c xs ∧ Src w' g ∧ w.grownBy w' (some g) := by
  subst hN; exact drawPerm g n w hs hn
theorem grown_far {w w1 : World} {g q : Nat} (h : w.grownBy w1 (some g)) (hq : w.heap.size ≤ q) (j : Nat) (u : Value) : w.grownBy (w1.setCell ⟨q, j, none⟩ u) (some g) :=
  ⟨h.os, h.tape, h.output, by simpa [World.setCell] using h.size, fun k hk hn => (Below.heap_setCell w1 _ u k (by show k ≠ q; omega)).trans (h.block k hk hn)⟩

set_option maxHeartbeats 4000000 in
theorem drawAny (g n : Nat) (w : World) (hs : Src w g) (h1 : 1 ≤ n) (hn : n ≤ 20) :
    Calls Try.prog 86 #[.pointer (some ⟨g, 0, none⟩), .int .i64 (n : Int)] w fun e w' => ∃ A m c xs, e = .returned (.slice A m c) ∧ Pm w' w.heap.size A m c xs ∧ m ≤ 21 ∧ Src w' g ∧ w.grownBy w' (some g) := by
  have hg := hs.lt
  go_enter Try.func86, Try.ntmps86
  go_wp2_with fail
  refine (drawPerm g n w hs (by omega)).mono ?_
  rintro e w1 ⟨q, c, xs, rfl, sl1, s1, g1⟩
  have Sl1 := Lib.hid sl1
  have S1 := Lib.hid s1
  have G1 := Lib.hid g1
  have hq := (sl1.lt_ q rfl).1
  have hnc := sl1.le.1
  clear sl1 s1 g1
  go_wp2_with fail
  refine (srcOne g _ 12 w1 S1.out rfl (by omega) (by omega)).mono ?_
  rintro e w2 ⟨b2, rfl, s2, g2⟩
  have S2 := Lib.hid s2
  have G2 : Hid (w.grownBy w2 (some g)) := Lib.hid (grown_trans' G1.out g2)
  have Sl2 : Hid (Slc w2 w.heap.size (some ⟨q, 0, none⟩) n c xs) := Lib.hid (Sl1.out.kept g2 (.inr (by intro e; simp [Value.ownBlock] at e; omega)))
  clear s2 g2
  have hn0 : 0 < n := by omega
  cases b2
  · have S4 := S2
    have G4 := G2
    have P4 := Lib.hid (Pm.of_slc Sl2.out)
    have hm4 : n ≤ 21 := by omega
    go_wp2_with fail
    refine (srcOne g _ 60 _ S4.out rfl (by omega) (by omega)).mono ?_
    rintro e w5 ⟨b5, rfl, s5, g5⟩
    have S5 := Lib.hid s5
    have G5 : Hid (w.grownBy w5 (some g)) := Lib.hid (grown_trans' G4.out g5)
    have P5 := Lib.hid (P4.out.gro g5 hg)
    clear s5 g5
    cases b5
    · go_wp2_with fail
      go_ret
      exact ⟨_, _, _, _, rfl, P5.out, hm4, S5.out, G5.out⟩
    · go_wp2_with fail
      refine (srcBelow g _ 2 w5 S5.out rfl (by omega) (by omega)).mono ?_
      rintro e w6 ⟨r6, hr6, rfl, s6, g6⟩
      have S6 := Lib.hid s6
      have G6 : Hid (w.grownBy w6 (some g)) := Lib.hid (grown_trans' G5.out g6)
      clear s6 g6
      go_wp2_with fail
      refine (drawPermK g (20 + r6) _ w6 S6.out (by push_cast; rfl) (by omega)).mono ?_
      rintro e w7 ⟨q7, c7, xs7, rfl, sl7, s7, g7⟩
      have S7 := Lib.hid s7
      have G7 : Hid (w.grownBy w7 (some g)) := Lib.hid (grown_trans' G6.out g7)
      have P7 : Hid (Pm w7 w.heap.size (some ⟨q7, 0, none⟩) (20 + r6) c7 xs7) := Lib.hid ((Pm.of_slc sl7).mono G6.out.size)
      clear s7 g7 sl7
      go_wp2_with fail
      go_ret
      exact ⟨_, _, _, _, rfl, P7.out, by omega, S7.out, G7.out⟩
  · go_wp2_with fail
    refine (srcBelow g _ 3 w2 S2.out rfl (by omega) (by omega)).mono ?_
    rintro e w3 ⟨r3, hr3, rfl, s3, g3⟩
    have S3 := Lib.hid s3
    have G3 : Hid (w.grownBy w3 (some g)) := Lib.hid (grown_trans' G2.out g3)
    have Sl3 : Hid (Slc w3 w.heap.size (some ⟨q, 0, none⟩) n c xs) := Lib.hid (Sl2.out.kept g3 (.inr (by intro e; simp [Value.ownBlock] at e; omega)))
    clear s3 g3
    obtain rfl | rfl | rfl : r3 = 0 ∨ r3 = 1 ∨ r3 = 2 := by omega
    · go_wp2_with fail
      refine (srcBelow g _ n w3 S3.out rfl (by omega) (by omega)).mono ?_
      rintro e w8 ⟨i, hi, rfl, s8, g8⟩
      have S8 := Lib.hid s8
      have G8 : Hid (w.grownBy w8 (some g)) := Lib.hid (grown_trans' G3.out g8)
      have Sl8 : Hid (Slc w8 w.heap.size (some ⟨q, 0, none⟩) n c xs) := Lib.hid (Sl3.out.kept g8 (.inr (by intro e; simp [Value.ownBlock] at e; omega)))
      clear s8 g8
      go_wp2_with fail
      refine (srcNumber g n w8 S8.out h1 (by omega)).mono ?_
      rintro e w9 ⟨z, rfl, s9, g9⟩
      have row : Row w9 w.heap.size q n c xs := Row.of_own (by have := (Sl8.out.kept g9 (.inr (by intro e; simp [Value.ownBlock] at e; omega))); have h2 := this.2; rw [← this.1] at h2; rw [this.1] at h2; exact h2)
      have c9 := row.cell hi
      have f9 := row.free i
      have p0 : (0 : Int) ≤ i := by omega
      have p1 : (i : Int) < n := by omega
      have P4 := Lib.hid (Pm.of_slc (row.store i z).slc)
      have S4 : Hid (Src (w9.setCell ⟨q, i, none⟩ (.int .i64 z)) g) := Lib.hid (s9.below ((Below.refl (g + 1) w9).setCell (by show g + 1 ≤ q; omega) _) (by omega))
      have G4 : Hid (w.grownBy (w9.setCell ⟨q, i, none⟩ (.int .i64 z)) (some g)) := Lib.hid (grown_far (grown_trans' G8.out g9) hq _ _)
      have hm4 : n ≤ 21 := by omega
      clear s9 g9 row
      go_wp2_with fail
      refine (srcOne g _ 60 _ S4.out rfl (by omega) (by omega)).mono ?_
      rintro e w5 ⟨b5, rfl, s5, g5⟩
      have S5 := Lib.hid s5
      have G5 : Hid (w.grownBy w5 (some g)) := Lib.hid (grown_trans' G4.out g5)
      have P5 := Lib.hid (P4.out.gro g5 hg)
      clear s5 g5
      cases b5
      · go_wp2_with fail
        go_ret
        exact ⟨_, _, _, _, rfl, P5.out, hm4, S5.out, G5.out⟩
      · go_wp2_with fail
        refine (srcBelow g _ 2 w5 S5.out rfl (by omega) (by omega)).mono ?_
        rintro e w6 ⟨r6, hr6, rfl, s6, g6⟩
        have S6 := Lib.hid s6
        have G6 : Hid (w.grownBy w6 (some g)) := Lib.hid (grown_trans' G5.out g6)
        clear s6 g6
        go_wp2_with fail
        refine (drawPermK g (20 + r6) _ w6 S6.out (by push_cast; rfl) (by omega)).mono ?_
        rintro e w7 ⟨q7, c7, xs7, rfl, sl7, s7, g7⟩
        have S7 := Lib.hid s7
        have G7 : Hid (w.grownBy w7 (some g)) := Lib.hid (grown_trans' G6.out g7)
        have P7 : Hid (Pm w7 w.heap.size (some ⟨q7, 0, none⟩) (20 + r6) c7 xs7) := Lib.hid ((Pm.of_slc sl7).mono G6.out.size)
        clear s7 g7 sl7
        go_wp2_with fail
        go_ret
        exact ⟨_, _, _, _, rfl, P7.out, by omega, S7.out, G7.out⟩
    · have p1 : (1 : Int) ≤ n := by omega
      have p2 : (1 : Int) ≤ c := by omega
      have S4 := S3
      have G4 := G3
      have hm4 : n - 1 ≤ 21 := by omega
      by_cases hc1 : c = 1
      · have P4 : Hid (Pm w3 w.heap.size (some ⟨q, 0, none⟩) (n - 1) 0 (xs.drop 1)) := Lib.hid (by have := Pm.tail (A := some ⟨q, 0, none⟩) Sl3.out (fun h => by omega); rw [show c - 1 = 0 by omega] at this; exact this)
        go_wp2_with fail
        refine (srcOne g _ 60 _ S4.out rfl (by omega) (by omega)).mono ?_
        rintro e w5 ⟨b5, rfl, s5, g5⟩
        have S5 := Lib.hid s5
        have G5 : Hid (w.grownBy w5 (some g)) := Lib.hid (grown_trans' G4.out g5)
        have P5 := Lib.hid (P4.out.gro g5 hg)
        clear s5 g5
        cases b5
        · go_wp2_with fail
          go_ret
          exact ⟨_, _, _, _, rfl, P5.out, hm4, S5.out, G5.out⟩
        · go_wp2_with fail
          refine (srcBelow g _ 2 w5 S5.out rfl (by omega) (by omega)).mono ?_
          rintro e w6 ⟨r6, hr6, rfl, s6, g6⟩
          have S6 := Lib.hid s6
          have G6 : Hid (w.grownBy w6 (some g)) := Lib.hid (grown_trans' G5.out g6)
          clear s6 g6
          go_wp2_with fail
          refine (drawPermK g (20 + r6) _ w6 S6.out (by push_cast; rfl) (by omega)).mono ?_
          rintro e w7 ⟨q7, c7, xs7, rfl, sl7, s7, g7⟩
          have S7 := Lib.hid s7
          have G7 : Hid (w.grownBy w7 (some g)) := Lib.hid (grown_trans' G6.out g7)
          have P7 : Hid (Pm w7 w.heap.size (some ⟨q7, 0, none⟩) (20 + r6) c7 xs7) := Lib.hid ((Pm.of_slc sl7).mono G6.out.size)
          clear s7 g7 sl7
          go_wp2_with fail
          go_ret
          exact ⟨_, _, _, _, rfl, P7.out, by omega, S7.out, G7.out⟩
      · have P4 : Hid (Pm w3 w.heap.size (some ⟨q, 1, none⟩) (n - 1) (c - 1) (xs.drop 1)) := Lib.hid (Pm.tail Sl3.out (fun _ => rfl))
        go_wp2_with fail
        refine (srcOne g _ 60 _ S4.out rfl (by omega) (by omega)).mono ?_
        rintro e w5 ⟨b5, rfl, s5, g5⟩
        have S5 := Lib.hid s5
        have G5 : Hid (w.grownBy w5 (some g)) := Lib.hid (grown_trans' G4.out g5)
        have P5 := Lib.hid (P4.out.gro g5 hg)
        clear s5 g5
        cases b5
        · go_wp2_with fail
          go_ret
          exact ⟨_, _, _, _, rfl, P5.out, hm4, S5.out, G5.out⟩
        · go_wp2_with fail
          refine (srcBelow g _ 2 w5 S5.out rfl (by omega) (by omega)).mono ?_
          rintro e w6 ⟨r6, hr6, rfl, s6, g6⟩
          have S6 := Lib.hid s6
          have G6 : Hid (w.grownBy w6 (some g)) := Lib.hid (grown_trans' G5.out g6)
          clear s6 g6
          go_wp2_with fail
          refine (drawPermK g (20 + r6) _ w6 S6.out (by push_cast; rfl) (by omega)).mono ?_
          rintro e w7 ⟨q7, c7, xs7, rfl, sl7, s7, g7⟩
          have S7 := Lib.hid s7
          have G7 : Hid (w.grownBy w7 (some g)) := Lib.hid (grown_trans' G6.out g7)
          have P7 : Hid (Pm w7 w.heap.size (some ⟨q7, 0, none⟩) (20 + r6) c7 xs7) := Lib.hid ((Pm.of_slc sl7).mono G6.out.size)
          clear s7 g7 sl7
          go_wp2_with fail
          go_ret
          exact ⟨_, _, _, _, rfl, P7.out, by omega, S7.out, G7.out⟩
    · have hz := G3.out.size
      go_wp2_with (first | (at_builtin; refine wpList_app1 rfl _ _ rfl w.heap.size (some ⟨q, 0, none⟩) n c _ rfl (Sl3.out.alloc _) w3.heap.size (n : Int) rfl (by rw [World.cell?_alloc_at _ _ _ _ rfl]; rfl) (by omega) (by simp; omega) ?_; intro A4 c4 w4 s4 g4))
      have P4 := Lib.hid (Pm.of_slc s4)
      have B4 : Below w.heap.size w3 w4 := ((Below.refl _ w3).alloc hz _).grown g4 (by simp; omega) (fun j hj => (Sl3.out.lt_ j hj).1)
      have S4 : Hid (Src w4 g) := Lib.hid (S3.out.below B4 hg)
      have G4 : Hid (w.grownBy w4 (some g)) := Lib.hid (grown_below3 G3.out B4)
      have hm4 : n + 1 ≤ 21 := by omega
      clear s4 g4 B4
      go_wp2_with fail
      refine (srcOne g _ 60 _ S4.out rfl (by omega) (by omega)).mono ?_
      rintro e w5 ⟨b5, rfl, s5, g5⟩
      have S5 := Lib.hid s5
      have G5 : Hid (w.grownBy w5 (some g)) := Lib.hid (grown_trans' G4.out g5)
      have P5 := Lib.hid (P4.out.gro g5 hg)
      clear s5 g5
      cases b5
      · go_wp2_with fail
        go_ret
        exact ⟨_, _, _, _, rfl, P5.out, hm4, S5.out, G5.out⟩
      · go_wp2_with fail
        refine (srcBelow g _ 2 w5 S5.out rfl (by omega) (by omega)).mono ?_
        rintro e w6 ⟨r6, hr6, rfl, s6, g6⟩
        have S6 := Lib.hid s6
        have G6 : Hid (w.grownBy w6 (some g)) := Lib.hid (grown_trans' G5.out g6)
        clear s6 g6
        go_wp2_with fail
        refine (drawPermK g (20 + r6) _ w6 S6.out (by push_cast; rfl) (by omega)).mono ?_
        rintro e w7 ⟨q7, c7, xs7, rfl, sl7, s7, g7⟩
        have S7 := Lib.hid s7
        have G7 : Hid (w.grownBy w7 (some g)) := Lib.hid (grown_trans' G6.out g7)
        have P7 : Hid (Pm w7 w.heap.size (some ⟨q7, 0, none⟩) (20 + r6) c7 xs7) := Lib.hid ((Pm.of_slc sl7).mono G6.out.size)
        clear s7 g7 sl7
        go_wp2_with fail
        go_ret
        exact ⟨_, _, _, _, rfl, P7.out, by omega, S7.out, G7.out⟩
end Go.Proofs.Ytoaaoikmkomofaa

/- The model's draws of numbers, with their bounds; draws of generators and of groups. Condition: at most 4096 bytes. -/
namespace Go.Proofs.Ytoaaoikmkomofaa
open Go.RowKit

/-- The bounds of an int64. -/
def B64 (z : Int) : Prop := -9223372036854775808 ≤ z ∧ z ≤ 9223372036854775807
/-- A literal row of numbers, read later. -/
theorem lit_atB {w w1 : World} {g : Nat} {cs : Array Value} {r : Nat} (hg : g < w.heap.size) (hb : (w.alloc (.cells cs 2)).grownBy w1 (some g)) (hr : r < cs.size) (hall : ∀ (i : Nat) (h : i < cs.size), ∃ z : Int, cs[i] = .int .i64 z ∧ B64 z) : ∃ z : Int, w1.cell? ⟨w.heap.size, r, none⟩ = some (.int .i64 z) ∧ B64 z := by
  obtain ⟨z, hz, hB⟩ := hall r hr
  refine ⟨z, ?_, hB⟩
  rw [World.cell?_of_block (hb.block w.heap.size (by simp) (by intro e; injection e with e; omega)), World.cell?_alloc_at _ _ _ _ rfl]
  show cs[r]? = _
  rw [Array.getElem?_eq_getElem hr, hz]

set_option maxHeartbeats 1600000 in
theorem srcExtremeB (g : Nat) (w : World) (hs : Src w g) :
    Calls Try.prog 76 #[.pointer (some ⟨g, 0, none⟩)] w fun e w' => ∃ z : Int, e = .returned (.int .i64 z) ∧ B64 z ∧ Src w' g ∧ w.grownBy w' (some g) := by
  have hg := hs.lt
  have Hs := Lib.hid hs
  clear hs
  go_enter Try.func76, Try.ntmps76
  go_wp2_with fail
  refine (srcBelow g _ 10 _ (Hs.out.below ((Below.refl w.heap.size w).alloc (Nat.le_refl _) _) hg) rfl (by omega) (by omega)).mono ?_
  rintro e w1 ⟨r, hr, rfl, s1, g1⟩
  have S1 := Lib.hid s1
  have G1 : Hid (w.grownBy w1 (some g)) := Lib.hid (grown_trans' (grown_alloc2 (grown_refl _ _) _) g1)
  obtain ⟨z, hz, hzB⟩ := lit_atB (r := r) hg g1 hr (by
    intro i h
    have h : i < 10 := h
    rcases i with _ | _ | _ | _ | _ | _ | _ | _ | _ | _ | i
    all_goals first | exact ⟨_, rfl, by unfold B64; omega⟩ | omega)
  have p0 : (0 : Int) ≤ r := by omega
  have p1 : (r : Int) < 10 := by omega
  clear s1 g1
  go_wp2_with fail
  go_ret
  exact ⟨z, rfl, hzB, S1.out, G1.out⟩

set_option maxHeartbeats 1600000 in
theorem srcNumberB (g n : Nat) (w : World) (hs : Src w g) (h1 : 1 ≤ n) (hn : n ≤ 100) :
    Calls Try.prog 85 #[.pointer (some ⟨g, 0, none⟩), .int .i64 (n : Int)] w fun e w' => ∃ z : Int, e = .returned (.int .i64 z) ∧ B64 z ∧ Src w' g ∧ w.grownBy w' (some g) := by
  go_enter Try.func85, Try.ntmps85
  go_wp2_with fail
  refine (srcOne g _ 10 w hs rfl (by omega) (by omega)).mono ?_
  rintro e w1 ⟨b, rfl, s1, g1⟩
  have S1 := Lib.hid s1
  have G1 := Lib.hid g1
  clear s1 g1
  cases b
  · go_wp2_with fail
    refine (srcOne g _ 2 w1 S1.out rfl (by omega) (by omega)).mono ?_
    rintro e w2 ⟨b, rfl, s2, g2⟩
    have S2 := Lib.hid s2
    have G2 : Hid (w.grownBy w2 (some g)) := Lib.hid (grown_trans' G1.out g2)
    clear s2 g2
    cases b
    · go_wp2_with fail
      refine (srcBelow g _ (n + 1) w2 S2.out (by omega) (by omega) (by omega)).mono ?_
      rintro e w3 ⟨r, hr, rfl, s3, g3⟩
      have S3 := Lib.hid s3
      have G3 : Hid (w.grownBy w3 (some g)) := Lib.hid (grown_trans' G2.out g3)
      clear s3 g3
      go_wp2_with fail
      go_ret
      exact ⟨r, rfl, by unfold B64; omega, S3.out, G3.out⟩
    · by_cases h4 : n ≤ 4
      · have hm : (min (n : Int) 4) = (n : Int) := by omega
        have d4 : decide ((n : Int) ≤ 4) = true := by simp; omega
        go_wp2_with fail
        refine (srcBelow g _ (n + 1) w2 S2.out (by omega) (by omega) (by omega)).mono ?_
        rintro e w3 ⟨r, hr, rfl, s3, g3⟩
        have S3 := Lib.hid s3
        have G3 : Hid (w.grownBy w3 (some g)) := Lib.hid (grown_trans' G2.out g3)
        clear s3 g3
        go_wp2_with fail
        go_ret
        exact ⟨r, rfl, by unfold B64; omega, S3.out, G3.out⟩
      · have hm : (min (n : Int) 4) = 4 := by omega
        have d4 : decide ((n : Int) ≤ 4) = false := by simp; omega
        go_wp2_with fail
        refine (srcBelow g _ (5) w2 S2.out (by omega) (by omega) (by omega)).mono ?_
        rintro e w3 ⟨r, hr, rfl, s3, g3⟩
        have S3 := Lib.hid s3
        have G3 : Hid (w.grownBy w3 (some g)) := Lib.hid (grown_trans' G2.out g3)
        clear s3 g3
        go_wp2_with fail
        go_ret
        exact ⟨r, rfl, by unfold B64; omega, S3.out, G3.out⟩
  · go_wp2_with fail
    refine (srcExtremeB g w1 S1.out).mono ?_
    rintro e w2 ⟨z, rfl, hzB, s2, g2⟩
    have S2 := Lib.hid s2
    have hg2 := s2.lt
    have G2 : Hid (w.grownBy w2 (some g)) := Lib.hid (grown_trans' G1.out g2)
    clear s2 g2
    go_wp2_with fail
    refine (srcBelow g _ 4 _ (S2.out.below ((Below.refl w2.heap.size w2).alloc (Nat.le_refl _) _) hg2) rfl (by omega) (by omega)).mono ?_
    rintro e w3 ⟨r, hr, rfl, s3, g3⟩
    have S3 := Lib.hid s3
    have G3 : Hid (w.grownBy w3 (some g)) := Lib.hid (grown_trans' (grown_alloc2 G2.out _) g3)
    obtain ⟨y, hy, hyB⟩ := lit_atB (r := r) hg2 g3 hr (by
      intro i h
      have h : i < 4 := h
      rcases i with _ | _ | _ | _ | i
      all_goals first | exact ⟨_, rfl, by unfold B64; omega⟩ | exact ⟨_, rfl, hzB⟩ | omega)
    have p0 : (0 : Int) ≤ r := by omega
    have p1 : (r : Int) < 4 := by omega
    clear s3 g3
    go_wp2_with fail
    go_ret
    exact ⟨y, rfl, hyB, S3.out, G3.out⟩


section
variable {w w' : World} {base n c : Nat} {A : Option Addr} {vs : List SV} {xss : List (List Int)}
/-- Kept where a block turned that is none of its own. -/
theorem SS.farR {r lo hi : Nat} (h : SS w base base A n c vs xss) (hg : w.grownBy w' (some r)) (hA : ∀ k, (Value.slice A n c).ownBlock = some k → lo ≤ k ∧ k < hi) (hI : ∀ i, i < n → ∀ k, (sval (vs.getD i sd0)).ownBlock = some k → lo ≤ k ∧ k < hi) (hr : r < lo ∨ hi ≤ r) : SS w' base base A n c vs xss := by
  have ne : ∀ (v : Value), (∀ k, v.ownBlock = some k → lo ≤ k ∧ k < hi) → v.ownBlock = none ∨ v.ownBlock ≠ some r := fun v hv => by
    rcases e : v.ownBlock with _ | k
    · exact .inl rfl
    · exact .inr fun e2 => by injection e2 with e2; have := hv k e; omega
  exact ⟨World.ownsRow.kept h.own hg (ne _ hA), h.lv, h.lx, fun i hi' => (h.row i hi').kept hg (ne _ (hI i hi')), h.dis⟩
/-- A slice that can be read, appended onto a slice of slices of the call's own. -/
theorem wpList_app2R {ops : Array Oper} {rest : List Oper} {o : Oper} {a : Act} {Q : Exit → Act → World → Prop} (hgd : o.guard = none) (s x : Operand)
    (ho : o.op = .call { callee := .builtin .append, args := #[s, x], argTypes := #[24, 24] })
    (hs : a.eval s = .slice A n c) (hss : SS w base base A n c vs xss) (g : Nat) (dA : Option Addr) (dn dc lo : Nat) (ys : List Int) (hx : a.eval x = .slice (some ⟨g, 0, none⟩) 1 1)
    (hcell : w.cell? ⟨g, 0, none⟩ = some (.slice dA dn dc)) (hys : Pm w lo dA dn dc ys) (hlo : ∀ k, (Value.slice A n c).ownBlock = some k → k < lo) (hn : n ≤ 1000000000) (hbase : base ≤ w.heap.size)
    (h : ∀ A' c' w', RR w' w'.heap.size A' (n + 1) (vs ++ [(dA, dn, dc)]) (xss ++ [ys]) → w.grownBy w' (Value.slice A n c).ownBlock → wpList Try.prog ops Q rest (a.put o.dst (.slice A' (n + 1) c')) w') : wpList Try.prog ops Q (o :: rest) a w := by
  obtain ⟨i0, hi, hz0, hz1, hz2⟩ := info_parts infoS
  refine wpList_append_own (w := w) hgd s x 24 ho base 25 i0 (.slice none 0 0) 1 24 Try.underlying24 hi hz0 hz1 hz2 rfl (by decide) _ n _ hs hss.own ⟨g, 0, none⟩ 1 1 [.slice dA dn dc] hx rfl ?_ ?_ ?_ (by omega) hbase ?_
  · intro j v hj
    match j, hj with
    | 0, hj => simp at hj; subst hj; simpa [Addr.add] using hcell
    | j + 1, hj => simp at hj
  · intro v hv; simp at hv; subst hv; rfl
  · unfold maxLen; omega
  · intro v' w' hown' hg _
    rcases hown'.2 with ⟨rfl, h0⟩ | ⟨g', cap, cur, rfl, hb', hg', hnc, _⟩
    · omega
    · refine h (some ⟨g', 0, none⟩) cap w' ⟨by simp [hss.lv], by simp [hss.lx], fun _ => ⟨g', 0, rfl, (Array.getElem?_eq_some_iff.1 hg').1, fun j hj => ?_⟩, fun j hj => ?_, fun j hj => ?_, fun j hj => ?_⟩ hg
      · rw [Nat.zero_add, hown'.cellAt j (by omega)]
        by_cases e : j < n
        · rw [List.getElem?_append_left (by rw [List.length_map, hss.lv]; exact e), List.getElem?_map, getD_app _ _ _ _ (by rw [hss.lv]; exact e), List.getD_eq_getElem?_getD, List.getElem?_eq_getElem (by rw [hss.lv]; exact e)]; rfl
        · obtain rfl : j = n := by omega
          rw [List.getElem?_append_right (by rw [List.length_map, hss.lv]; exact Nat.le_refl _), List.length_map, hss.lv, Nat.sub_self, getD_snoc _ _ _ _ hss.lv.symm]; rfl
      · by_cases e : j < n
        · rw [getD_app _ _ _ _ (by rw [hss.lv]; exact e), getD_app _ _ _ _ (by rw [hss.lx]; exact e)]
          exact ((hss.row j e).kept hg (apart_types (hss.row j e) hss.own)).ri_
        · obtain rfl : j = n := by omega
          rw [getD_snoc _ _ _ _ hss.lv.symm, getD_snoc _ _ _ _ hss.lx.symm]
          intro hp
          obtain ⟨b, off, e1, h1, h2, hc⟩ := hys.2.2 (by rw [← hys.1]; exact hp)
          refine ⟨b, off, e1, Nat.lt_of_lt_of_le h2 hg.size, fun t ht => (World.cell?_of_block (a := ⟨b, off + t, none⟩) (hg.block b h2 fun e2 => ?_)).trans (hc t (by rw [← hys.1]; exact ht))⟩
          have := hlo b e2.symm
          omega
      · by_cases e : j < n
        · rw [getD_app _ _ _ _ (by rw [hss.lx]; exact e), getD_app _ _ _ _ (by rw [hss.lv]; exact e)]; exact (hss.row j e).1
        · obtain rfl : j = n := by omega
          rw [getD_snoc _ _ _ _ hss.lx.symm, getD_snoc _ _ _ _ hss.lv.symm]; exact hys.1
      · by_cases e : j < n
        · rw [getD_app _ _ _ _ (by rw [hss.lv]; exact e)]; exact (hss.row j e).le.1
        · obtain rfl : j = n := by omega
          rw [getD_snoc _ _ _ _ hss.lv.symm]; exact hys.2.1
end
theorem wrap_pos2 (k : Nat) (h : k ≤ 1000) : IntKind.i64.wrap ((k : Int) + 1) = (k : Int) + 1 := by rw [IntKind.wrap_i64]; omega
theorem grown_new2 {a b c : World} {g : Nat} {row : Option Nat} (h : a.grownBy b (some g)) (h2 : b.grownBy c row) (hr : ∀ j, row = some j → a.heap.size ≤ j) : a.grownBy c (some g) :=
  ⟨h2.os.trans h.os, h2.tape.trans h.tape, h2.output.trans h.output, Nat.le_trans h.size h2.size, fun i hi hne => (h2.block i (Nat.lt_of_lt_of_le hi h.size) (fun e => by have := hr _ e.symm; omega)).trans (h.block i hi hne)⟩
theorem Src.gro2 {g : Nat} {row : Option Nat} {w w' : World} (h : Src w g) (hb : w.grownBy w' row) (hg : ∀ r, row = some r → g < r) : Src w' g := by
  obtain ⟨A, len, cap, k, x, h1, h2, h3, h4⟩ := h
  refine ⟨A, len, cap, k, x, h1, h2, h3.keep fun p hp => World.cell?_of_block (hb.block p.block (by have := h4.lt; omega) (fun e => by have := hg _ e.symm; omega)), h4.grown hb (fun e => by have := hg _ e.symm; omega)⟩

set_option maxHeartbeats 4000000 in
set_option maxRecDepth 100000 in
/-- drawGenerators. -/
theorem drawGens (g n : Nat) (w : World) (hs : Src w g) (h1 : 1 ≤ n) (hn : n ≤ 20) :
    Calls Try.prog 83 #[.pointer (some ⟨g, 0, none⟩), .int .i64 (n : Int)] w fun e w' => ∃ A m c us xss, e = .returned (.slice A m c) ∧ SS w' w.heap.size w.heap.size A m c us xss ∧ (∀ i, i < m → (us.getD i sd0).2.1 = n) ∧ m ≤ 3 ∧ Src w' g ∧ w.grownBy w' (some g) := by
  have hg := hs.lt
  have Sr0 : Hid (Src (w.alloc (.cells #[] 25)) g) := Lib.hid (hs.below ((Below.refl w.heap.size w).alloc (Nat.le_refl _) _) hg)
  have Ss0 := Lib.hid (SS.lit0 w w.heap.size w.heap.size (Nat.le_refl _))
  have G0 : Hid (w.grownBy (w.alloc (.cells #[] 25)) (some g)) := Lib.hid (grown_alloc2 (grown_refl _ _) _)
  clear hs
  go_enter Try.func83, Try.ntmps83
  go_wp2_with fail
  refine (srcBelow g _ 3 _ Sr0.out rfl (by omega) (by omega)).mono ?_
  rintro e w1 ⟨r, hr, rfl, s1, g1⟩
  have Sr1 := Lib.hid s1
  have Ss1 : Hid (SS w1 w.heap.size w.heap.size (some ⟨w.heap.size, 0, none⟩) 0 0 [] []) := Lib.hid (Ss0.out.farR (lo := w.heap.size) (hi := w.heap.size + 1) g1 (fun k e => by simp [Value.ownBlock] at e; omega) (fun i hi => absurd hi (by omega)) (.inl hg))
  have G1 : Hid (w.grownBy w1 (some g)) := Lib.hid (grown_trans' G0.out g1)
  have wr1 : IntKind.i64.wrap (1 + (r : Int)) = ((r + 1 : Nat) : Int) := by rw [IntKind.wrap_i64]; omega
  clear s1 g1 Sr0 Ss0 G0
  go_wp2_with fail
  go_loopg [5, 6] 4 (fun gg v kk wr => ∃ (k : Nat) (A : Option Addr) (m c : Nat) (us : List SV) (xss : List (List Int)), m + k ≤ 3 ∧ k ≤ gg ∧ kk = .int .i64 (k : Nat) ∧ v = .slice A m c ∧ SS wr w.heap.size w.heap.size A m c us xss ∧ (∀ i, i < m → (us.getD i sd0).2.1 = n) ∧ Src wr g ∧ w.grownBy wr (some g))
  case atStart => exact ⟨r + 1, _, 0, _, [], [], by omega, by omega, rfl, rfl, Ss1.out, fun i hi => absurd hi (by omega), Sr1.out, G1.out⟩
  case round =>
    clear Sr1 Ss1 G1 wr1
    obtain ⟨k0, A, m, c, us, xss, hmk, hgk, rfl, rfl, ss, ln, sr, gr⟩ := hrel
    have Ss := Lib.hid ss
    have Ln := Lib.hid ln
    have Sr := Lib.hid sr
    have Gr := Lib.hid gr
    have hwz : w.heap.size ≤ wr.heap.size := gr.size
    clear ss ln sr gr
    by_cases hk0 : 0 < k0
    · obtain ⟨k, rfl⟩ : ∃ k, k0 = k + 1 := ⟨k0 - 1, by omega⟩
      have wk : IntKind.i64.wrap (((k + 1 : Nat) : Int) - 1) = (k : Int) := by rw [IntKind.wrap_i64]; omega
      have LA : Hid (∀ j, (Value.slice A m c).ownBlock = some j → w.heap.size ≤ j ∧ j < wr.heap.size) := Lib.hid Ss.out.lt_
      have LI : Hid (∀ t, t < m → ∀ j, (sval (us.getD t sd0)).ownBlock = some j → w.heap.size ≤ j ∧ j < wr.heap.size) := Lib.hid fun t ht => (Ss.out.row t ht).lt_
      go_wp2_with fail
      refine (specIdent n wr (by omega)).mono ?_
      rintro e w2 ⟨A1, c1, rfl, s2, b2⟩
      have Sr2 := Lib.hid (Sr.out.below b2 Sr.out.lt)
      have Ss2 := Lib.hid (Ss.out.up b2)
      have G2 : Hid (w.grownBy w2 (some g)) := Lib.hid (grown_below2 Gr.out b2)
      rcases Slc.at_ s2 with ⟨_, _, e0, _⟩ | ⟨q, rfl, hq1, hq2⟩
      · omega
      have Sl2 := Lib.hid s2
      have hz2 := b2.size
      clear s2 b2
      go_wp2_with fail
      refine (srcBelow g _ 4 w2 Sr2.out rfl (by omega) (by omega)).mono ?_
      rintro e w3 ⟨r3, hr3, rfl, s3, g3⟩
      have Sr3 := Lib.hid s3
      have Ss3 := Lib.hid (Ss2.out.farR g3 LA.out LI.out (.inl hg))
      have Sl3 : Hid (Slc w3 wr.heap.size (some ⟨q, 0, none⟩) n c1 (idL n)) := Lib.hid (Sl2.out.kept g3 (.inr (by simp [Value.ownBlock]; omega)))
      have G3 : Hid (w.grownBy w3 (some g)) := Lib.hid (grown_trans' G2.out g3)
      have hz3 := g3.size
      clear s3 g3
      obtain rfl | rfl | hr23 : r3 = 0 ∨ r3 = 1 ∨ (r3 = 2 ∨ r3 = 3) := by omega
      · clear Sl3 Sl2 hq1 hq2
        go_wp2_with fail
        refine (drawPermK g n _ w3 Sr3.out rfl (by omega)).mono ?_
        rintro e w4 ⟨q, c1, ys, rfl, s4, r4, g4⟩
        have Sr4 := Lib.hid r4
        have Ss4 := Lib.hid (Ss3.out.farR g4 LA.out LI.out (.inl hg))
        have hq1 : wr.heap.size ≤ q := by have := (s4.lt_ q rfl).1; omega
        have Sl4 : Hid (Slc w4 w.heap.size (some ⟨q, 0, none⟩) n c1 ys) := Lib.hid (s4.mono (by omega))
        have G4 : Hid (w.grownBy w4 (some g)) := Lib.hid (grown_trans' G3.out g4)
        clear s4 r4 g4
        have D5 := Lib.hid (show ∀ t, t < m → (sval (us.getD t sd0)).ownBlock = none ∨ (sval (us.getD t sd0)).ownBlock ≠ (Value.slice (some ⟨q, 0, none⟩) n c1).ownBlock from fun t ht => by
          rcases e9 : (sval (us.getD t sd0)).ownBlock with _ | z
          · exact .inl rfl
          · exact .inr fun e8 => by have := (LI.out t ht z e9).2; simp [Value.ownBlock] at e8; omega)
        have hzT : w.heap.size ≤ w4.heap.size := G4.out.size
        go_wp2_with (first
          | (at_builtin
             refine wpList_app2 rfl _ _ rfl rfl (Ss4.out.alloc _) w4.heap.size (some ⟨q, 0, none⟩) n c1 ys rfl (by rw [World.cell?_alloc_at _ _ _ _ rfl]; rfl) ((Sl4.out).alloc _) D5.out (by omega) (by simp; omega) ?_
             intro A7 c7 w7 ss7 g7))
        have S7 : Hid (SS w7 w.heap.size w.heap.size A7 (m + 1) c7 (us ++ [(some ⟨q, 0, none⟩, n, c1)]) (xss ++ [ys])) := Lib.hid ss7
        have Sr7 : Hid (Src w7 g) := Lib.hid ((Sr4.out.below ((Below.refl w4.heap.size w4).alloc (Nat.le_refl _) (.cells #[.slice (some ⟨q, 0, none⟩) n c1] 25)) Sr4.out.lt).gro2 g7 (fun j hj => by have := (Ss4.out.lt_ j hj).1; omega))
        have G7 : Hid (w.grownBy w7 (some g)) := Lib.hid (grown_new2 (grown_alloc2 G4.out (.cells #[.slice (some ⟨q, 0, none⟩) n c1] 25)) g7 (fun j hj => (Ss4.out.lt_ j hj).1))
        have Ln7 : Hid (∀ i, i < m + 1 → ((us ++ [((some ⟨q, 0, none⟩, n, c1) : SV)]).getD i sd0).2.1 = n) := Lib.hid fun i hi => by
          by_cases e9 : i < m
          · rw [getD_app _ _ _ _ (by rw [Ss4.out.lv]; exact e9)]; exact Ln.out i e9
          · rw [getD_snoc _ _ _ _ (by rw [Ss4.out.lv]; omega)]
        clear ss7 g7
        go_wp2_with fail
        go_roundg k
        case rel => exact ⟨k, A7, m + 1, c7, _, _, by omega, by omega, by go_num, rfl, S7.out, Ln7.out, Sr7.out, G7.out⟩
        case measure => omega
      · have row3 : Hid (Row w3 wr.heap.size q n c1 (idL n)) := Lib.hid (Row.of_own (by have h2 := Sl3.out.2; rw [← Sl3.out.1] at h2 ⊢; exact h2))
        go_wp2_with fail
        obtain ⟨wl, rfl⟩ : ∃ wl, wl = wr := ⟨_, rfl⟩
        go_loopg [8] n (fun gg iv wr2 => ∃ (i : Nat) (ys : List Int), i ≤ n ∧ n - i ≤ gg ∧ iv = .int .i64 (i : Nat) ∧ Row wr2 wl.heap.size q n c1 ys ∧ SS wr2 w.heap.size w.heap.size A m c us xss ∧ Src wr2 g ∧ w.grownBy wr2 (some g))
        case atStart => exact ⟨0, _, Nat.zero_le _, by omega, rfl, row3.out, Ss3.out, Sr3.out, G3.out⟩
        case round =>
          obtain ⟨i, ys, hi, hgi, rfl, row, ss5, sr5, g5⟩ := hrel
          have Ro := Lib.hid row
          have Ss5 := Lib.hid ss5
          have Sr5 := Lib.hid sr5
          have G5 := Lib.hid g5
          clear row ss5 sr5 g5
          by_cases hil : i < n
          · have c5 := Ro.out.cell hil
            have f5 := Ro.out.free i
            obtain ⟨u, hu⟩ : ∃ u, ((i : Int) + 1).tmod (n : Int) = u := ⟨_, rfl⟩
            have wi := wrap_pos2 i (by omega)
            have hn0 : ¬ ((n : Int) = 0) := by omega
            have p0 : (0 : Int) ≤ i := by omega
            have p1 : (i : Int) < n := by omega
            have Ro6 := Lib.hid (Ro.out.store i u)
            have Ss6 : Hid (SS (wr.setCell ⟨q, i, none⟩ (.int .i64 u)) w.heap.size w.heap.size A m c us xss) := Lib.hid (Ss5.out.farR (r := q) (grown_set (grown_refl _ _) _ _) LA.out LI.out (.inr hq1))
            have Sr6 : Hid (Src (wr.setCell ⟨q, i, none⟩ (.int .i64 u)) g) := Lib.hid (Sr5.out.gro (grown_set (grown_refl _ (some q)) i _) (by omega))
            have G6 : Hid (w.grownBy (wr.setCell ⟨q, i, none⟩ (.int .i64 u)) (some g)) := Lib.hid (grown_far G5.out (by omega) i _)
            obtain ⟨z5, hz5⟩ : ∃ z5, ys.getD i 0 = z5 := ⟨_, rfl⟩
            rw [hz5] at c5
            clear hz5
            go_wp2_with fail
            go_roundg (n - (i + 1))
            case rel => exact ⟨i + 1, _, by omega, by omega, by go_num, Ro6.out, Ss6.out, Sr6.out, G6.out⟩
            case measure => omega
          · have hin : i = n := by omega
            have Sl5 : Hid (Slc wr w.heap.size (some ⟨q, 0, none⟩) n c1 ys) := Lib.hid (Ro.out.slc.mono (by omega))
            clear hin
            have D5 := Lib.hid (show ∀ t, t < m → (sval (us.getD t sd0)).ownBlock = none ∨ (sval (us.getD t sd0)).ownBlock ≠ (Value.slice (some ⟨q, 0, none⟩) n c1).ownBlock from fun t ht => by
              rcases e9 : (sval (us.getD t sd0)).ownBlock with _ | z
              · exact .inl rfl
              · exact .inr fun e8 => by have := (LI.out t ht z e9).2; simp [Value.ownBlock] at e8; omega)
            have hzT : w.heap.size ≤ wr.heap.size := G5.out.size
            go_wp2_with (first
              | (at_builtin
                 refine wpList_app2 rfl _ _ rfl rfl (Ss5.out.alloc _) wr.heap.size (some ⟨q, 0, none⟩) n c1 ys rfl (by rw [World.cell?_alloc_at _ _ _ _ rfl]; rfl) ((Sl5.out).alloc _) D5.out (by omega) (by simp; omega) ?_
                 intro A7 c7 w7 ss7 g7))
            have S7 : Hid (SS w7 w.heap.size w.heap.size A7 (m + 1) c7 (us ++ [(some ⟨q, 0, none⟩, n, c1)]) (xss ++ [ys])) := Lib.hid ss7
            have Sr7 : Hid (Src w7 g) := Lib.hid ((Sr5.out.below ((Below.refl wr.heap.size wr).alloc (Nat.le_refl _) (.cells #[.slice (some ⟨q, 0, none⟩) n c1] 25)) Sr5.out.lt).gro2 g7 (fun j hj => by have := (Ss5.out.lt_ j hj).1; omega))
            have G7 : Hid (w.grownBy w7 (some g)) := Lib.hid (grown_new2 (grown_alloc2 G5.out (.cells #[.slice (some ⟨q, 0, none⟩) n c1] 25)) g7 (fun j hj => (Ss5.out.lt_ j hj).1))
            have Ln7 : Hid (∀ i, i < m + 1 → ((us ++ [((some ⟨q, 0, none⟩, n, c1) : SV)]).getD i sd0).2.1 = n) := Lib.hid fun i hi => by
              by_cases e9 : i < m
              · rw [getD_app _ _ _ _ (by rw [Ss5.out.lv]; exact e9)]; exact Ln.out i e9
              · rw [getD_snoc _ _ _ _ (by rw [Ss5.out.lv]; omega)]
            clear ss7 g7
            go_wp2_with fail
            go_roundg k
            case rel => exact ⟨k, A7, m + 1, c7, _, _, by omega, by omega, by go_num, rfl, S7.out, Ln7.out, Sr7.out, G7.out⟩
            case measure => omega
      · have d30 : ((r3 : Int) == 0) = false := by simp; omega
        have d31 : ((r3 : Int) == 1) = false := by simp; omega
        clear hr23 hr3
        go_wp2_with fail
        refine (srcBelow g _ n w3 Sr3.out rfl (by omega) (by omega)).mono ?_
        rintro e w4 ⟨x, hx, rfl, s4, g4⟩
        have Sr4 := Lib.hid s4
        have Ss4 := Lib.hid (Ss3.out.farR g4 LA.out LI.out (.inl hg))
        have Sl4 : Hid (Slc w4 wr.heap.size (some ⟨q, 0, none⟩) n c1 (idL n)) := Lib.hid (Sl3.out.kept g4 (.inr (by simp [Value.ownBlock]; omega)))
        have G4 : Hid (w.grownBy w4 (some g)) := Lib.hid (grown_trans' G3.out g4)
        clear s4 g4
        go_wp2_with fail
        refine (srcBelow g _ n w4 Sr4.out rfl (by omega) (by omega)).mono ?_
        rintro e w5 ⟨y, hy, rfl, s5, g5⟩
        have Sr5 := Lib.hid s5
        have Ss5 := Lib.hid (Ss4.out.farR g5 LA.out LI.out (.inl hg))
        have Sl5 : Hid (Slc w5 wr.heap.size (some ⟨q, 0, none⟩) n c1 (idL n)) := Lib.hid (Sl4.out.kept g5 (.inr (by simp [Value.ownBlock]; omega)))
        have G5 : Hid (w.grownBy w5 (some g)) := Lib.hid (grown_trans' G4.out g5)
        clear s5 g5
        have row5 : Row w5 wr.heap.size q n c1 (idL n) := Row.of_own (by have h2 := Sl5.out.2; rw [← Sl5.out.1] at h2 ⊢; exact h2)
        have c5 := row5.cell hx
        have f5 := row5.free x
        rw [idL_getD hx] at c5
        have row6 := row5.store x (y : Int)
        have c6 := row6.cell hy
        have f6 := row6.free y
        obtain ⟨z6, hz6⟩ : ∃ z6, ((idL n).set x (y : Int)).getD y 0 = z6 := ⟨_, rfl⟩
        rw [hz6] at c6
        have Ro7 := Lib.hid (row6.store y (x : Int))
        obtain ⟨w6, hw6⟩ : ∃ w6, w5.setCell ⟨q, x, none⟩ (.int .i64 (y : Int)) = w6 := ⟨_, rfl⟩
        have Ss6 : Hid (SS w6 w.heap.size w.heap.size A m c us xss) := Lib.hid (by rw [← hw6]; exact Ss5.out.farR (r := q) (grown_set (grown_refl _ _) _ _) LA.out LI.out (.inr hq1))
        have Sr6 : Hid (Src w6 g) := Lib.hid (by rw [← hw6]; exact Sr5.out.gro (grown_set (grown_refl _ (some q)) x _) (by omega))
        have G6 : Hid (w.grownBy w6 (some g)) := Lib.hid (by rw [← hw6]; exact grown_far G5.out (by omega) x _)
        have Ss8 : Hid (SS (w6.setCell ⟨q, y, none⟩ (.int .i64 (x : Int))) w.heap.size w.heap.size A m c us xss) := Lib.hid (Ss6.out.farR (r := q) (grown_set (grown_refl _ _) _ _) LA.out LI.out (.inr hq1))
        have Sr8 : Hid (Src (w6.setCell ⟨q, y, none⟩ (.int .i64 (x : Int))) g) := Lib.hid (Sr6.out.gro (grown_set (grown_refl _ (some q)) y _) (by omega))
        have G8 : Hid (w.grownBy (w6.setCell ⟨q, y, none⟩ (.int .i64 (x : Int))) (some g)) := Lib.hid (grown_far G6.out (by omega) y _)
        obtain ⟨w8, hw8⟩ : ∃ w8, w6.setCell ⟨q, y, none⟩ (.int .i64 (x : Int)) = w8 := ⟨_, rfl⟩
        rw [hw8] at Ss8 Sr8 G8
        rw [hw6] at c6 f6 Ro7
        rw [hw8] at Ro7
        have Sl8 : Hid (Slc w8 w.heap.size (some ⟨q, 0, none⟩) n c1 (((idL n).set x (y : Int)).set y (x : Int))) := Lib.hid (Ro7.out.slc.mono (by omega))
        have x0 : (0 : Int) ≤ x := by omega
        have x1 : (x : Int) < n := by omega
        have y0 : (0 : Int) ≤ y := by omega
        have y1 : (y : Int) < n := by omega
        clear row5 row6 hz6
        have D5 := Lib.hid (show ∀ t, t < m → (sval (us.getD t sd0)).ownBlock = none ∨ (sval (us.getD t sd0)).ownBlock ≠ (Value.slice (some ⟨q, 0, none⟩) n c1).ownBlock from fun t ht => by
          rcases e9 : (sval (us.getD t sd0)).ownBlock with _ | z
          · exact .inl rfl
          · exact .inr fun e8 => by have := (LI.out t ht z e9).2; simp [Value.ownBlock] at e8; omega)
        have hzT : w.heap.size ≤ w8.heap.size := G8.out.size
        go_wp2_with (first
          | (at_builtin
             refine wpList_app2 rfl _ _ rfl rfl (Ss8.out.alloc _) w8.heap.size (some ⟨q, 0, none⟩) n c1 (((idL n).set x (y : Int)).set y (x : Int)) rfl (by rw [World.cell?_alloc_at _ _ _ _ rfl]; rfl) ((Sl8.out).alloc _) D5.out (by omega) (by simp; omega) ?_
             intro A7 c7 w7 ss7 g7))
        have S7 : Hid (SS w7 w.heap.size w.heap.size A7 (m + 1) c7 (us ++ [(some ⟨q, 0, none⟩, n, c1)]) (xss ++ [(((idL n).set x (y : Int)).set y (x : Int))])) := Lib.hid ss7
        have Sr7 : Hid (Src w7 g) := Lib.hid ((Sr8.out.below ((Below.refl w8.heap.size w8).alloc (Nat.le_refl _) (.cells #[.slice (some ⟨q, 0, none⟩) n c1] 25)) Sr8.out.lt).gro2 g7 (fun j hj => by have := (Ss8.out.lt_ j hj).1; omega))
        have G7 : Hid (w.grownBy w7 (some g)) := Lib.hid (grown_new2 (grown_alloc2 G8.out (.cells #[.slice (some ⟨q, 0, none⟩) n c1] 25)) g7 (fun j hj => (Ss8.out.lt_ j hj).1))
        have Ln7 : Hid (∀ i, i < m + 1 → ((us ++ [((some ⟨q, 0, none⟩, n, c1) : SV)]).getD i sd0).2.1 = n) := Lib.hid fun i hi => by
          by_cases e9 : i < m
          · rw [getD_app _ _ _ _ (by rw [Ss8.out.lv]; exact e9)]; exact Ln.out i e9
          · rw [getD_snoc _ _ _ _ (by rw [Ss8.out.lv]; omega)]
        clear ss7 g7
        go_wp2_with fail
        go_roundg k
        case rel => exact ⟨k, A7, m + 1, c7, _, _, by omega, by omega, by go_num, rfl, S7.out, Ln7.out, Sr7.out, G7.out⟩
        case measure => omega
    · have hk00 : k0 = 0 := by omega
      subst hk00
      go_wp2_with fail
      go_ret
      exact ⟨_, _, _, _, _, rfl, Ss.out, Ln.out, by omega, Sr.out, Gr.out⟩

theorem SS.lens_le {w : World} {bo bi n c : Nat} {A : Option Addr} {us : List SV} {xss : List (List Int)} (_h : SS w bo bi A n c us xss) {N : Nat} (hl : ∀ i, i < n → (us.getD i sd0).2.1 = N) (hN : N ≤ 21) : ∀ i, i < n → (us.getD i sd0).2.1 ≤ 21 := fun i hi => by rw [hl i hi]; exact hN

set_option maxHeartbeats 4000000 in
set_option maxRecDepth 100000 in
/-- drawGroup. -/
theorem drawGroupT (g : Nat) (w : World) (hs : Src w g) :
    Calls Try.prog 53 #[.pointer (some ⟨g, 0, none⟩)] w fun e w' => ∃ (z : Int) (A : Option Addr) (m c : Nat) (vs : List SV) (xss : List (List Int)), e = .returned (.tuple #[.int .i64 z, .slice A m c]) ∧ B64 z ∧ RR w' w'.heap.size A m vs xss ∧ m ≤ 9 ∧ (∀ i, i < m → (vs.getD i sd0).2.1 ≤ 21) ∧ Src w' g ∧ w.grownBy w' (some g) := by
  have hg := hs.lt
  go_enter Try.func53, Try.ntmps53
  go_wp2_with fail
  refine (srcBetween g 2 5 w hs (by omega) (by omega)).mono ?_
  rintro e w1 ⟨n1, h11, h12, rfl, s1, g1⟩
  have Sr1 := Lib.hid s1
  have G1 := Lib.hid g1
  clear s1 g1 hs
  go_wp2_with fail
  refine (srcOne g _ 6 w1 Sr1.out rfl (by omega) (by omega)).mono ?_
  rintro e w2 ⟨b, rfl, s2, g2⟩
  have Sr2 := Lib.hid s2
  have G2 : Hid (w.grownBy w2 (some g)) := Lib.hid (grown_trans' G1.out g2)
  clear s2 g2
  go_upto_if 9 with fail
  go_cut [4] from 6 to 48 (fun nn wx => ∃ n : Nat, 1 ≤ n ∧ n ≤ 7 ∧ nn = .int .i64 (n : Nat) ∧ Src wx g ∧ w.grownBy wx (some g))
  case first =>
    cases b
    · go_wp2_with fail
      go_meet
      exact ⟨n1, by omega, by omega, rfl, Sr2.out, G2.out⟩
    · go_wp2_with fail
      refine (srcBetween g 1 7 w2 Sr2.out (by omega) (by omega)).mono ?_
      rintro e w3 ⟨n3, h31, h32, rfl, s3, g3⟩
      have Sr3 := Lib.hid s3
      have G3 : Hid (w.grownBy w3 (some g)) := Lib.hid (grown_trans' G2.out g3)
      clear s3 g3
      go_wp2_with fail
      go_meet
      exact ⟨n3, by omega, by omega, rfl, Sr3.out, G3.out⟩
  case rest =>
    obtain ⟨n, hn1, hn7, rfl, src, grc⟩ := hcut
    have Sr3 := Lib.hid src
    have G3 := Lib.hid grc
    clear src grc Sr2 G2 Sr1 G1
    go_wp2_with fail
    refine (drawGens g n wc Sr3.out hn1 (by omega)).mono ?_
    rintro e w4 ⟨A, m, c, us, xss, rfl, ss4, ln4, hm4, s4, g4⟩
    have Ss4 := Lib.hid ss4
    have Ln4 := Lib.hid ln4
    have Sr4 := Lib.hid s4
    have G4 : Hid (w.grownBy w4 (some g)) := Lib.hid (grown_trans' G3.out g4)
    have hgc : g < wc.heap.size := Sr3.out.lt
    have hz4 := G4.out.size
    have LA : Hid (∀ j, (Value.slice A m c).ownBlock = some j → wc.heap.size ≤ j ∧ j < w4.heap.size) := Lib.hid ss4.lt_
    have LI : Hid (∀ t, t < m → ∀ j, (sval (us.getD t sd0)).ownBlock = some j → wc.heap.size ≤ j ∧ j < w4.heap.size) := Lib.hid fun t ht => (ss4.row t ht).lt_
    have hzc4 := g4.size
    clear ss4 ln4 s4 g4
    go_wp2_with fail
    refine (srcOne g _ 20 w4 Sr4.out rfl (by omega) (by omega)).mono ?_
    rintro e w5 ⟨b5, rfl, s5, g5⟩
    have Sr5 := Lib.hid s5
    have Ss5 := Lib.hid (Ss4.out.farR g5 LA.out LI.out (.inl hgc))
    have G5 : Hid (w.grownBy w5 (some g)) := Lib.hid (grown_trans' G4.out g5)
    have hz5 := g5.size
    clear s5 g5
    cases b5
    · go_wp2_with fail
      go_ret2
      exact ⟨_, _, _, _, us, xss, rfl, by unfold B64; omega, Ss5.out.rr, by omega, Ss5.out.lens_le Ln4.out (by omega), Sr5.out, G5.out⟩
    · go_wp2_with fail
      refine (srcBelow g _ 4 w5 Sr5.out rfl (by omega) (by omega)).mono ?_
      rintro e w6 ⟨r6, hr6, rfl, s6, g6⟩
      have Sr6 := Lib.hid s6
      have Ss6 := Lib.hid (Ss5.out.farR g6 LA.out LI.out (.inl hgc))
      have G6 : Hid (w.grownBy w6 (some g)) := Lib.hid (grown_trans' G5.out g6)
      have hz6 := g6.size
      clear s6 g6
      obtain rfl | rfl | rfl | rfl : r6 = 0 ∨ r6 = 1 ∨ r6 = 2 ∨ r6 = 3 := by omega
      · go_wp2_with fail
        refine (srcNumberB g 20 w6 Sr6.out (by omega) (by omega)).mono ?_
        rintro e w7 ⟨z7, rfl, hB7, s7, g7⟩
        have Sr7 := Lib.hid s7
        have Ss7 := Lib.hid (Ss6.out.farR g7 LA.out LI.out (.inl hgc))
        have G7 : Hid (w.grownBy w7 (some g)) := Lib.hid (grown_trans' G6.out g7)
        have HB7 := Lib.hid hB7
        clear s7 g7 hB7
        go_wp2_with fail
        go_ret2
        exact ⟨_, _, _, _, us, xss, rfl, HB7.out, Ss7.out.rr, by omega, Ss7.out.lens_le Ln4.out (by omega), Sr7.out, G7.out⟩
      · go_wp2_with fail
        refine (drawAny g n w6 Sr6.out (by omega) (by omega)).mono ?_
        rintro e w7 ⟨A7, m7, c7, ys, rfl, p7, hm7, s7, g7⟩
        have Sr7 := Lib.hid s7
        have Ss7 := Lib.hid (Ss6.out.farR g7 LA.out LI.out (.inl hgc))
        have G7 : Hid (w.grownBy w7 (some g)) := Lib.hid (grown_trans' G6.out g7)
        have P7 : Hid (Pm (w7.alloc (.cells #[.slice A7 m7 c7] 25)) w6.heap.size A7 m7 c7 ys) := Lib.hid (p7.up ((Below.refl w7.heap.size w7).alloc (Nat.le_refl _) _))
        have hz7 := G7.out.size
        have hz67 := g7.size
        have hlt7 : Hid (∀ j, (Value.slice A m c).ownBlock = some j → j < w6.heap.size) := Lib.hid fun j hj => by have := (LA.out j hj).2; omega
        clear s7 g7 p7
        go_wp2_with (first
          | (at_builtin
             refine wpList_app2R rfl _ _ rfl rfl (Ss7.out.alloc _) w7.heap.size A7 m7 c7 w6.heap.size ys rfl (by rw [World.cell?_alloc_at _ _ _ _ rfl]; rfl) P7.out hlt7.out (by omega) (by simp; omega) ?_
             intro A8 c8 w8 rr8 g8))
        have R8 := Lib.hid rr8
        have Sr8 : Hid (Src w8 g) := Lib.hid ((Sr7.out.below ((Below.refl w7.heap.size w7).alloc (Nat.le_refl _) (.cells #[.slice A7 m7 c7] 25)) Sr7.out.lt).gro2 g8 (fun j hj => by have := (LA.out j hj).1; omega))
        have G8 : Hid (w.grownBy w8 (some g)) := Lib.hid (grown_new2 (grown_alloc2 G7.out (.cells #[.slice A7 m7 c7] 25)) g8 (fun j hj => by have := (LA.out j hj).1; have := G3.out.size; omega))
        have Ln8 : Hid (∀ i, i < m + 1 → ((us ++ [((A7, m7, c7) : SV)]).getD i sd0).2.1 ≤ 21) := Lib.hid fun i hi => by
          by_cases e9 : i < m
          · rw [getD_app _ _ _ _ (by rw [Ss7.out.lv]; exact e9), Ln4.out i e9]; omega
          · rw [getD_snoc _ _ _ _ (by rw [Ss7.out.lv]; omega)]; exact hm7
        clear rr8 g8
        go_wp2_with fail
        go_ret2
        exact ⟨_, _, _, _, _, _, rfl, by unfold B64; omega, R8.out, by omega, Ln8.out, Sr8.out, G8.out⟩
      · have hw6 := G6.out.size
        have Sr7 : Hid (Src (w6.alloc (.cells #[] 25)) g) := Lib.hid (Sr6.out.below ((Below.refl w6.heap.size w6).alloc (Nat.le_refl _) _) Sr6.out.lt)
        have G7 : Hid (w.grownBy (w6.alloc (.cells #[] 25)) (some g)) := Lib.hid (grown_alloc2 G6.out _)
        go_wp2_with fail
        go_ret2
        exact ⟨_, _, 0, _, [], [], rfl, by unfold B64; omega, RR.nil_, by omega, fun i hi => absurd hi (by omega), Sr7.out, G7.out⟩
      · go_wp2_with fail
        go_loopg [5] 10 (fun gg v wr => ∃ (A : Option Addr) (m c : Nat) (us : List SV) (xss : List (List Int)), m ≤ 9 ∧ 9 - m ≤ gg ∧ v = .slice A m c ∧ SS wr wc.heap.size wc.heap.size A m c us xss ∧ (∀ i, i < m → (us.getD i sd0).2.1 = n) ∧ Src wr g ∧ w.grownBy wr (some g) ∧ wc.heap.size ≤ wr.heap.size)
        case atStart => exact ⟨_, m, _, _, _, by omega, by omega, rfl, Ss6.out, Ln4.out, Sr6.out, G6.out, by omega⟩
        case round =>
          clear LA LI Ss4 Ss5 Ss6
          obtain ⟨A, m, c, us, xss, hm9, hgm, rfl, ss, ln, sr, gr, hzc⟩ := hrel
          have Ss := Lib.hid ss
          have Ln := Lib.hid ln
          have Sr := Lib.hid sr
          have Gr := Lib.hid gr
          have LA : Hid (∀ j, (Value.slice A m c).ownBlock = some j → wc.heap.size ≤ j ∧ j < wr.heap.size) := Lib.hid ss.lt_
          have LI : Hid (∀ t, t < m → ∀ j, (sval (us.getD t sd0)).ownBlock = some j → wc.heap.size ≤ j ∧ j < wr.heap.size) := Lib.hid fun t ht => (ss.row t ht).lt_
          clear ss ln sr gr
          go_wp2_with fail
          refine (srcBelow g _ 2 wr Sr.out rfl (by omega) (by omega)).mono ?_
          rintro e w7 ⟨r7, hr7, rfl, s7, g7⟩
          have Sr7 := Lib.hid s7
          have Ss7 := Lib.hid (Ss.out.farR g7 LA.out LI.out (.inl hgc))
          have G7 : Hid (w.grownBy w7 (some g)) := Lib.hid (grown_trans' Gr.out g7)
          have hz7 := g7.size
          have w88 : IntKind.i64.wrap (8 + (r7 : Int)) = 8 + (r7 : Int) := by rw [IntKind.wrap_i64]; omega
          have w89 : IntKind.i64.wrap (r7 : Int) = (r7 : Int) := by rw [IntKind.wrap_i64]; omega
          clear s7 g7
          by_cases hlt : (m : Int) < 8 + (r7 : Int)
          · have d7 : decide ((m : Int) < 8 + (r7 : Int)) = true := decide_eq_true hlt
            have hm8 : m ≤ 8 := by omega
            go_wp2_with fail
            refine (specIdent n w7 (by omega)).mono ?_
            rintro e w8 ⟨A8, c8, rfl, s8, b8⟩
            have Sr8 := Lib.hid (Sr7.out.below b8 Sr7.out.lt)
            have Ss8 := Lib.hid (Ss7.out.up b8)
            have G8 : Hid (w.grownBy w8 (some g)) := Lib.hid (grown_below2 G7.out b8)
            have D8 := Lib.hid (lies_dis Ss7.out s8.lies (Nat.le_refl _))
            have hz8 := b8.size
            have Sl8 := Lib.hid (s8.mono (show wc.heap.size ≤ w7.heap.size by omega))
            clear s8 b8
            go_wp2_with (first
              | (at_builtin
                 refine wpList_app2 rfl _ _ rfl rfl (Ss8.out.alloc _) w8.heap.size A8 n c8 (idL n) rfl (by rw [World.cell?_alloc_at _ _ _ _ rfl]; rfl) (Sl8.out.alloc _) D8.out (by omega) (by simp; omega) ?_
                 intro A9 c9 w9 ss9 g9))
            have Ss9 : Hid (SS w9 wc.heap.size wc.heap.size A9 (m + 1) c9 (us ++ [(A8, n, c8)]) (xss ++ [idL n])) := Lib.hid ss9
            have Sr9 : Hid (Src w9 g) := Lib.hid ((Sr8.out.below ((Below.refl w8.heap.size w8).alloc (Nat.le_refl _) (.cells #[.slice A8 n c8] 25)) Sr8.out.lt).gro2 g9 (fun j hj => by have := (LA.out j hj).1; omega))
            have G9 : Hid (w.grownBy w9 (some g)) := Lib.hid (grown_new2 (grown_alloc2 G8.out (.cells #[.slice A8 n c8] 25)) g9 (fun j hj => by have := (LA.out j hj).1; have := G3.out.size; omega))
            have hz9 : wc.heap.size ≤ w9.heap.size := by have := g9.size; simp at this; omega
            have Ln9 : Hid (∀ i, i < m + 1 → ((us ++ [((A8, n, c8) : SV)]).getD i sd0).2.1 = n) := Lib.hid fun i hi => by
              by_cases e9 : i < m
              · rw [getD_app _ _ _ _ (by rw [Ss8.out.lv]; exact e9)]; exact Ln.out i e9
              · rw [getD_snoc _ _ _ _ (by rw [Ss8.out.lv]; omega)]
            clear ss9 g9
            go_wp2_with fail
            go_roundg (9 - (m + 1))
            case rel => exact ⟨A9, m + 1, c9, _, _, by omega, by omega, rfl, Ss9.out, Ln9.out, Sr9.out, G9.out, hz9⟩
            case measure => omega
          · have d7 : decide ((m : Int) < 8 + (r7 : Int)) = false := decide_eq_false hlt
            go_wp2_with fail
            go_ret2
            exact ⟨_, _, _, _, us, xss, rfl, by unfold B64; omega, Ss7.out.rr, by omega, Ss7.out.lens_le Ln.out (by omega), Sr7.out, G7.out⟩
end Go.Proofs.Ytoaaoikmkomofaa

/- A draw of a group, with where its slices lie. Condition: at most 4096 bytes. -/
namespace Go.Proofs.Ytoaaoikmkomofaa
open Go.RowKit

/-- Slices of numbers that can be read, all in blocks from lo on. -/
structure RX (w : World) (lo : Nat) (A : Option Addr) (n : Nat) (vs : List SV) (xss : List (List Int)) : Prop where
  rr : RR w w.heap.size A n vs xss
  outer : 0 < n → ∀ b off, A = some ⟨b, off, none⟩ → lo ≤ b
  inner : ∀ j, j < n → ∀ b off, (vs.getD j sd0).1 = some ⟨b, off, none⟩ → 0 < (xss.getD j []).length → lo ≤ b
section
variable {w w' : World} {lo g n : Nat} {A : Option Addr} {vs : List SV} {xss : List (List Int)}
theorem RX.nil_ {c : Option Addr} : RX w lo c 0 [] [] := ⟨RR.nil_, fun h => absurd h (Nat.lt_irrefl _), fun j h => absurd h (Nat.not_lt_zero _)⟩
theorem RX.of_ss {bo bi c : Nat} (h : SS w bo bi A n c vs xss) (h1 : lo ≤ bo) (h2 : lo ≤ bi) : RX w lo A n vs xss :=
  ⟨h.rr, fun _ b off e => by have := (h.lt_ b (by subst e; rfl)).1; omega, fun j hj b off e _ => by have := ((h.row j hj).lt_ b (by rw [e]; rfl)).1; omega⟩
theorem RX.gro (h : RX w lo A n vs xss) (hg : w.grownBy w' (some g)) (hl : g < lo) : RX w' lo A n vs xss :=
  ⟨⟨h.rr.lv, h.rr.lx, fun hn => by
      obtain ⟨b, off, e, hb, hc⟩ := h.rr.cells hn
      have := h.outer hn b off e
      exact ⟨b, off, e, Nat.lt_of_lt_of_le hb hg.size, fun j hj => (World.cell?_of_block (a := ⟨b, off + j, none⟩) (hg.block b hb (by intro e2; injection e2 with e2; omega))).trans (hc j hj)⟩,
    fun j hj hp => by
      obtain ⟨b, off, e, hb, hc⟩ := h.rr.rows j hj hp
      have := h.inner j hj b off e hp
      exact ⟨b, off, e, Nat.lt_of_lt_of_le hb hg.size, fun t ht => (World.cell?_of_block (a := ⟨b, off + t, none⟩) (hg.block b hb (by intro e2; injection e2 with e2; omega))).trans (hc t ht)⟩, h.rr.lens, h.rr.caps⟩, h.outer, h.inner⟩
theorem RX.up (h : RX w lo A n vs xss) (hb : Below w.heap.size w w') : RX w' lo A n vs xss := ⟨h.rr.up hb, h.outer, h.inner⟩
end
section
variable {w w' : World} {base n c : Nat} {A : Option Addr} {vs : List SV} {xss : List (List Int)}
/-- A slice that can be read, appended onto a slice of slices of the call's own. -/
theorem wpList_app2X {ops : Array Oper} {rest : List Oper} {o : Oper} {a : Act} {Q : Exit → Act → World → Prop} (hgd : o.guard = none) (s x : Operand)
    (ho : o.op = .call { callee := .builtin .append, args := #[s, x], argTypes := #[24, 24] })
    (hs : a.eval s = .slice A n c) (hss : SS w base base A n c vs xss) (g : Nat) (dA : Option Addr) (dn dc lo : Nat) (ys : List Int) (hx : a.eval x = .slice (some ⟨g, 0, none⟩) 1 1)
    (hcell : w.cell? ⟨g, 0, none⟩ = some (.slice dA dn dc)) (hys : Pm w lo dA dn dc ys) (hlo : ∀ k, (Value.slice A n c).ownBlock = some k → k < lo) (hn : n ≤ 1000000000) (hbase : base ≤ w.heap.size) (l0 : Nat) (hl0 : l0 ≤ base) (hl1 : l0 ≤ lo)
    (h : ∀ A' c' w', RX w' l0 A' (n + 1) (vs ++ [(dA, dn, dc)]) (xss ++ [ys]) → w.grownBy w' (Value.slice A n c).ownBlock → wpList Try.prog ops Q rest (a.put o.dst (.slice A' (n + 1) c')) w') : wpList Try.prog ops Q (o :: rest) a w := by
  obtain ⟨i0, hi, hz0, hz1, hz2⟩ := info_parts infoS
  refine wpList_append_own (w := w) hgd s x 24 ho base 25 i0 (.slice none 0 0) 1 24 Try.underlying24 hi hz0 hz1 hz2 rfl (by decide) _ n _ hs hss.own ⟨g, 0, none⟩ 1 1 [.slice dA dn dc] hx rfl ?_ ?_ ?_ (by omega) hbase ?_
  · intro j v hj
    match j, hj with
    | 0, hj => simp at hj; subst hj; simpa [Addr.add] using hcell
    | j + 1, hj => simp at hj
  · intro v hv; simp at hv; subst hv; rfl
  · unfold maxLen; omega
  · intro v' w' hown' hg _
    rcases hown'.2 with ⟨rfl, h0⟩ | ⟨g', cap, cur, rfl, hb', hg', hnc, _⟩
    · omega
    · refine h (some ⟨g', 0, none⟩) cap w' ⟨⟨by simp [hss.lv], by simp [hss.lx], fun _ => ⟨g', 0, rfl, (Array.getElem?_eq_some_iff.1 hg').1, fun j hj => ?_⟩, fun j hj => ?_, fun j hj => ?_, fun j hj => ?_⟩, fun _ b off e => ?_, fun j hj b off e hp => ?_⟩ hg
      · rw [Nat.zero_add, hown'.cellAt j (by omega)]
        by_cases e : j < n
        · rw [List.getElem?_append_left (by rw [List.length_map, hss.lv]; exact e), List.getElem?_map, getD_app _ _ _ _ (by rw [hss.lv]; exact e), List.getD_eq_getElem?_getD, List.getElem?_eq_getElem (by rw [hss.lv]; exact e)]; rfl
        · obtain rfl : j = n := by omega
          rw [List.getElem?_append_right (by rw [List.length_map, hss.lv]; exact Nat.le_refl _), List.length_map, hss.lv, Nat.sub_self, getD_snoc _ _ _ _ hss.lv.symm]; rfl
      · by_cases e : j < n
        · rw [getD_app _ _ _ _ (by rw [hss.lv]; exact e), getD_app _ _ _ _ (by rw [hss.lx]; exact e)]
          exact ((hss.row j e).kept hg (apart_types (hss.row j e) hss.own)).ri_
        · obtain rfl : j = n := by omega
          rw [getD_snoc _ _ _ _ hss.lv.symm, getD_snoc _ _ _ _ hss.lx.symm]
          intro hp
          obtain ⟨b, off, e1, h1, h2, hc⟩ := hys.2.2 (by rw [← hys.1]; exact hp)
          refine ⟨b, off, e1, Nat.lt_of_lt_of_le h2 hg.size, fun t ht => (World.cell?_of_block (a := ⟨b, off + t, none⟩) (hg.block b h2 fun e2 => ?_)).trans (hc t (by rw [← hys.1]; exact ht))⟩
          have := hlo b e2.symm
          omega
      · by_cases e : j < n
        · rw [getD_app _ _ _ _ (by rw [hss.lx]; exact e), getD_app _ _ _ _ (by rw [hss.lv]; exact e)]; exact (hss.row j e).1
        · obtain rfl : j = n := by omega
          rw [getD_snoc _ _ _ _ hss.lx.symm, getD_snoc _ _ _ _ hss.lv.symm]; exact hys.1
      · by_cases e : j < n
        · rw [getD_app _ _ _ _ (by rw [hss.lv]; exact e)]; exact (hss.row j e).le.1
        · obtain rfl : j = n := by omega
          rw [getD_snoc _ _ _ _ hss.lv.symm]; exact hys.2.1
      · injection e with e; injection e with e; omega
      · by_cases e9 : j < n
        · rw [getD_app _ _ _ _ (by rw [hss.lv]; exact e9)] at e
          have := ((hss.row j e9).lt_ b (by rw [e]; rfl)).1
          omega
        · obtain rfl : j = n := by omega
          rw [getD_snoc _ _ _ _ hss.lv.symm] at e
          rw [getD_snoc _ _ _ _ hss.lx.symm] at hp
          obtain ⟨b2, off2, e1, h1, _⟩ := hys.2.2 (by rw [← hys.1]; exact hp)
          have e3 : (some ⟨b, off, none⟩ : Option Addr) = some ⟨b2, off2, none⟩ := e.symm.trans e1
          injection e3 with e3; injection e3 with e3; omega
end

set_option maxHeartbeats 4000000 in
set_option maxRecDepth 100000 in
/-- drawGroup. -/
theorem drawGroupX (g : Nat) (w : World) (hs : Src w g) :
    Calls Try.prog 53 #[.pointer (some ⟨g, 0, none⟩)] w fun e w' => ∃ (z : Int) (A : Option Addr) (m c : Nat) (vs : List SV) (xss : List (List Int)), e = .returned (.tuple #[.int .i64 z, .slice A m c]) ∧ B64 z ∧ RX w' w.heap.size A m vs xss ∧ m ≤ 9 ∧ (∀ i, i < m → (vs.getD i sd0).2.1 ≤ 21) ∧ Src w' g ∧ w.grownBy w' (some g) := by
  have hg := hs.lt
  go_enter Try.func53, Try.ntmps53
  go_wp2_with fail
  refine (srcBetween g 2 5 w hs (by omega) (by omega)).mono ?_
  rintro e w1 ⟨n1, h11, h12, rfl, s1, g1⟩
  have Sr1 := Lib.hid s1
  have G1 := Lib.hid g1
  clear s1 g1 hs
  go_wp2_with fail
  refine (srcOne g _ 6 w1 Sr1.out rfl (by omega) (by omega)).mono ?_
  rintro e w2 ⟨b, rfl, s2, g2⟩
  have Sr2 := Lib.hid s2
  have G2 : Hid (w.grownBy w2 (some g)) := Lib.hid (grown_trans' G1.out g2)
  clear s2 g2
  go_upto_if 9 with fail
  go_cut [4] from 6 to 48 (fun nn wx => ∃ n : Nat, 1 ≤ n ∧ n ≤ 7 ∧ nn = .int .i64 (n : Nat) ∧ Src wx g ∧ w.grownBy wx (some g))
  case first =>
    cases b
    · go_wp2_with fail
      go_meet
      exact ⟨n1, by omega, by omega, rfl, Sr2.out, G2.out⟩
    · go_wp2_with fail
      refine (srcBetween g 1 7 w2 Sr2.out (by omega) (by omega)).mono ?_
      rintro e w3 ⟨n3, h31, h32, rfl, s3, g3⟩
      have Sr3 := Lib.hid s3
      have G3 : Hid (w.grownBy w3 (some g)) := Lib.hid (grown_trans' G2.out g3)
      clear s3 g3
      go_wp2_with fail
      go_meet
      exact ⟨n3, by omega, by omega, rfl, Sr3.out, G3.out⟩
  case rest =>
    obtain ⟨n, hn1, hn7, rfl, src, grc⟩ := hcut
    have Sr3 := Lib.hid src
    have G3 := Lib.hid grc
    clear src grc Sr2 G2 Sr1 G1
    have hwc := G3.out.size
    go_wp2_with fail
    refine (drawGens g n wc Sr3.out hn1 (by omega)).mono ?_
    rintro e w4 ⟨A, m, c, us, xss, rfl, ss4, ln4, hm4, s4, g4⟩
    have Ss4 := Lib.hid ss4
    have Ln4 := Lib.hid ln4
    have Sr4 := Lib.hid s4
    have G4 : Hid (w.grownBy w4 (some g)) := Lib.hid (grown_trans' G3.out g4)
    have hgc : g < wc.heap.size := Sr3.out.lt
    have hz4 := G4.out.size
    have LA : Hid (∀ j, (Value.slice A m c).ownBlock = some j → wc.heap.size ≤ j ∧ j < w4.heap.size) := Lib.hid ss4.lt_
    have LI : Hid (∀ t, t < m → ∀ j, (sval (us.getD t sd0)).ownBlock = some j → wc.heap.size ≤ j ∧ j < w4.heap.size) := Lib.hid fun t ht => (ss4.row t ht).lt_
    have hzc4 := g4.size
    clear ss4 ln4 s4 g4
    go_wp2_with fail
    refine (srcOne g _ 20 w4 Sr4.out rfl (by omega) (by omega)).mono ?_
    rintro e w5 ⟨b5, rfl, s5, g5⟩
    have Sr5 := Lib.hid s5
    have Ss5 := Lib.hid (Ss4.out.farR g5 LA.out LI.out (.inl hgc))
    have G5 : Hid (w.grownBy w5 (some g)) := Lib.hid (grown_trans' G4.out g5)
    have hz5 := g5.size
    clear s5 g5
    cases b5
    · go_wp2_with fail
      go_ret2
      exact ⟨_, _, _, _, us, xss, rfl, by unfold B64; omega, (RX.of_ss Ss5.out (by omega) (by omega)), by omega, Ss5.out.lens_le Ln4.out (by omega), Sr5.out, G5.out⟩
    · go_wp2_with fail
      refine (srcBelow g _ 4 w5 Sr5.out rfl (by omega) (by omega)).mono ?_
      rintro e w6 ⟨r6, hr6, rfl, s6, g6⟩
      have Sr6 := Lib.hid s6
      have Ss6 := Lib.hid (Ss5.out.farR g6 LA.out LI.out (.inl hgc))
      have G6 : Hid (w.grownBy w6 (some g)) := Lib.hid (grown_trans' G5.out g6)
      have hz6 := g6.size
      clear s6 g6
      obtain rfl | rfl | rfl | rfl : r6 = 0 ∨ r6 = 1 ∨ r6 = 2 ∨ r6 = 3 := by omega
      · go_wp2_with fail
        refine (srcNumberB g 20 w6 Sr6.out (by omega) (by omega)).mono ?_
        rintro e w7 ⟨z7, rfl, hB7, s7, g7⟩
        have Sr7 := Lib.hid s7
        have Ss7 := Lib.hid (Ss6.out.farR g7 LA.out LI.out (.inl hgc))
        have G7 : Hid (w.grownBy w7 (some g)) := Lib.hid (grown_trans' G6.out g7)
        have HB7 := Lib.hid hB7
        clear s7 g7 hB7
        go_wp2_with fail
        go_ret2
        exact ⟨_, _, _, _, us, xss, rfl, HB7.out, (RX.of_ss Ss7.out (by omega) (by omega)), by omega, Ss7.out.lens_le Ln4.out (by omega), Sr7.out, G7.out⟩
      · go_wp2_with fail
        refine (drawAny g n w6 Sr6.out (by omega) (by omega)).mono ?_
        rintro e w7 ⟨A7, m7, c7, ys, rfl, p7, hm7, s7, g7⟩
        have Sr7 := Lib.hid s7
        have Ss7 := Lib.hid (Ss6.out.farR g7 LA.out LI.out (.inl hgc))
        have G7 : Hid (w.grownBy w7 (some g)) := Lib.hid (grown_trans' G6.out g7)
        have P7 : Hid (Pm (w7.alloc (.cells #[.slice A7 m7 c7] 25)) w6.heap.size A7 m7 c7 ys) := Lib.hid (p7.up ((Below.refl w7.heap.size w7).alloc (Nat.le_refl _) _))
        have hz7 := G7.out.size
        have hz67 := g7.size
        have hlt7 : Hid (∀ j, (Value.slice A m c).ownBlock = some j → j < w6.heap.size) := Lib.hid fun j hj => by have := (LA.out j hj).2; omega
        clear s7 g7 p7
        go_wp2_with (first
          | (at_builtin
             refine wpList_app2X rfl _ _ rfl rfl (Ss7.out.alloc _) w7.heap.size A7 m7 c7 w6.heap.size ys rfl (by rw [World.cell?_alloc_at _ _ _ _ rfl]; rfl) P7.out hlt7.out (by omega) (by simp; omega) w.heap.size (by omega) (by omega) ?_
             intro A8 c8 w8 rr8 g8))
        have R8 := Lib.hid rr8
        have Sr8 : Hid (Src w8 g) := Lib.hid ((Sr7.out.below ((Below.refl w7.heap.size w7).alloc (Nat.le_refl _) (.cells #[.slice A7 m7 c7] 25)) Sr7.out.lt).gro2 g8 (fun j hj => by have := (LA.out j hj).1; omega))
        have G8 : Hid (w.grownBy w8 (some g)) := Lib.hid (grown_new2 (grown_alloc2 G7.out (.cells #[.slice A7 m7 c7] 25)) g8 (fun j hj => by have := (LA.out j hj).1; have := G3.out.size; omega))
        have Ln8 : Hid (∀ i, i < m + 1 → ((us ++ [((A7, m7, c7) : SV)]).getD i sd0).2.1 ≤ 21) := Lib.hid fun i hi => by
          by_cases e9 : i < m
          · rw [getD_app _ _ _ _ (by rw [Ss7.out.lv]; exact e9), Ln4.out i e9]; omega
          · rw [getD_snoc _ _ _ _ (by rw [Ss7.out.lv]; omega)]; exact hm7
        clear rr8 g8
        go_wp2_with fail
        go_ret2
        exact ⟨_, _, _, _, _, _, rfl, by unfold B64; omega, R8.out, by omega, Ln8.out, Sr8.out, G8.out⟩
      · have hw6 := G6.out.size
        have Sr7 : Hid (Src (w6.alloc (.cells #[] 25)) g) := Lib.hid (Sr6.out.below ((Below.refl w6.heap.size w6).alloc (Nat.le_refl _) _) Sr6.out.lt)
        have G7 : Hid (w.grownBy (w6.alloc (.cells #[] 25)) (some g)) := Lib.hid (grown_alloc2 G6.out _)
        go_wp2_with fail
        go_ret2
        exact ⟨_, _, 0, _, [], [], rfl, by unfold B64; omega, RX.nil_, by omega, fun i hi => absurd hi (by omega), Sr7.out, G7.out⟩
      · go_wp2_with fail
        go_loopg [5] 10 (fun gg v wr => ∃ (A : Option Addr) (m c : Nat) (us : List SV) (xss : List (List Int)), m ≤ 9 ∧ 9 - m ≤ gg ∧ v = .slice A m c ∧ SS wr wc.heap.size wc.heap.size A m c us xss ∧ (∀ i, i < m → (us.getD i sd0).2.1 = n) ∧ Src wr g ∧ w.grownBy wr (some g) ∧ wc.heap.size ≤ wr.heap.size)
        case atStart => exact ⟨_, m, _, _, _, by omega, by omega, rfl, Ss6.out, Ln4.out, Sr6.out, G6.out, by omega⟩
        case round =>
          clear LA LI Ss4 Ss5 Ss6
          obtain ⟨A, m, c, us, xss, hm9, hgm, rfl, ss, ln, sr, gr, hzc⟩ := hrel
          have Ss := Lib.hid ss
          have Ln := Lib.hid ln
          have Sr := Lib.hid sr
          have Gr := Lib.hid gr
          have LA : Hid (∀ j, (Value.slice A m c).ownBlock = some j → wc.heap.size ≤ j ∧ j < wr.heap.size) := Lib.hid ss.lt_
          have LI : Hid (∀ t, t < m → ∀ j, (sval (us.getD t sd0)).ownBlock = some j → wc.heap.size ≤ j ∧ j < wr.heap.size) := Lib.hid fun t ht => (ss.row t ht).lt_
          clear ss ln sr gr
          go_wp2_with fail
          refine (srcBelow g _ 2 wr Sr.out rfl (by omega) (by omega)).mono ?_
          rintro e w7 ⟨r7, hr7, rfl, s7, g7⟩
          have Sr7 := Lib.hid s7
          have Ss7 := Lib.hid (Ss.out.farR g7 LA.out LI.out (.inl hgc))
          have G7 : Hid (w.grownBy w7 (some g)) := Lib.hid (grown_trans' Gr.out g7)
          have hz7 := g7.size
          have w88 : IntKind.i64.wrap (8 + (r7 : Int)) = 8 + (r7 : Int) := by rw [IntKind.wrap_i64]; omega
          have w89 : IntKind.i64.wrap (r7 : Int) = (r7 : Int) := by rw [IntKind.wrap_i64]; omega
          clear s7 g7
          by_cases hlt : (m : Int) < 8 + (r7 : Int)
          · have d7 : decide ((m : Int) < 8 + (r7 : Int)) = true := decide_eq_true hlt
            have hm8 : m ≤ 8 := by omega
            go_wp2_with fail
            refine (specIdent n w7 (by omega)).mono ?_
            rintro e w8 ⟨A8, c8, rfl, s8, b8⟩
            have Sr8 := Lib.hid (Sr7.out.below b8 Sr7.out.lt)
            have Ss8 := Lib.hid (Ss7.out.up b8)
            have G8 : Hid (w.grownBy w8 (some g)) := Lib.hid (grown_below2 G7.out b8)
            have D8 := Lib.hid (lies_dis Ss7.out s8.lies (Nat.le_refl _))
            have hz8 := b8.size
            have Sl8 := Lib.hid (s8.mono (show wc.heap.size ≤ w7.heap.size by omega))
            clear s8 b8
            go_wp2_with (first
              | (at_builtin
                 refine wpList_app2 rfl _ _ rfl rfl (Ss8.out.alloc _) w8.heap.size A8 n c8 (idL n) rfl (by rw [World.cell?_alloc_at _ _ _ _ rfl]; rfl) (Sl8.out.alloc _) D8.out (by omega) (by simp; omega) ?_
                 intro A9 c9 w9 ss9 g9))
            have Ss9 : Hid (SS w9 wc.heap.size wc.heap.size A9 (m + 1) c9 (us ++ [(A8, n, c8)]) (xss ++ [idL n])) := Lib.hid ss9
            have Sr9 : Hid (Src w9 g) := Lib.hid ((Sr8.out.below ((Below.refl w8.heap.size w8).alloc (Nat.le_refl _) (.cells #[.slice A8 n c8] 25)) Sr8.out.lt).gro2 g9 (fun j hj => by have := (LA.out j hj).1; omega))
            have G9 : Hid (w.grownBy w9 (some g)) := Lib.hid (grown_new2 (grown_alloc2 G8.out (.cells #[.slice A8 n c8] 25)) g9 (fun j hj => by have := (LA.out j hj).1; have := G3.out.size; omega))
            have hz9 : wc.heap.size ≤ w9.heap.size := by have := g9.size; simp at this; omega
            have Ln9 : Hid (∀ i, i < m + 1 → ((us ++ [((A8, n, c8) : SV)]).getD i sd0).2.1 = n) := Lib.hid fun i hi => by
              by_cases e9 : i < m
              · rw [getD_app _ _ _ _ (by rw [Ss8.out.lv]; exact e9)]; exact Ln.out i e9
              · rw [getD_snoc _ _ _ _ (by rw [Ss8.out.lv]; omega)]
            clear ss9 g9
            go_wp2_with fail
            go_roundg (9 - (m + 1))
            case rel => exact ⟨A9, m + 1, c9, _, _, by omega, by omega, rfl, Ss9.out, Ln9.out, Sr9.out, G9.out, hz9⟩
            case measure => omega
          · have d7 : decide ((m : Int) < 8 + (r7 : Int)) = false := decide_eq_false hlt
            go_wp2_with fail
            go_ret2
            exact ⟨_, _, _, _, us, xss, rfl, by unfold B64; omega, (RX.of_ss Ss7.out (by omega) (by omega)), by omega, Ss7.out.lens_le Ln.out (by omega), Sr7.out, G7.out⟩
end Go.Proofs.Ytoaaoikmkomofaa

/- Draws of words. Condition: at most 4096 bytes. -/
namespace Go.Proofs.Ytoaaoikmkomofaa
open Go.RowKit

theorem slc_gro {w w' : World} {base n c g : Nat} {A : Option Addr} {xs : List Int} (h : Slc w base A n c xs) (hg : w.grownBy w' (some g)) (hb : g < base) : Slc w' base A n c xs :=
  h.kept hg (by
    rcases e : (Value.slice A n c).ownBlock with _ | k
    · exact .inl rfl
    · exact .inr fun e2 => by injection e2 with e2; have := (h.lt_ k e).1; omega)

/-- A number between two, of either sign. -/
theorem srcBetweenZ (g : Nat) (lo hi : Int) (w : World) (hs : Src w g) (h0 : -1000 ≤ lo) (h1 : lo ≤ hi) (h2 : hi ≤ lo + 200) (h3 : hi ≤ 1000) :
    Calls Try.prog 77 #[.pointer (some ⟨g, 0, none⟩), .int .i64 lo, .int .i64 hi] w fun e w' => ∃ r : Int, lo ≤ r ∧ r ≤ hi ∧ e = .returned (.int .i64 r) ∧ Src w' g ∧ w.grownBy w' (some g) := by
  have w1 : IntKind.i64.wrap (hi - lo) = hi - lo := by rw [IntKind.wrap_i64]; omega
  have w2 : IntKind.i64.wrap (hi - lo + 1) = hi - lo + 1 := by rw [IntKind.wrap_i64]; omega
  go_enter Try.func77, Try.ntmps77
  go_wp2_with fail
  refine (srcBelow g _ (hi - lo + 1).toNat w hs (by omega) (by omega) (by omega)).mono ?_
  rintro e w1 ⟨r, hr, rfl, s1, g1⟩
  have S1 := Lib.hid s1
  have G1 := Lib.hid g1
  have w3 : IntKind.i64.wrap (lo + (r : Int)) = lo + (r : Int) := by rw [IntKind.wrap_i64]; omega
  have h4 : lo + (r : Int) ≤ hi := by omega
  clear s1 g1
  go_wp2_with fail
  go_ret
  exact ⟨lo + r, by omega, h4, rfl, S1.out, G1.out⟩

set_option maxHeartbeats 1600000 in
set_option maxRecDepth 100000 in
/-- drawWord. -/
theorem drawWordT (g G : Nat) (w : World) (hs : Src w g) (hG : G ≤ 100) :
    Calls Try.prog 56 #[.pointer (some ⟨g, 0, none⟩), .int .i64 (G : Nat)] w fun e w' => ∃ A m c xs, e = .returned (.slice A m c) ∧ Slc w' w.heap.size A m c xs ∧ VI xs ∧ m ≤ 6 ∧ Src w' g ∧ w.grownBy w' (some g) := by
  have hg := hs.lt
  have S0 : Hid (Slc (w.alloc (.cells #[] 2)) w.heap.size (some ⟨w.heap.size, 0, none⟩) 0 0 []) := Lib.hid (Slc.lit0 w _ (Nat.le_refl _))
  have Sr0 : Hid (Src (w.alloc (.cells #[] 2)) g) := Lib.hid (hs.below ((Below.refl w.heap.size w).alloc (Nat.le_refl _) _) hg)
  have G0 : Hid (w.grownBy (w.alloc (.cells #[] 2)) (some g)) := Lib.hid (grown_alloc2 (grown_refl _ _) _)
  clear hs
  go_enter Try.func56, Try.ntmps56
  go_wp2_with fail
  refine (srcBelow g _ 7 _ Sr0.out rfl (by omega) (by omega)).mono ?_
  rintro e w1 ⟨r, hr, rfl, s1, g1⟩
  have Sr1 := Lib.hid s1
  have S1 := Lib.hid (slc_gro S0.out g1 hg)
  have G1 : Hid (w.grownBy w1 (some g)) := Lib.hid (grown_trans' G0.out g1)
  clear s1 g1 S0 Sr0 G0
  go_wp2_with fail
  go_loopw [5, 6] (fun wv kv wr => ∃ (k m c : Nat) (A : Option Addr) (xs : List Int), k + m ≤ 6 ∧ wv = .slice A m c ∧ kv = .int .i64 (k : Nat) ∧ Slc wr w.heap.size A m c xs ∧ VI xs ∧ Src wr g ∧ w.grownBy wr (some g)) (fun _ kv _ => (intOf kv).toNat)
  case atStart => exact ⟨r, 0, 0, _, [], by omega, rfl, rfl, S1.out, VI.nil_, Sr1.out, G1.out⟩
  case round =>
    clear S1 Sr1 G1
    obtain ⟨k, m, c, A, xs, hk, rfl, rfl, sl, vi, src, grc⟩ := hrel
    have Sl := Lib.hid sl
    have Vx := Lib.hid vi
    have Sr := Lib.hid src
    have Gr := Lib.hid grc
    clear sl vi src grc
    by_cases hk0 : 0 < k
    · have dk : decide (0 < k) = true := decide_eq_true hk0
      by_cases hG0 : 0 < G
      · have dG : decide (0 < G) = true := decide_eq_true hG0
        go_wp2_with fail
        refine (srcBelow g _ G wr Sr.out rfl (by omega) (by omega)).mono ?_
        rintro e w2 ⟨z, hz, rfl, s2, g2⟩
        have Sr2 := Lib.hid s2
        have Sl2 := Lib.hid (slc_gro Sl.out g2 hg)
        have G2 : Hid (w.grownBy w2 (some g)) := Lib.hid (grown_trans' Gr.out g2)
        have wz : IntKind.i64.wrap (1 + (z : Int)) = 1 + (z : Int) := by rw [IntKind.wrap_i64]; omega
        clear s2 g2
        go_wp2_with fail
        refine (srcOne g _ 2 w2 Sr2.out rfl (by omega) (by omega)).mono ?_
        rintro e w3 ⟨b, rfl, s3, g3⟩
        have Sr3 := Lib.hid s3
        have Sl3 := Lib.hid (slc_gro Sl2.out g3 hg)
        have G3 : Hid (w.grownBy w3 (some g)) := Lib.hid (grown_trans' G2.out g3)
        have hz3 : w.heap.size ≤ w3.heap.size := G3.out.size
        have wk : IntKind.i64.wrap ((k : Int) - 1) = ((k - 1 : Nat) : Int) := by rw [IntKind.wrap_i64]; omega
        clear s3 g3
        cases b
        · obtain ⟨u, eu⟩ : ∃ u, 1 + (z : Int) = u := ⟨_, rfl⟩
          have hu : -9223372036854775808 ≤ u ∧ u ≤ 9223372036854775807 := by omega
          rw [eu]
          clear eu wz
          go_wp2_with (first | (at_builtin; refine wpList_app1 rfl _ _ rfl w.heap.size A m c xs rfl (Sl3.out.alloc _) w3.heap.size u rfl (by rw [World.cell?_alloc_at _ _ _ _ rfl]; rfl) (by omega) (by simp; omega) ?_; intro P6 c6 w6 s6 g6) | go_in)
          have S6 := Lib.hid s6
          have V6 : Hid (VI (xs ++ [u])) := Lib.hid (Vx.out.snoc hu)
          have Sr6 : Hid (Src w6 g) := Lib.hid ((Sr3.out.below ((Below.refl w3.heap.size w3).alloc (Nat.le_refl _) (.cells #[.int .i64 u] 2)) Sr3.out.lt).gro2 g6 (fun j hj => by have := (Sl3.out.lt_ j hj).1; omega))
          have G6 : Hid (w.grownBy w6 (some g)) := Lib.hid (grown_new2 (grown_alloc2 G3.out (.cells #[.int .i64 u] 2)) g6 (fun j hj => (Sl3.out.lt_ j hj).1))
          clear s6 g6
          go_wp2_with fail
          go_roundw
          case rel => exact ⟨k - 1, m + 1, c6, P6, _, by omega, rfl, by go_num, S6.out, V6.out, Sr6.out, G6.out⟩
          case measure => simp [intOf] <;> omega
        · have wz2 : IntKind.i64.wrap (-(1 + (z : Int))) = -(1 + (z : Int)) := by rw [IntKind.wrap_i64]; omega
          obtain ⟨y, ey⟩ : ∃ y, 1 + (z : Int) = y := ⟨_, rfl⟩
          rw [ey] at wz2 ⊢
          obtain ⟨u, eu⟩ : ∃ u, -y = u := ⟨_, rfl⟩
          have hu : -9223372036854775808 ≤ u ∧ u ≤ 9223372036854775807 := by omega
          rw [eu] at wz2
          clear ey wz
          go_wp2_with (first | (at_builtin; refine wpList_app1 rfl _ _ rfl w.heap.size A m c xs rfl (Sl3.out.alloc _) w3.heap.size u rfl (by rw [World.cell?_alloc_at _ _ _ _ rfl]; rfl) (by omega) (by simp; omega) ?_; intro P6 c6 w6 s6 g6) | go_in)
          have S6 := Lib.hid s6
          have V6 : Hid (VI (xs ++ [u])) := Lib.hid (Vx.out.snoc hu)
          have Sr6 : Hid (Src w6 g) := Lib.hid ((Sr3.out.below ((Below.refl w3.heap.size w3).alloc (Nat.le_refl _) (.cells #[.int .i64 u] 2)) Sr3.out.lt).gro2 g6 (fun j hj => by have := (Sl3.out.lt_ j hj).1; omega))
          have G6 : Hid (w.grownBy w6 (some g)) := Lib.hid (grown_new2 (grown_alloc2 G3.out (.cells #[.int .i64 u] 2)) g6 (fun j hj => (Sl3.out.lt_ j hj).1))
          clear s6 g6 eu
          go_wp2_with fail
          go_roundw
          case rel => exact ⟨k - 1, m + 1, c6, P6, _, by omega, rfl, by go_num, S6.out, V6.out, Sr6.out, G6.out⟩
          case measure => simp [intOf] <;> omega
      · have dG : decide (0 < G) = false := decide_eq_false hG0
        go_wp2_with fail
        go_ret
        exact ⟨A, m, c, xs, rfl, Sl.out, Vx.out, by omega, Sr.out, Gr.out⟩
    · have dk : decide (0 < k) = false := decide_eq_false hk0
      go_wp2_with fail
      go_ret
      exact ⟨A, m, c, xs, rfl, Sl.out, Vx.out, by omega, Sr.out, Gr.out⟩

set_option maxHeartbeats 1600000 in
set_option maxRecDepth 100000 in
/-- drawAnyWord. -/
theorem drawAnyW (g : Nat) (w : World) (hs : Src w g) :
    Calls Try.prog 55 #[.pointer (some ⟨g, 0, none⟩)] w fun e w' => ∃ A m c xs, e = .returned (.slice A m c) ∧ Slc w' w.heap.size A m c xs ∧ VI xs ∧ m ≤ 201 ∧ Src w' g ∧ w.grownBy w' (some g) := by
  have hg := hs.lt
  go_enter Try.func55, Try.ntmps55
  go_wp2_with fail
  refine (drawWordT g 3 w hs (by omega)).mono ?_
  rintro e w1 ⟨A, m, c, xs, rfl, s1, v1, hm, sr1, g1⟩
  have Sl1 := Lib.hid s1
  have V1 := Lib.hid v1
  have Sr1 := Lib.hid sr1
  have G1 := Lib.hid g1
  clear s1 v1 sr1 g1 hs
  go_wp2_with fail
  refine (srcOne g _ 12 w1 Sr1.out rfl (by omega) (by omega)).mono ?_
  rintro e w2 ⟨b, rfl, s2, g2⟩
  have Sr2 := Lib.hid s2
  have Sl2 := Lib.hid (slc_gro Sl1.out g2 hg)
  have G2 : Hid (w.grownBy w2 (some g)) := Lib.hid (grown_trans' G1.out g2)
  clear s2 g2 Sl1 Sr1 G1
  cases b
  · go_wp2_with fail
    go_ret
    exact ⟨A, m, c, xs, rfl, Sl2.out, V1.out, by omega, Sr2.out, G2.out⟩
  · go_wp2_with fail
    refine (srcBelow g _ 3 w2 Sr2.out rfl (by omega) (by omega)).mono ?_
    rintro e w3 ⟨r, hr, rfl, s3, g3⟩
    have Sr3 := Lib.hid s3
    have Sl3 := Lib.hid (slc_gro Sl2.out g3 hg)
    have G3 : Hid (w.grownBy w3 (some g)) := Lib.hid (grown_trans' G2.out g3)
    clear s3 g3 Sl2 Sr2 G2
    obtain rfl | rfl | rfl : r = 0 ∨ r = 1 ∨ r = 2 := by omega
    · go_wp2_with fail
      refine (srcExtremeB g w3 Sr3.out).mono ?_
      rintro e w4 ⟨u, rfl, hu, s4, g4⟩
      have Sr4 := Lib.hid s4
      have Sl4 := Lib.hid (slc_gro Sl3.out g4 hg)
      have G4 : Hid (w.grownBy w4 (some g)) := Lib.hid (grown_trans' G3.out g4)
      have hz4 : w.heap.size ≤ w4.heap.size := G4.out.size
      clear s4 g4
      go_wp2_with (first | (at_builtin; refine wpList_app1 rfl _ _ rfl w.heap.size A m c xs rfl (Sl4.out.alloc _) w4.heap.size u rfl (by rw [World.cell?_alloc_at _ _ _ _ rfl]; rfl) (by omega) (by simp; omega) ?_; intro P6 c6 w6 s6 g6) | go_in)
      have S6 := Lib.hid s6
      have V6 : Hid (VI (xs ++ [u])) := Lib.hid (V1.out.snoc hu)
      have Sr6 : Hid (Src w6 g) := Lib.hid ((Sr4.out.below ((Below.refl w4.heap.size w4).alloc (Nat.le_refl _) (.cells #[.int .i64 u] 2)) Sr4.out.lt).gro2 g6 (fun j hj => by have := (Sl4.out.lt_ j hj).1; omega))
      have G6 : Hid (w.grownBy w6 (some g)) := Lib.hid (grown_new2 (grown_alloc2 G4.out (.cells #[.int .i64 u] 2)) g6 (fun j hj => (Sl4.out.lt_ j hj).1))
      clear s6 g6
      go_wp2_with fail
      go_ret
      exact ⟨P6, m + 1, c6, _, rfl, S6.out, V6.out, by omega, Sr6.out, G6.out⟩
    · go_wp2_with fail
      refine (srcBetweenZ g (-9) 9 w3 Sr3.out (by omega) (by omega) (by omega) (by omega)).mono ?_
      rintro e w4 ⟨u, hu1, hu2, rfl, s4, g4⟩
      have Sr4 := Lib.hid s4
      have Sl4 := Lib.hid (slc_gro Sl3.out g4 hg)
      have G4 : Hid (w.grownBy w4 (some g)) := Lib.hid (grown_trans' G3.out g4)
      have hz4 : w.heap.size ≤ w4.heap.size := G4.out.size
      have hu : -9223372036854775808 ≤ u ∧ u ≤ 9223372036854775807 := by omega
      clear s4 g4
      go_wp2_with (first | (at_builtin; refine wpList_app1 rfl _ _ rfl w.heap.size A m c xs rfl (Sl4.out.alloc _) w4.heap.size u rfl (by rw [World.cell?_alloc_at _ _ _ _ rfl]; rfl) (by omega) (by simp; omega) ?_; intro P6 c6 w6 s6 g6) | go_in)
      have S6 := Lib.hid s6
      have V6 : Hid (VI (xs ++ [u])) := Lib.hid (V1.out.snoc hu)
      have Sr6 : Hid (Src w6 g) := Lib.hid ((Sr4.out.below ((Below.refl w4.heap.size w4).alloc (Nat.le_refl _) (.cells #[.int .i64 u] 2)) Sr4.out.lt).gro2 g6 (fun j hj => by have := (Sl4.out.lt_ j hj).1; omega))
      have G6 : Hid (w.grownBy w6 (some g)) := Lib.hid (grown_new2 (grown_alloc2 G4.out (.cells #[.int .i64 u] 2)) g6 (fun j hj => (Sl4.out.lt_ j hj).1))
      clear s6 g6
      go_wp2_with fail
      go_ret
      exact ⟨P6, m + 1, c6, _, rfl, S6.out, V6.out, by omega, Sr6.out, G6.out⟩
    · go_wp2_with fail
      go_loopw [3] (fun wv wr => ∃ (m c : Nat) (A : Option Addr) (xs : List Int), m ≤ 201 ∧ wv = .slice A m c ∧ Slc wr w.heap.size A m c xs ∧ VI xs ∧ Src wr g ∧ w.grownBy wr (some g)) (fun wv _ => 201 - (match wv with | .slice _ n _ => n | _ => 0))
      case atStart => exact ⟨m, c, A, xs, by omega, rfl, Sl3.out, V1.out, Sr3.out, G3.out⟩
      case round =>
        clear Sl3 Sr3 G3 V1 hm
        obtain ⟨m, c, A, xs, hm, rfl, sl, vi, src, grc⟩ := hrel
        have Sl := Lib.hid sl
        have Vx := Lib.hid vi
        have Sr := Lib.hid src
        have Gr := Lib.hid grc
        clear sl vi src grc
        go_wp2_with fail
        refine (srcBetweenZ g (-1) 1 wr Sr.out (by omega) (by omega) (by omega) (by omega)).mono ?_
        rintro e w2 ⟨r, hr1, hr2, rfl, s2, g2⟩
        have Sr2 := Lib.hid s2
        have Sl2 := Lib.hid (slc_gro Sl.out g2 hg)
        have G2 : Hid (w.grownBy w2 (some g)) := Lib.hid (grown_trans' Gr.out g2)
        have wz : IntKind.i64.wrap (200 + r) = 200 + r := by rw [IntKind.wrap_i64]; omega
        clear s2 g2
        by_cases hlt : (m : Int) < 200 + r
        · have dl : decide ((m : Int) < 200 + r) = true := decide_eq_true hlt
          go_wp2_with fail
          refine (srcBelow g _ 2 w2 Sr2.out rfl (by omega) (by omega)).mono ?_
          rintro e w3 ⟨z, hz, rfl, s3, g3⟩
          have Sr3 := Lib.hid s3
          have Sl3 := Lib.hid (slc_gro Sl2.out g3 hg)
          have G3 : Hid (w.grownBy w3 (some g)) := Lib.hid (grown_trans' G2.out g3)
          have hz3 : w.heap.size ≤ w3.heap.size := G3.out.size
          have wz2 : IntKind.i64.wrap (1 + (z : Int)) = 1 + (z : Int) := by rw [IntKind.wrap_i64]; omega
          clear s3 g3
          obtain ⟨u, eu⟩ : ∃ u, 1 + (z : Int) = u := ⟨_, rfl⟩
          have hu : -9223372036854775808 ≤ u ∧ u ≤ 9223372036854775807 := by omega
          rw [eu] at wz2
          clear wz dl
          go_wp2_with (first | (at_builtin; refine wpList_app1 rfl _ _ rfl w.heap.size A m c xs rfl (Sl3.out.alloc _) w3.heap.size u rfl (by rw [World.cell?_alloc_at _ _ _ _ rfl]; rfl) (by omega) (by simp; omega) ?_; intro P6 c6 w6 s6 g6) | go_in)
          have S6 := Lib.hid s6
          have V6 : Hid (VI (xs ++ [u])) := Lib.hid (Vx.out.snoc hu)
          have Sr6 : Hid (Src w6 g) := Lib.hid ((Sr3.out.below ((Below.refl w3.heap.size w3).alloc (Nat.le_refl _) (.cells #[.int .i64 u] 2)) Sr3.out.lt).gro2 g6 (fun j hj => by have := (Sl3.out.lt_ j hj).1; omega))
          have G6 : Hid (w.grownBy w6 (some g)) := Lib.hid (grown_new2 (grown_alloc2 G3.out (.cells #[.int .i64 u] 2)) g6 (fun j hj => (Sl3.out.lt_ j hj).1))
          clear s6 g6 eu
          go_wp2_with fail
          go_roundw
          case rel => exact ⟨m + 1, c6, P6, _, by omega, rfl, S6.out, V6.out, Sr6.out, G6.out⟩
          case measure => simp <;> omega
        · have dl : decide ((m : Int) < 200 + r) = false := decide_eq_false hlt
          go_wp2_with fail
          go_ret
          exact ⟨A, m, c, xs, rfl, Sl2.out, Vx.out, by omega, Sr2.out, G2.out⟩
end Go.Proofs.Ytoaaoikmkomofaa

/- Words as the named laws of chapter 8 hold them; their draws. Condition: at most 4096 bytes. -/
namespace Go.Proofs.Ytoaaoikmkomofaa
open Go.RowKit

/-- A word that can be read, not too long, of 64 bits. -/
structure WI (w : World) (A : Option Addr) (n c : Nat) (xs : List Int) : Prop where
  ri : RI w w.heap.size A xs
  lx : xs.length = n
  hn : n ≤ 201
  hc : n ≤ c
  vi : VI xs
theorem WI.up {w w' : World} {A : Option Addr} {n c : Nat} {xs : List Int} (h : WI w A n c xs) (hb : Below w.heap.size w w') : WI w' A n c xs := ⟨h.ri.up hb, h.lx, h.hn, h.hc, h.vi⟩
theorem WI.of_slc {w : World} {base n c : Nat} {A : Option Addr} {xs : List Int} (h : Slc w base A n c xs) (v : VI xs) (hn : n ≤ 201) : WI w A n c xs := ⟨h.ri_, h.1, hn, h.le.1, v⟩
theorem VI.repF (wd : List Int) (k : Int) : VI (repF wd k) := by
  unfold Go.Proofs.Ytoaaoikmkomofaa.repF
  split
  · rename_i h
    unfold repB at h
    rw [Bool.and_eq_true] at h
    have hv : VI (if k < 0 then ivW wd else wd) := by
      split
      · exact VI.of_vW (vW_iv h.1)
      · exact VI.of_vW h.1
    intro x hx
    unfold repL at hx
    obtain ⟨y, hy, hxy⟩ := List.mem_flatten.1 hx
    rw [List.eq_of_mem_replicate hy] at hxy
    exact hv x hxy
  · exact VI.nil_
section
variable {w : World} {A B : Option Addr} {n c m d : Nat} {a b : List Int}
theorem iFR (h : WI w A n c a) : Calls Try.prog 23 #[.slice A n c] w fun e w' => ∃ A' n' c', e = .returned (.slice A' n' c') ∧ WI w' A' n' c' (redF a) ∧ Below w.heap.size w w' :=
  (implFreeReduce A n c a w h.ri (Lib.hid h.lx) (by have := h.hn; omega) (Lib.hid h.vi)).mono fun _ _ ⟨A', n', c', e, s, hn, bl⟩ => ⟨A', n', c', e, WI.of_slc s (VI.redF a) (by omega), bl⟩
theorem sFR (h : WI w A n c a) : Calls Try.prog 26 #[.slice A n c] w fun e w' => ∃ A' n' c', e = .returned (.slice A' n' c') ∧ WI w' A' n' c' (redF a) ∧ Below w.heap.size w w' :=
  (specFreeReduce A n c a w h.ri (Lib.hid h.lx) (by have := h.hn; omega)).mono fun _ _ ⟨A', n', c', e, s, hn, bl⟩ => ⟨A', n', c', e, WI.of_slc s (VI.redF a) (by omega), bl⟩
theorem iIV (h : WI w A n c a) : Calls Try.prog 22 #[.slice A n c] w fun e w' => ∃ A' n' c', e = .returned (.slice A' n' c') ∧ WI w' A' n' c' (invF a) ∧ Below w.heap.size w w' :=
  (implInvertWord A n c a w h.ri (Lib.hid h.lx) (by have := h.hn; omega) (Lib.hid h.vi)).mono fun _ _ ⟨A', n', c', e, s, hn, bl⟩ => ⟨A', n', c', e, WI.of_slc s (VI.invF a) (by omega), bl⟩
theorem sIV (h : WI w A n c a) : Calls Try.prog 37 #[.slice A n c] w fun e w' => ∃ A' n' c', e = .returned (.slice A' n' c') ∧ WI w' A' n' c' (invF a) ∧ Below w.heap.size w w' :=
  (specInvertWord A n c a w h.ri (Lib.hid h.lx) (by have := h.hn; omega)).mono fun _ _ ⟨A', n', c', e, s, hn, bl⟩ => ⟨A', n', c', e, WI.of_slc s (VI.invF a) (by omega), bl⟩
theorem iCW (h : WI w A n c a) (k : WI w B m d b) : Calls Try.prog 27 #[.slice A n c, .slice B m d] w fun e w' => ∃ A' n' c', e = .returned (.tuple #[.slice A' n' c', .bool (okF [a, b])]) ∧ WI w' A' n' c' (catF [a, b]) ∧ Below w.heap.size w w' :=
  (implConcatWords A B c d n m a b w h.ri k.ri (Lib.hid h.lx) (Lib.hid k.lx) (by have := h.hn; omega) (by have := k.hn; omega) h.hc k.hc (Lib.hid h.vi) (Lib.hid k.vi)).mono fun _ _ ⟨A', n', c', e, s, hn, bl⟩ => ⟨A', n', c', e, WI.of_slc s (VI.catF _) (by omega), bl⟩
theorem sCW (h : WI w A n c a) (k : WI w B m d b) : Calls Try.prog 36 #[.slice A n c, .slice B m d] w fun e w' => ∃ A' n' c', e = .returned (.tuple #[.slice A' n' c', .bool (okF [a, b])]) ∧ WI w' A' n' c' (catF [a, b]) ∧ Below w.heap.size w w' :=
  (specConcatWords A B c d n m a b w h.ri k.ri (Lib.hid h.lx) (Lib.hid k.lx) (by have := h.hn; omega) (by have := k.hn; omega) h.hc k.hc).mono fun _ _ ⟨A', n', c', e, s, hn, bl⟩ => ⟨A', n', c', e, WI.of_slc s (VI.catF _) (by omega), bl⟩
theorem iCM (h : WI w A n c a) (k : WI w B m d b) : Calls Try.prog 32 #[.slice A n c, .slice B m d] w fun e w' => ∃ A' n' c', e = .returned (.tuple #[.slice A' n' c', .bool (okF (comF a b))]) ∧ WI w' A' n' c' (catF (comF a b)) ∧ Below w.heap.size w w' :=
  (implCommutator A B c d n m a b w h.ri k.ri (Lib.hid h.lx) (Lib.hid k.lx) (by have := h.hn; omega) (by have := k.hn; omega) h.hc k.hc (Lib.hid h.vi) (Lib.hid k.vi)).mono fun _ _ ⟨A', n', c', e, s, hn, bl⟩ => ⟨A', n', c', e, WI.of_slc s (VI.catF _) (by omega), bl⟩
theorem sCM (h : WI w A n c a) (k : WI w B m d b) : Calls Try.prog 34 #[.slice A n c, .slice B m d] w fun e w' => ∃ A' n' c', e = .returned (.tuple #[.slice A' n' c', .bool (okF (comF a b))]) ∧ WI w' A' n' c' (catF (comF a b)) ∧ Below w.heap.size w w' :=
  (specCommutator A B c d n m a b w h.ri k.ri (Lib.hid h.lx) (Lib.hid k.lx) (by have := h.hn; omega) (by have := k.hn; omega) h.hc k.hc).mono fun _ _ ⟨A', n', c', e, s, hn, bl⟩ => ⟨A', n', c', e, WI.of_slc s (VI.catF _) (by omega), bl⟩
theorem iCJ (h : WI w A n c a) (k : WI w B m d b) : Calls Try.prog 33 #[.slice A n c, .slice B m d] w fun e w' => ∃ A' n' c', e = .returned (.tuple #[.slice A' n' c', .bool (okF (cjgF a b))]) ∧ WI w' A' n' c' (catF (cjgF a b)) ∧ Below w.heap.size w w' :=
  (implConjugateWord A B c d n m a b w h.ri k.ri (Lib.hid h.lx) (Lib.hid k.lx) (by have := h.hn; omega) (by have := k.hn; omega) h.hc k.hc (Lib.hid h.vi) (Lib.hid k.vi)).mono fun _ _ ⟨A', n', c', e, s, hn, bl⟩ => ⟨A', n', c', e, WI.of_slc s (VI.catF _) (by omega), bl⟩
theorem sCJ (h : WI w A n c a) (k : WI w B m d b) : Calls Try.prog 35 #[.slice A n c, .slice B m d] w fun e w' => ∃ A' n' c', e = .returned (.tuple #[.slice A' n' c', .bool (okF (cjgF a b))]) ∧ WI w' A' n' c' (catF (cjgF a b)) ∧ Below w.heap.size w w' :=
  (specConjugateWord A B c d n m a b w h.ri k.ri (Lib.hid h.lx) (Lib.hid k.lx) (by have := h.hn; omega) (by have := k.hn; omega) h.hc k.hc).mono fun _ _ ⟨A', n', c', e, s, hn, bl⟩ => ⟨A', n', c', e, WI.of_slc s (VI.catF _) (by omega), bl⟩
theorem iRW (k : Int) (h : WI w A n c a) (hk : I64 k) : Calls Try.prog 39 #[.slice A n c, .int .i64 k] w fun e w' => ∃ A' n' c', e = .returned (.tuple #[.slice A' n' c', .bool (repB a k)]) ∧ WI w' A' n' c' (repF a k) ∧ Below w.heap.size w w' :=
  (implRepeatWord A n c a k w h.ri (Lib.hid h.lx) (by have := h.hn; omega) h.hc (Lib.hid h.vi) hk).mono fun _ _ ⟨A', n', c', e, s, hn, bl⟩ => ⟨A', n', c', e, WI.of_slc s (VI.repF _ _) (by omega), bl⟩
theorem sRW (k : Int) (h : WI w A n c a) (hk : I64 k) : Calls Try.prog 40 #[.slice A n c, .int .i64 k] w fun e w' => ∃ A' n' c', e = .returned (.tuple #[.slice A' n' c', .bool (repB a k)]) ∧ WI w' A' n' c' (repF a k) ∧ Below w.heap.size w w' :=
  (specRepeatWord A c n a k w h.ri (Lib.hid h.lx) (by have := h.hn; omega) hk.1 hk.2).mono fun _ _ ⟨A', n', c', e, s, hn, bl⟩ => ⟨A', n', c', e, WI.of_slc s (VI.repF _ _) (by omega), bl⟩
theorem iWL (h : WI w A n c a) (k : WI w B m d b) : Calls Try.prog 41 #[.slice A n c, .slice B m d] w fun e w' => e = .returned (.bool (wlB a b)) ∧ Below w.heap.size w w' :=
  implWordLess A B c d n m a b w h.ri k.ri (Lib.hid h.lx) (Lib.hid k.lx) (by have := h.hn; omega) (by have := k.hn; omega) (Lib.hid h.vi) (Lib.hid k.vi)
theorem sWL (h : WI w A n c a) (k : WI w B m d b) : Calls Try.prog 42 #[.slice A n c, .slice B m d] w fun e w' => e = .returned (.bool (wlB a b)) ∧ Below w.heap.size w w' :=
  specWordLess A B c d n m a b w h.ri k.ri (Lib.hid h.lx) (Lib.hid k.lx) (by have := h.hn; omega) (by have := k.hn; omega)
theorem iLN (k : Int) (h : WI w A n c a) : Calls Try.prog 29 #[.slice A n c, .int .i64 k] w fun e w' => e = .returned (.int .i64 (wlenF a k)) ∧ Below w.heap.size w w' :=
  implWordLength A n c a k w h.ri (Lib.hid h.lx) (by have := h.hn; omega) (Lib.hid h.vi)
theorem sLN (k : Int) (h : WI w A n c a) : Calls Try.prog 30 #[.slice A n c, .int .i64 k] w fun e w' => e = .returned (.int .i64 (wlenF a k)) ∧ Below w.heap.size w w' :=
  specWordLength A n c a k w h.ri (Lib.hid h.lx) (by have := h.hn; omega)
theorem sVW (h : WI w A n c a) : Calls Try.prog 28 #[.int .i64 8, .slice A n c] w fun e w' => e = .returned (.bool (vW 8 a)) ∧ Below w.heap.size w w' :=
  specIsValidWordB 8 A n c a w h.ri (Lib.hid h.lx) (by have := h.hn; omega)
theorem likeW (h : WI w A n c a) (k : WI w B m d a) : Calls Try.prog 20 #[.slice A n c, .slice B m d] w fun e w' => e = .returned (.bool true) ∧ Below w.heap.size w w' :=
  (quiet_below (likeI_any A B c d n m _ _ w h.ri k.ri (Lib.hid h.lx) (Lib.hid k.lx) (by have := h.hn; omega) (by have := k.hn; omega))).mono fun e w' ⟨he, hb⟩ => ⟨he.trans (ret_bool (by simp)), hb⟩
end
set_option maxHeartbeats 400000 in
theorem bigF8 (A : Option Addr) (len cap : Nat) (w : World) (hl : len ≤ 4096) : Calls Try.prog 16 #[.slice A len cap] w fun e w' => e = .returned (.bool false) ∧ w = w' := by
  have d : decide ((4096 : Int) < (len : Int)) = false := by simp; omega
  go_enter Try.func16, Try.ntmps16
  go_wp2
  go_ret
  exact ⟨rfl, rfl⟩
set_option maxHeartbeats 400000 in
theorem bigT8 (A : Option Addr) (len cap : Nat) (w : World) (hl : 4096 < len) : Calls Try.prog 16 #[.slice A len cap] w fun e w' => e = .returned (.bool true) ∧ w = w' := by
  have d : decide ((4096 : Int) < (len : Int)) = true := by simp; omega
  go_enter Try.func16, Try.ntmps16
  go_wp2
  go_ret
  exact ⟨rfl, rfl⟩
theorem below_gro8 {w0 w w' : World} {g : Nat} (h : Below w0.heap.size w0 w) (hg : w.grownBy w' (some g)) (hB : w0.heap.size ≤ g) : Below w0.heap.size w0 w' := h.grown hg h.size (fun k e => by injection e with e; omega)

set_option maxHeartbeats 1000000 in
theorem drawFR (len cap : Nat) (A : Option Addr) (w : World) (hb : SB w w.heap.size A len) (hl : len ≤ 4096) :
    Calls Try.prog 25 #[.slice A len cap] w fun e w' => ∃ (B : Option Addr) (n c : Nat) (x : List Int), e = .returned (.slice B n c) ∧ WI w' B n c x ∧ Below w.heap.size w w' := by
  go_enter Try.func25, Try.ntmps25
  go_wp2_with fail
  refine (newSrc len cap A w hb hl).mono ?_
  rintro e w1 ⟨rfl, s1, b1⟩
  have S1 := Lib.hid s1
  have B1 := Lib.hid b1
  clear s1 b1
  go_wp2_with fail
  refine (drawAnyW w.heap.size w1 S1.out).mono ?_
  rintro e w2 ⟨A2, n, c, x, rfl, s2, v2, hn, _, g2⟩
  have X2 : Hid (WI w2 A2 n c x) := Lib.hid (WI.of_slc s2 v2 hn)
  have B2 : Hid (Below w.heap.size w w2) := Lib.hid (below_gro8 B1.out g2 (Nat.le_refl _))
  clear s2 v2 g2
  go_wp2_with fail
  go_ret
  exact ⟨A2, n, c, x, rfl, X2.out, B2.out⟩

set_option maxHeartbeats 1000000 in
theorem drawCM (len cap : Nat) (A : Option Addr) (w : World) (hb : SB w w.heap.size A len) (hl : len ≤ 4096) :
    Calls Try.prog 31 #[.slice A len cap] w fun e w' => ∃ (B : Option Addr) (n c : Nat) (x : List Int) (D : Option Addr) (m d : Nat) (y : List Int), e = .returned (.tuple #[.slice B n c, .slice D m d]) ∧ WI w' B n c x ∧ WI w' D m d y ∧ Below w.heap.size w w' := by
  go_enter Try.func31, Try.ntmps31
  go_wp2_with fail
  refine (newSrc len cap A w hb hl).mono ?_
  rintro e w1 ⟨rfl, s1, b1⟩
  have S1 := Lib.hid s1
  have B1 := Lib.hid b1
  clear s1 b1
  go_wp2_with fail
  refine (drawAnyW w.heap.size w1 S1.out).mono ?_
  rintro e w2 ⟨A2, n, c, x, rfl, s2, v2, hn, sr2, g2⟩
  have Sl2 := Lib.hid s2
  have V2 := Lib.hid v2
  have Sr2 := Lib.hid sr2
  have hg1 := S1.out.lt
  have B2 : Hid (Below w.heap.size w w2) := Lib.hid (below_gro8 B1.out g2 (Nat.le_refl _))
  clear s2 v2 g2 sr2
  go_wp2_with fail
  refine (drawAnyW w.heap.size w2 Sr2.out).mono ?_
  rintro e w3 ⟨A3, m, d, y, rfl, s3, v3, hm, _, g3⟩
  have X3 : Hid (WI w3 A2 n c x) := Lib.hid (WI.of_slc (slc_gro Sl2.out g3 hg1) V2.out hn)
  have Y3 : Hid (WI w3 A3 m d y) := Lib.hid (WI.of_slc s3 v3 hm)
  have B3 : Hid (Below w.heap.size w w3) := Lib.hid (below_gro8 B2.out g3 (Nat.le_refl _))
  clear s3 v3 g3
  go_wp2_with fail
  go_ret2
  exact ⟨A2, n, c, x, A3, m, d, y, rfl, X3.out, Y3.out, B3.out⟩

set_option maxHeartbeats 1000000 in
theorem drawRW (len cap : Nat) (A : Option Addr) (w : World) (hb : SB w w.heap.size A len) (hl : len ≤ 4096) :
    Calls Try.prog 38 #[.slice A len cap] w fun e w' => ∃ (B : Option Addr) (n c : Nat) (x : List Int) (k : Int), e = .returned (.tuple #[.slice B n c, .int .i64 k]) ∧ WI w' B n c x ∧ I64 k ∧ Below w.heap.size w w' := by
  go_enter Try.func38, Try.ntmps38
  go_wp2_with fail
  refine (newSrc len cap A w hb hl).mono ?_
  rintro e w1 ⟨rfl, s1, b1⟩
  have S1 := Lib.hid s1
  have B1 := Lib.hid b1
  clear s1 b1
  go_wp2_with fail
  refine (drawAnyW w.heap.size w1 S1.out).mono ?_
  rintro e w2 ⟨A2, n, c, x, rfl, s2, v2, hn, sr2, g2⟩
  have Sl2 := Lib.hid s2
  have V2 := Lib.hid v2
  have Sr2 := Lib.hid sr2
  have hg1 := S1.out.lt
  have B2 : Hid (Below w.heap.size w w2) := Lib.hid (below_gro8 B1.out g2 (Nat.le_refl _))
  clear s2 v2 g2 sr2
  go_wp2_with fail
  refine (srcOne w.heap.size _ 6 w2 Sr2.out rfl (by omega) (by omega)).mono ?_
  rintro e w3 ⟨b, rfl, s3, g3⟩
  have Sr3 := Lib.hid s3
  have Sl3 := Lib.hid (slc_gro Sl2.out g3 hg1)
  have B3 : Hid (Below w.heap.size w w3) := Lib.hid (below_gro8 B2.out g3 (Nat.le_refl _))
  clear s3 g3
  cases b
  · go_wp2_with fail
    refine (srcBetweenZ w.heap.size (-6) 40 w3 Sr3.out (by omega) (by omega) (by omega) (by omega)).mono ?_
    rintro e w4 ⟨u, hu1, hu2, rfl, s4, g4⟩
    have X4 : Hid (WI w4 A2 n c x) := Lib.hid (WI.of_slc (slc_gro Sl3.out g4 hg1) V2.out hn)
    have B4 : Hid (Below w.heap.size w w4) := Lib.hid (below_gro8 B3.out g4 (Nat.le_refl _))
    clear s4 g4
    go_wp2_with fail
    go_ret2
    exact ⟨A2, n, c, x, u, rfl, X4.out, ⟨by omega, by omega⟩, B4.out⟩
  · go_wp2_with fail
    refine (srcExtremeB w.heap.size w3 Sr3.out).mono ?_
    rintro e w4 ⟨u, rfl, hu, s4, g4⟩
    have X4 : Hid (WI w4 A2 n c x) := Lib.hid (WI.of_slc (slc_gro Sl3.out g4 hg1) V2.out hn)
    have B4 : Hid (Below w.heap.size w w4) := Lib.hid (below_gro8 B3.out g4 (Nat.le_refl _))
    clear s4 g4
    go_wp2_with fail
    go_ret2
    exact ⟨A2, n, c, x, u, rfl, X4.out, hu, B4.out⟩

set_option maxHeartbeats 1000000 in
theorem drawEW (len cap : Nat) (A : Option Addr) (w : World) (hb : SB w w.heap.size A len) (hl : len ≤ 4096) :
    Calls Try.prog 17 #[.slice A len cap] w fun e w' => ∃ (z : Int) (G : Option Addr) (m cg : Nat) (vs : List SV) (gs : List (List Int)) (B : Option Addr) (n c : Nat) (x : List Int), e = .returned (.tuple #[.int .i64 z, .slice G m cg, .slice B n c]) ∧ I64 z ∧ GIn w' G m vs gs ∧ WI w' B n c x ∧ ((B = none ∧ n = 0 ∧ c = 0) ∨ ∃ q, B = some ⟨q, 0, none⟩) ∧ Below w.heap.size w w' := by
  go_enter Try.func17, Try.ntmps17
  go_wp2_with fail
  refine (newSrc len cap A w hb hl).mono ?_
  rintro e w1 ⟨rfl, s1, b1⟩
  have S1 := Lib.hid s1
  have B1 := Lib.hid b1
  clear s1 b1
  have hg1 := S1.out.lt
  go_wp2_with fail
  refine (drawGroupX w.heap.size w1 S1.out).mono ?_
  rintro e w2 ⟨z, G, m, cg, vs, gs, rfl, hz, rx2, hm, hln, sr2, g2⟩
  have HZ : Hid (I64 z) := Lib.hid hz
  have Rx2 := Lib.hid rx2
  have Ln := Lib.hid hln
  have Sr2 := Lib.hid sr2
  have B2 : Hid (Below w.heap.size w w2) := Lib.hid (below_gro8 B1.out g2 (Nat.le_refl _))
  clear hz rx2 hln sr2 g2
  go_wp2_with fail
  refine (srcOne w.heap.size _ 4 w2 Sr2.out rfl (by omega) (by omega)).mono ?_
  rintro e w3 ⟨b, rfl, s3, g3⟩
  have Sr3 := Lib.hid s3
  have Rx3 := Lib.hid (Rx2.out.gro g3 hg1)
  have B3 : Hid (Below w.heap.size w w3) := Lib.hid (below_gro8 B2.out g3 (Nat.le_refl _))
  clear s3 g3
  cases b
  · go_wp2_with fail
    refine (drawWordT w.heap.size m w3 Sr3.out (by omega)).mono ?_
    rintro e w4 ⟨A4, n, c, x, rfl, s4, v4, hn, _, g4⟩
    have X4 : Hid (WI w4 A4 n c x) := Lib.hid (WI.of_slc s4 v4 (by omega))
    have Ad : Hid ((A4 = none ∧ n = 0 ∧ c = 0) ∨ ∃ q, A4 = some ⟨q, 0, none⟩) := Lib.hid (by rcases s4.at_ with ⟨h1, _, h2, h3⟩ | ⟨q, h, _⟩; exact .inl ⟨h1, h2, h3⟩; exact .inr ⟨q, h⟩)
    have R4 : Hid (GIn w4 G m vs gs) := Lib.hid ⟨(Rx3.out.gro g4 hg1).rr, by omega, fun i hi => by have := Ln.out i hi; omega⟩
    have B4 : Hid (Below w.heap.size w w4) := Lib.hid (below_gro8 B3.out g4 (Nat.le_refl _))
    clear s4 v4 g4
    go_wp2_with fail
    go_ret3
    exact ⟨z, G, m, cg, vs, gs, A4, n, c, x, rfl, HZ.out, R4.out, X4.out, Ad.out, B4.out⟩
  · go_wp2_with fail
    refine (drawAnyW w.heap.size w3 Sr3.out).mono ?_
    rintro e w4 ⟨A4, n, c, x, rfl, s4, v4, hn, _, g4⟩
    have X4 : Hid (WI w4 A4 n c x) := Lib.hid (WI.of_slc s4 v4 (by omega))
    have Ad : Hid ((A4 = none ∧ n = 0 ∧ c = 0) ∨ ∃ q, A4 = some ⟨q, 0, none⟩) := Lib.hid (by rcases s4.at_ with ⟨h1, _, h2, h3⟩ | ⟨q, h, _⟩; exact .inl ⟨h1, h2, h3⟩; exact .inr ⟨q, h⟩)
    have R4 : Hid (GIn w4 G m vs gs) := Lib.hid ⟨(Rx3.out.gro g4 hg1).rr, by omega, fun i hi => by have := Ln.out i hi; omega⟩
    have B4 : Hid (Below w.heap.size w w4) := Lib.hid (below_gro8 B3.out g4 (Nat.le_refl _))
    clear s4 v4 g4
    go_wp2_with fail
    go_ret3
    exact ⟨z, G, m, cg, vs, gs, A4, n, c, x, rfl, HZ.out, R4.out, X4.out, Ad.out, B4.out⟩
end Go.Proofs.Ytoaaoikmkomofaa

/- The walk of the law FnFreeReduction: it returns true at every input, and writes nothing that was there. No condition. -/
namespace Go.Proofs.Ytoaaoikmkomofaa
open Go.RowKit

theorem redF_red (x : List Int) : redF (redF x) = redF x := by
  rcases h : vW 8 x with _ | _
  · have e : redF x = [] := by unfold redF; rw [h]; rfl
    rw [e]; rfl
  · have e : redF x = redW x := by unfold redF; rw [if_pos h]
    rw [e]; unfold redF; rw [if_pos (vW_red h), redW_red]
theorem redF_rdc (x : List Int) : Rdc (redF x) := by
  unfold redF
  split
  · exact redW_rdc
  · exact rdc_nil
theorem getD_in {r : List Int} {i : Nat} : r.getD i 0 = 0 ∨ r.getD i 0 ∈ r := by
  by_cases h : i < r.length
  · exact .inr (by rw [List.getD_eq_getElem?_getD, List.getElem?_eq_getElem h]; exact List.getElem_mem _)
  · exact .inl (by rw [List.getD_eq_getElem?_getD, List.getElem?_eq_none (by omega)]; rfl)
theorem redF_small (x : List Int) (i : Nat) : -8 ≤ (redF x).getD i 0 ∧ (redF x).getD i 0 ≤ 8 := by
  unfold redF
  split
  · rename_i h
    rcases getD_in (r := redW x) (i := i) with h2 | h2
    · rw [h2]; omega
    · have := (vW_iff.1 (vW_red h)).2 _ h2; omega
  · simp
theorem wlen_facts (x : List Int) : wlenF x 2 ≤ wlenF x 1 ∧ (¬ wlenF x 1 < 0 → wlenF x 1 = ((redF x).length : Nat)) := by
  rcases h : vW 8 x with _ | _
  · have e : ∀ m, wlenF x m = -1 := fun m => by unfold wlenF; rw [if_neg (by rw [h]; simp)]
    rw [e, e]; exact ⟨Int.le_refl _, fun h => absurd (by omega) h⟩
  · have e1 : wlenF x 1 = ((redW x).length : Nat) := by unfold wlenF; rw [if_pos ⟨h, .inl rfl⟩, lenW_one]
    have e2 : wlenF x 2 = (runW (redW x) (redW x).length : Nat) := by unfold wlenF; rw [if_pos ⟨h, .inr rfl⟩, lenW_two]
    have e3 : redF x = redW x := by unfold redF; rw [if_pos h]
    rw [e1, e2, e3]
    exact ⟨by have := runW_le (redW x) (redW x).length; omega, fun _ => rfl⟩
theorem red_both {x : List Int} (hv : vW 8 x = true) (ok : okF [x, invF x] = true) : redF (catF [x, invF x]) = [] := by
  have e1 : invF x = ivW x := by unfold invF; rw [if_pos hv]
  rw [e1] at ok ⊢
  have e2 : catF [x, ivW x] = x ++ ivW x := by unfold catF; rw [if_pos ok]; simp
  rw [e2]
  unfold redF
  split
  · exact red_inv
  · rfl

set_option maxHeartbeats 8000000 in
set_option maxRecDepth 100000 in
theorem lawFreeReduction (A : Option Addr) (cap len : Nat) (w : World) (hb : SB w w.heap.size A len) :
    Calls Try.prog 4 #[.slice A len cap] w fun e w' => e = .returned (.bool true) ∧ Below w.heap.size w w' := by
  by_cases hl : len ≤ 4096
  · go_enter Try.func4, Try.ntmps4
    go_wp2_with fail
    refine (bigF8 A len cap w hl).mono ?_
    rintro e w0 ⟨rfl, rfl⟩
    go_wp2_with fail
    refine (drawFR len cap A w hb hl).mono ?_
    rintro e w1 ⟨Ax, nx, cx, x, rfl, x1, b1⟩
    have B1 : Hid (Below w.heap.size w w1) := Lib.hid b1
    have X1 := Lib.hid x1
    clear b1 x1
    clear hb
    go_wp2_with fail
    refine (iFR X1.out).mono ?_
    rintro e w2 ⟨A2, n2, c2, rfl, s2, b2⟩
    have B2 : Hid (Below w.heap.size w w2) := Lib.hid (btr B1.out b2)
    have X2 := Lib.hid (X1.out.up b2)
    clear X1
    have R2 : Hid (WI w2 A2 n2 c2 (redF x)) := Lib.hid s2
    clear b2 s2
    obtain ⟨r, er⟩ : ∃ r, redF x = r := ⟨_, rfl⟩
    have Er := Lib.hid er
    have Rr : Hid (redF r = r) := Lib.hid (by rw [← er]; exact redF_red x)
    have Rd : Hid (Rdc r) := Lib.hid (by rw [← er]; exact redF_rdc x)
    have Sm : Hid (∀ i, -8 ≤ r.getD i 0 ∧ r.getD i 0 ≤ 8) := Lib.hid (by rw [← er]; exact redF_small x)
    have R2r : Hid (WI w2 A2 n2 c2 r) := Lib.hid (by rw [← er]; exact R2.out)
    clear R2 er
    go_wp2_with fail
    refine (sFR X2.out).mono ?_
    rintro e w3 ⟨A3, n3, c3, rfl, s3, b3⟩
    have B3 : Hid (Below w.heap.size w w3) := Lib.hid (btr B2.out b3)
    have X3 := Lib.hid (X2.out.up b3)
    clear X2
    have R3 := Lib.hid (R2r.out.up b3)
    clear R2r
    clear b3
    have Q3 : Hid (WI w3 A3 n3 c3 r) := Lib.hid (by rw [← Er.out]; exact s3)
    clear s3
    go_wp2_with fail
    refine (likeW R3.out Q3.out).mono ?_
    rintro e w4 ⟨rfl, b4⟩
    have B4 : Hid (Below w.heap.size w w4) := Lib.hid (btr B3.out b4)
    have X4 := Lib.hid (X3.out.up b4)
    clear X3
    have R4 := Lib.hid (R3.out.up b4)
    clear R3
    have Q4 := Lib.hid (Q3.out.up b4)
    clear Q3
    clear b4
    clear Q4
    go_wp2_with fail
    refine (iFR R4.out).mono ?_
    rintro e w5 ⟨A5, n5, c5, rfl, s5, b5⟩
    have B5 : Hid (Below w.heap.size w w5) := Lib.hid (btr B4.out b5)
    have X5 := Lib.hid (X4.out.up b5)
    clear X4
    have R5 := Lib.hid (R4.out.up b5)
    clear R4
    clear b5
    have Q5 : Hid (WI w5 A5 n5 c5 r) := Lib.hid (by rw [← Rr.out]; exact s5)
    clear s5
    go_wp2_with fail
    refine (likeW Q5.out R5.out).mono ?_
    rintro e w6 ⟨rfl, b6⟩
    have B6 : Hid (Below w.heap.size w w6) := Lib.hid (btr B5.out b6)
    have X6 := Lib.hid (X5.out.up b6)
    clear X5
    have R6 := Lib.hid (R5.out.up b6)
    clear R5
    have Q6 := Lib.hid (Q5.out.up b6)
    clear Q5
    clear b6
    clear Q6
    go_wp2_with fail
    have LR : Hid (r.length = n2) := Lib.hid R6.out.lx
    have hN := R6.out.hn
    go_loopw [5] (fun iv wr => ∃ i : Nat, i ≤ n2 ∧ iv = .int .i64 (i : Nat) ∧ Below w6.heap.size w6 wr) (fun iv _ => n2 - (intOf iv).toNat)
    case atStart => exact ⟨0, Nat.zero_le _, rfl, Below.refl _ _⟩
    case round =>
      obtain ⟨i, hi, rfl, bel⟩ := hrel
      have Bl := Lib.hid bel
      have Be : Hid (Below w.heap.size w wr) := Lib.hid (btr B6.out bel)
      have Xr := Lib.hid (X6.out.up bel)
      clear X6
      have Rr := Lib.hid (R6.out.up bel)
      clear R6
      clear bel
      have wi : IntKind.i64.wrap ((i : Int) + 1) = ((i + 1 : Nat) : Int) := by rw [IntKind.wrap_i64]; omega
      by_cases hlt : i + 1 < n2
      · skip
        have dl : decide (((i + 1 : Nat) : Int) < (n2 : Int)) = true := by simp; omega
        obtain ⟨b, off, eA, hbb, hc⟩ := Rr.out.ri (by rw [LR.out]; omega)
        have c1 := hc i (by rw [LR.out]; omega)
        have c2 := hc (i + 1) (by rw [LR.out]; omega)
        have hd := Rd.out i (by rw [LR.out]; omega)
        have h1 := Sm.out i
        have h2 := Sm.out (i + 1)
        obtain ⟨y, ey⟩ : ∃ y, r.getD i 0 = y := ⟨_, rfl⟩
        obtain ⟨z, ez⟩ : ∃ z, r.getD (i + 1) 0 = z := ⟨_, rfl⟩
        rw [ey] at c1 hd h1
        rw [ez] at c2 hd h2
        have wz : IntKind.i64.wrap (-z) = -z := by rw [IntKind.wrap_i64]; omega
        have de : (y == -z) = false := by simpa using hd
        have p0 : (0 : Int) ≤ i := by omega
        have p1 : (i : Int) < n2 := by omega
        have p2 : (0 : Int) ≤ ((i + 1 : Nat) : Int) := by omega
        have p3 : ((i + 1 : Nat) : Int) < n2 := by omega
        have t1 : (((i + 1 : Nat) : Int)).toNat = i + 1 := rfl
        subst eA
        clear hc ey ez hd
        go_wp2_with fail
        go_quiet (fail)
        go_wp2_with fail
        go_roundw
        case rel => exact ⟨i + 1, by omega, by go_num, below_drewN Bl.out _⟩
        case measure => simp [intOf]; omega
      · skip
        have dl : decide (((i + 1 : Nat) : Int) < (n2 : Int)) = false := by simp; omega
        obtain ⟨w90, ew90⟩ : ∃ w90, wr = w90 := ⟨_, rfl⟩
        subst ew90
        clear Bl
        go_wp2_with fail
        refine (iIV Xr.out).mono ?_
        rintro e w91 ⟨A91, n91, c91, rfl, s91, b91⟩
        have B91 : Hid (Below w.heap.size w w91) := Lib.hid (btr Be.out b91)
        have X91 := Lib.hid (Xr.out.up b91)
        clear Xr
        have R91 := Lib.hid (Rr.out.up b91)
        clear Rr
        have V91 : Hid (WI w91 A91 n91 c91 (invF x)) := Lib.hid s91
        clear b91 s91
        go_wp2_with fail
        refine (iCW X91.out V91.out).mono ?_
        rintro e w92 ⟨A92, n92, c92, rfl, s92, b92⟩
        have B92 : Hid (Below w.heap.size w w92) := Lib.hid (btr B91.out b92)
        have X92 := Lib.hid (X91.out.up b92)
        clear X91
        have R92 := Lib.hid (R91.out.up b92)
        clear R91
        have V92 := Lib.hid (V91.out.up b92)
        clear V91
        have C92 : Hid (WI w92 A92 n92 c92 (catF [x, invF x])) := Lib.hid s92
        clear b92 s92
        clear V92
        rcases hok : okF [x, invF x] with _ | _
        · skip
          go_wp2_with fail
          refine (iLN 1 X92.out).mono ?_
          rintro e w93 ⟨rfl, b93⟩
          have B93 : Hid (Below w.heap.size w w93) := Lib.hid (btr B92.out b93)
          have X93 := Lib.hid (X92.out.up b93)
          clear X92
          have R93 := Lib.hid (R92.out.up b93)
          clear R92
          have C93 := Lib.hid (C92.out.up b93)
          clear C92
          clear b93
          go_wp2_with fail
          refine (iLN 2 X93.out).mono ?_
          rintro e w94 ⟨rfl, b94⟩
          have B94 : Hid (Below w.heap.size w w94) := Lib.hid (btr B93.out b94)
          have X94 := Lib.hid (X93.out.up b94)
          clear X93
          have R94 := Lib.hid (R93.out.up b94)
          clear R93
          have C94 := Lib.hid (C93.out.up b94)
          clear C93
          clear b94
          have W1 := Lib.hid (wlen_facts x)
          obtain ⟨a1, ea1⟩ : ∃ a, wlenF x 1 = a := ⟨_, rfl⟩
          obtain ⟨a2, ea2⟩ : ∃ a, wlenF x 2 = a := ⟨_, rfl⟩
          rw [ea1, ea2] at W1
          rw [ea1, ea2]
          have E1 := Lib.hid ea1
          have E2 := Lib.hid ea2
          clear ea1 ea2
          go_wp2_with fail
          refine (sLN 1 X94.out).mono ?_
          rintro e w95 ⟨rfl, b95⟩
          have B95 : Hid (Below w.heap.size w w95) := Lib.hid (btr B94.out b95)
          have X95 := Lib.hid (X94.out.up b95)
          clear X94
          have R95 := Lib.hid (R94.out.up b95)
          clear R94
          have C95 := Lib.hid (C94.out.up b95)
          clear C94
          clear b95
          rw [E1.out]
          go_wp2_with fail
          refine (sLN 2 X95.out).mono ?_
          rintro e w96 ⟨rfl, b96⟩
          have B96 : Hid (Below w.heap.size w w96) := Lib.hid (btr B95.out b96)
          have X96 := Lib.hid (X95.out.up b96)
          clear X95
          have R96 := Lib.hid (R95.out.up b96)
          clear R95
          have C96 := Lib.hid (C95.out.up b96)
          clear C95
          clear b96
          rw [E2.out]
          have H3 : a2 ≤ a1 := W1.out.1
          have d2 : decide (a2 ≤ a1) = true := decide_eq_true H3
          by_cases h0 : a1 < 0
          · have d3 : decide (a1 < 0) = true := decide_eq_true h0
            have d4 : (a1 == a1) = true := by simp
            have d5 : (a2 == a2) = true := by simp
            go_wp2_with fail
            go_ret
            exact ⟨rfl, B96.out⟩
          · have d3 : decide (a1 < 0) = false := decide_eq_false h0
            have e3 : a1 = (n2 : Int) := by have h := W1.out.2 (by omega); rw [h, Er.out, LR.out]
            have d4 : (a1 == a1) = true := by simp
            have d5 : (a2 == a2) = true := by simp
            have d6 : (a1 == (n2 : Int)) = true := by rw [e3]; simp
            clear e3
            go_wp2_with fail
            go_ret
            exact ⟨rfl, B96.out⟩
        · skip
          have Ok := Lib.hid hok
          clear hok
          go_wp2_with fail
          refine (sVW X92.out).mono ?_
          rintro e w93 ⟨rfl, b93⟩
          have B93 : Hid (Below w.heap.size w w93) := Lib.hid (btr B92.out b93)
          have X93 := Lib.hid (X92.out.up b93)
          clear X92
          have R93 := Lib.hid (R92.out.up b93)
          clear R92
          have C93 := Lib.hid (C92.out.up b93)
          clear C92
          clear b93
          rcases hvx : vW 8 x with _ | _
          · skip
            go_wp2_with fail
            refine (iLN 1 X93.out).mono ?_
            rintro e w94 ⟨rfl, b94⟩
            have B94 : Hid (Below w.heap.size w w94) := Lib.hid (btr B93.out b94)
            have X94 := Lib.hid (X93.out.up b94)
            clear X93
            have R94 := Lib.hid (R93.out.up b94)
            clear R93
            have C94 := Lib.hid (C93.out.up b94)
            clear C93
            clear b94
            go_wp2_with fail
            refine (iLN 2 X94.out).mono ?_
            rintro e w95 ⟨rfl, b95⟩
            have B95 : Hid (Below w.heap.size w w95) := Lib.hid (btr B94.out b95)
            have X95 := Lib.hid (X94.out.up b95)
            clear X94
            have R95 := Lib.hid (R94.out.up b95)
            clear R94
            have C95 := Lib.hid (C94.out.up b95)
            clear C94
            clear b95
            have W1 := Lib.hid (wlen_facts x)
            obtain ⟨a1, ea1⟩ : ∃ a, wlenF x 1 = a := ⟨_, rfl⟩
            obtain ⟨a2, ea2⟩ : ∃ a, wlenF x 2 = a := ⟨_, rfl⟩
            rw [ea1, ea2] at W1
            rw [ea1, ea2]
            have E1 := Lib.hid ea1
            have E2 := Lib.hid ea2
            clear ea1 ea2
            go_wp2_with fail
            refine (sLN 1 X95.out).mono ?_
            rintro e w96 ⟨rfl, b96⟩
            have B96 : Hid (Below w.heap.size w w96) := Lib.hid (btr B95.out b96)
            have X96 := Lib.hid (X95.out.up b96)
            clear X95
            have R96 := Lib.hid (R95.out.up b96)
            clear R95
            have C96 := Lib.hid (C95.out.up b96)
            clear C95
            clear b96
            rw [E1.out]
            go_wp2_with fail
            refine (sLN 2 X96.out).mono ?_
            rintro e w97 ⟨rfl, b97⟩
            have B97 : Hid (Below w.heap.size w w97) := Lib.hid (btr B96.out b97)
            have X97 := Lib.hid (X96.out.up b97)
            clear X96
            have R97 := Lib.hid (R96.out.up b97)
            clear R96
            have C97 := Lib.hid (C96.out.up b97)
            clear C96
            clear b97
            rw [E2.out]
            have H3 : a2 ≤ a1 := W1.out.1
            have d2 : decide (a2 ≤ a1) = true := decide_eq_true H3
            by_cases h0 : a1 < 0
            · have d3 : decide (a1 < 0) = true := decide_eq_true h0
              have d4 : (a1 == a1) = true := by simp
              have d5 : (a2 == a2) = true := by simp
              go_wp2_with fail
              go_ret
              exact ⟨rfl, B97.out⟩
            · have d3 : decide (a1 < 0) = false := decide_eq_false h0
              have e3 : a1 = (n2 : Int) := by have h := W1.out.2 (by omega); rw [h, Er.out, LR.out]
              have d4 : (a1 == a1) = true := by simp
              have d5 : (a2 == a2) = true := by simp
              have d6 : (a1 == (n2 : Int)) = true := by rw [e3]; simp
              clear e3
              go_wp2_with fail
              go_ret
              exact ⟨rfl, B97.out⟩
          · skip
            have Z0 : Hid (redF (catF [x, invF x]) = []) := Lib.hid (red_both hvx Ok.out)
            clear hvx
            go_wp2_with fail
            refine (iFR C93.out).mono ?_
            rintro e w94 ⟨A94, n94, c94, rfl, s94, b94⟩
            have B94 : Hid (Below w.heap.size w w94) := Lib.hid (btr B93.out b94)
            have X94 := Lib.hid (X93.out.up b94)
            clear X93
            have R94 := Lib.hid (R93.out.up b94)
            clear R93
            have C94 := Lib.hid (C93.out.up b94)
            clear C93
            clear b94
            obtain rfl : n94 = 0 := by have := s94.lx; rw [Z0.out] at this; exact this.symm
            clear s94
            go_wp2_with fail
            refine (iLN 1 X94.out).mono ?_
            rintro e w95 ⟨rfl, b95⟩
            have B95 : Hid (Below w.heap.size w w95) := Lib.hid (btr B94.out b95)
            have X95 := Lib.hid (X94.out.up b95)
            clear X94
            have R95 := Lib.hid (R94.out.up b95)
            clear R94
            have C95 := Lib.hid (C94.out.up b95)
            clear C94
            clear b95
            go_wp2_with fail
            refine (iLN 2 X95.out).mono ?_
            rintro e w96 ⟨rfl, b96⟩
            have B96 : Hid (Below w.heap.size w w96) := Lib.hid (btr B95.out b96)
            have X96 := Lib.hid (X95.out.up b96)
            clear X95
            have R96 := Lib.hid (R95.out.up b96)
            clear R95
            have C96 := Lib.hid (C95.out.up b96)
            clear C95
            clear b96
            have W1 := Lib.hid (wlen_facts x)
            obtain ⟨a1, ea1⟩ : ∃ a, wlenF x 1 = a := ⟨_, rfl⟩
            obtain ⟨a2, ea2⟩ : ∃ a, wlenF x 2 = a := ⟨_, rfl⟩
            rw [ea1, ea2] at W1
            rw [ea1, ea2]
            have E1 := Lib.hid ea1
            have E2 := Lib.hid ea2
            clear ea1 ea2
            go_wp2_with fail
            refine (sLN 1 X96.out).mono ?_
            rintro e w97 ⟨rfl, b97⟩
            have B97 : Hid (Below w.heap.size w w97) := Lib.hid (btr B96.out b97)
            have X97 := Lib.hid (X96.out.up b97)
            clear X96
            have R97 := Lib.hid (R96.out.up b97)
            clear R96
            have C97 := Lib.hid (C96.out.up b97)
            clear C96
            clear b97
            rw [E1.out]
            go_wp2_with fail
            refine (sLN 2 X97.out).mono ?_
            rintro e w98 ⟨rfl, b98⟩
            have B98 : Hid (Below w.heap.size w w98) := Lib.hid (btr B97.out b98)
            have X98 := Lib.hid (X97.out.up b98)
            clear X97
            have R98 := Lib.hid (R97.out.up b98)
            clear R97
            have C98 := Lib.hid (C97.out.up b98)
            clear C97
            clear b98
            rw [E2.out]
            have H3 : a2 ≤ a1 := W1.out.1
            have d2 : decide (a2 ≤ a1) = true := decide_eq_true H3
            by_cases h0 : a1 < 0
            · have d3 : decide (a1 < 0) = true := decide_eq_true h0
              have d4 : (a1 == a1) = true := by simp
              have d5 : (a2 == a2) = true := by simp
              go_wp2_with fail
              go_ret
              exact ⟨rfl, B98.out⟩
            · have d3 : decide (a1 < 0) = false := decide_eq_false h0
              have e3 : a1 = (n2 : Int) := by have h := W1.out.2 (by omega); rw [h, Er.out, LR.out]
              have d4 : (a1 == a1) = true := by simp
              have d5 : (a2 == a2) = true := by simp
              have d6 : (a1 == (n2 : Int)) = true := by rw [e3]; simp
              clear e3
              go_wp2_with fail
              go_ret
              exact ⟨rfl, B98.out⟩
  · go_enter Try.func4, Try.ntmps4
    go_wp2_with fail
    refine (bigT8 A len cap w (by omega)).mono ?_
    rintro e w0 ⟨rfl, rfl⟩
    go_wp2
    go_ret
    exact ⟨rfl, Below.refl _ _⟩
end Go.Proofs.Ytoaaoikmkomofaa
