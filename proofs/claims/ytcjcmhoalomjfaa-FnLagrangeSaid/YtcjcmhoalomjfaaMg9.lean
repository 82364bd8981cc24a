/- Part 9 of the texts: RowB, SrcA, DrawG, DrawX, DrawM, DrawS, WalkI4, DrawU. No condition of its own: each text tells its own. -/
import Derived.Test.YtcjcmhoalomjfaaMg2
import Derived.Test.YtcjcmhoalomjfaaMg3
import Derived.Test.YtcjcmhoalomjfaaMg1
import Derived.Test.YtcjcmhoalomjfaaMg4
import Derived.Deep.CutRange
import Derived.Deep.LoopGhost
set_option linter.unusedVariables false
set_option linter.unusedSimpArgs false

/- What the frame of a proof knows of a slice of bytes that came in, in the words of the walks. No condition. -/
namespace Go.Proofs.Ytcjcmhoalomjfaa
open Go.RowKit

theorem SB.of_rowB {w : World} {a : Option Addr} {len cap : Nat} {zs : List Int}
    (h : (a = none ∧ len = 0 ∧ cap = 0 ∧ zs = []) ∨ ∃ x, a = some x ∧ len ≤ cap ∧ cap ≤ maxLen ∧ zs.length = cap ∧ (∀ i, i < zs.length → w.cell? (x.add i) = some (.int .u8 (zs.getD i 0))) ∧ ∀ n ∈ zs, (Lit.int .u8 n).wf = true)
    (hw : ∀ n : Int, (Lit.int .u8 n).wf = true → 0 ≤ n ∧ n ≤ 255) : SB w w.heap.size a len := by
  rcases h with ⟨rfl, rfl, rfl, rfl⟩ | ⟨⟨b, off, spot⟩, rfl, hl, hm, hz, hc, hwf⟩
  · exact fun h => absurd h (by omega)
  · intro hp
    have h0 := hc 0 (by omega)
    have hspot : spot = none := by simpa [Addr.add] using World.cell?_spot h0
    subst hspot
    refine ⟨b, off, rfl, ?_, fun j hj => ?_⟩
    · have := World.block_lt_of_cell? w _ h0
      simpa [Addr.add] using this
    · have hjz : j < zs.length := by omega
      have hr := hw (zs.getD j 0) (hwf _ (by rw [List.getD_eq_getElem?_getD, List.getElem?_eq_getElem hjz]; exact List.getElem_mem _))
      refine ⟨(zs.getD j 0).toNat, by omega, ?_⟩
      rw [Int.toNat_of_nonneg hr.1, ← hc j hjz]
      unfold Addr.add
      split <;> simp_all
end Go.Proofs.Ytcjcmhoalomjfaa

/- The model's draws of any permutation. Condition: degrees from 1 to 20. -/
namespace Go.Proofs.Ytcjcmhoalomjfaa
open Go.RowKit

/-- A literal row of numbers, read later. -/
theorem lit_at {w w1 : World} {g : Nat} {cs : Array Value} {r : Nat} (hg : g < w.heap.size) (hb : (w.alloc (.cells cs 2)).grownBy w1 (some g)) (hr : r < cs.size) (hall : ∀ (i : Nat) (h : i < cs.size), ∃ z : Int, cs[i] = .int .i64 z) : ∃ z : Int, w1.cell? ⟨w.heap.size, r, none⟩ = some (.int .i64 z) := by
  obtain ⟨z, hz⟩ := hall r hr
  refine ⟨z, ?_⟩
  rw [World.cell?_of_block (hb.block w.heap.size (by simp) (by intro e; injection e with e; omega)), World.cell?_alloc_at _ _ _ _ rfl]
  show cs[r]? = _
  rw [Array.getElem?_eq_getElem hr, hz]

set_option maxHeartbeats 1600000 in
theorem srcExtreme (g : Nat) (w : World) (hs : Src w g) :
    Calls Try.prog 135 #[.pointer (some ⟨g, 0, none⟩)] w fun e w' => ∃ z : Int, e = .returned (.int .i64 z) ∧ Src w' g ∧ w.grownBy w' (some g) := by
  have hg := hs.lt
  have Hs := Lib.hid hs
  clear hs
  go_enter Try.func135, Try.ntmps135
  go_wp2_with fail
  refine (srcBelow g _ 10 _ (Hs.out.below ((Below.refl w.heap.size w).alloc (Nat.le_refl _) _) hg) rfl (by omega) (by omega)).mono ?_
  rintro e w1 ⟨r, hr, rfl, s1, g1⟩
  have S1 := Lib.hid s1
  have G1 : Hid (w.grownBy w1 (some g)) := Lib.hid (grown_trans' (grown_alloc2 (grown_refl _ _) _) g1)
  obtain ⟨z, hz⟩ := lit_at (r := r) hg g1 hr (by
    intro i h
    have h : i < 10 := h
    rcases i with _ | _ | _ | _ | _ | _ | _ | _ | _ | _ | i
    all_goals first | exact ⟨_, rfl⟩ | omega)
  have p0 : (0 : Int) ≤ r := by omega
  have p1 : (r : Int) < 10 := by omega
  clear s1 g1
  go_wp2_with fail
  go_ret
  exact ⟨z, rfl, S1.out, G1.out⟩

set_option maxHeartbeats 1600000 in
theorem srcNumber (g n : Nat) (w : World) (hs : Src w g) (h1 : 1 ≤ n) (hn : n ≤ 100) :
    Calls Try.prog 123 #[.pointer (some ⟨g, 0, none⟩), .int .i64 (n : Int)] w fun e w' => ∃ z : Int, e = .returned (.int .i64 z) ∧ Src w' g ∧ w.grownBy w' (some g) := by
  go_enter Try.func123, Try.ntmps123
  go_wp2_with fail
  refine (srcOne g _ 10 w hs rfl (by omega) (by omega)).mono ?_
  rintro e w1 ⟨b, rfl, s1, g1⟩
  have S1 := Lib.hid s1
  have G1 := Lib.hid g1
  clear s1 g1
  cases b
  · go_wp2_with fail
    refine (srcOne g _ 2 w1 S1.out rfl (by omega) (by omega)).mono ?_
    rintro e w2 ⟨b, rfl, s2, g2⟩
    have S2 := Lib.hid s2
    have G2 : Hid (w.grownBy w2 (some g)) := Lib.hid (grown_trans' G1.out g2)
    clear s2 g2
    cases b
    · go_wp2_with fail
      refine (srcBelow g _ (n + 1) w2 S2.out (by omega) (by omega) (by omega)).mono ?_
      rintro e w3 ⟨r, hr, rfl, s3, g3⟩
      have S3 := Lib.hid s3
      have G3 : Hid (w.grownBy w3 (some g)) := Lib.hid (grown_trans' G2.out g3)
      clear s3 g3
      go_wp2_with fail
      go_ret
      exact ⟨r, rfl, S3.out, G3.out⟩
    · by_cases h4 : n ≤ 4
      · have hm : (min (n : Int) 4) = (n : Int) := by omega
        have d4 : decide ((n : Int) ≤ 4) = true := by simp; omega
        go_wp2_with fail
        refine (srcBelow g _ (n + 1) w2 S2.out (by omega) (by omega) (by omega)).mono ?_
        rintro e w3 ⟨r, hr, rfl, s3, g3⟩
        have S3 := Lib.hid s3
        have G3 : Hid (w.grownBy w3 (some g)) := Lib.hid (grown_trans' G2.out g3)
        clear s3 g3
        go_wp2_with fail
        go_ret
        exact ⟨r, rfl, S3.out, G3.out⟩
      · have hm : (min (n : Int) 4) = 4 := by omega
        have d4 : decide ((n : Int) ≤ 4) = false := by simp; omega
        go_wp2_with fail
        refine (srcBelow g _ (5) w2 S2.out (by omega) (by omega) (by omega)).mono ?_
        rintro e w3 ⟨r, hr, rfl, s3, g3⟩
        have S3 := Lib.hid s3
        have G3 : Hid (w.grownBy w3 (some g)) := Lib.hid (grown_trans' G2.out g3)
        clear s3 g3
        go_wp2_with fail
        go_ret
        exact ⟨r, rfl, S3.out, G3.out⟩
  · go_wp2_with fail
    refine (srcExtreme g w1 S1.out).mono ?_
    rintro e w2 ⟨z, rfl, s2, g2⟩
    have S2 := Lib.hid s2
    have hg2 := s2.lt
    have G2 : Hid (w.grownBy w2 (some g)) := Lib.hid (grown_trans' G1.out g2)
    clear s2 g2
    go_wp2_with fail
    refine (srcBelow g _ 4 _ (S2.out.below ((Below.refl w2.heap.size w2).alloc (Nat.le_refl _) _) hg2) rfl (by omega) (by omega)).mono ?_
    rintro e w3 ⟨r, hr, rfl, s3, g3⟩
    have S3 := Lib.hid s3
    have G3 : Hid (w.grownBy w3 (some g)) := Lib.hid (grown_trans' (grown_alloc2 G2.out _) g3)
    obtain ⟨y, hy⟩ := lit_at (r := r) hg2 g3 hr (by
      intro i h
      have h : i < 4 := h
      rcases i with _ | _ | _ | _ | i
      all_goals first | exact ⟨_, rfl⟩ | omega)
    have p0 : (0 : Int) ≤ r := by omega
    have p1 : (r : Int) < 4 := by omega
    clear s3 g3
    go_wp2_with fail
    go_ret
    exact ⟨y, rfl, S3.out, G3.out⟩

/-- What can be read: m numbers, in a block from base on. -/
def Pm (w : World) (base : Nat) (A : Option Addr) (m c : Nat) (xs : List Int) : Prop :=
  xs.length = m ∧ m ≤ c ∧ (0 < m → ∃ b off, A = some ⟨b, off, none⟩ ∧ base ≤ b ∧ b < w.heap.size ∧ ∀ j, j < m → w.cell? ⟨b, off + j, none⟩ = some (.int .i64 (xs.getD j 0)))
theorem Pm.of_slc {w : World} {base n c : Nat} {A : Option Addr} {xs : List Int} (h : Slc w base A n c xs) : Pm w base A n c xs := by
  refine ⟨h.1, h.le.1, fun hp => ?_⟩
  have hri := h.ri_
  obtain ⟨b, o, e, hb, hc⟩ := hri (by rw [h.1]; exact hp)
  refine ⟨b, o, e, (h.lt_ b (by subst e; rfl)).1, hb, fun j hj => hc j (by rw [h.1]; exact hj)⟩
theorem Pm.ri {w : World} {base n c : Nat} {A : Option Addr} {xs : List Int} (h : Pm w base A n c xs) : RI w w.heap.size A xs := fun hp => by
  obtain ⟨b, o, e, h1, h2, hc⟩ := h.2.2 (by rw [← h.1]; exact hp)
  exact ⟨b, o, e, h2, fun j hj => hc j (by rw [← h.1]; exact hj)⟩
theorem Pm.gro {w w' : World} {base n c g : Nat} {A : Option Addr} {xs : List Int} (h : Pm w base A n c xs) (hg : w.grownBy w' (some g)) (hb : g < base) : Pm w' base A n c xs := by
  refine ⟨h.1, h.2.1, fun hp => ?_⟩
  obtain ⟨b, o, e, h1, h2, hc⟩ := h.2.2 hp
  exact ⟨b, o, e, h1, Nat.lt_of_lt_of_le h2 hg.size, fun j hj => (World.cell?_of_block (a := ⟨b, o + j, none⟩) (hg.block b h2 (by intro e2; injection e2 with e2; omega))).trans (hc j hj)⟩
theorem Pm.up {w w' : World} {base n c : Nat} {A : Option Addr} {xs : List Int} (h : Pm w base A n c xs) (hb : Below w.heap.size w w') : Pm w' base A n c xs := by
  refine ⟨h.1, h.2.1, fun hp => ?_⟩
  obtain ⟨b, o, e, h1, h2, hc⟩ := h.2.2 hp
  exact ⟨b, o, e, h1, Nat.lt_of_lt_of_le h2 hb.size, fun j hj => (hb.cell (p := ⟨b, o + j, none⟩) h2).trans (hc j hj)⟩
theorem Pm.mono {w : World} {base base' n c : Nat} {A : Option Addr} {xs : List Int} (h : Pm w base A n c xs) (hb : base' ≤ base) : Pm w base' A n c xs := by
  refine ⟨h.1, h.2.1, fun hp => ?_⟩
  obtain ⟨b, o, e, h1, h2, hc⟩ := h.2.2 hp
  exact ⟨b, o, e, by omega, h2, hc⟩
theorem Pm.tail {w : World} {base n c q : Nat} {xs : List Int} (h : Slc w base (some ⟨q, 0, none⟩) n c xs) {A : Option Addr} (hA : 1 < n → A = some ⟨q, 1, none⟩) : Pm w base A (n - 1) (c - 1) (xs.drop 1) := by
  refine ⟨by rw [List.length_drop, h.1], by have := h.le.1; omega, fun hp => ?_⟩
  have hri : RI w w.heap.size (some ⟨q, 0, none⟩) xs := h.ri_
  have lx := h.1
  refine ⟨q, 1, hA (by omega), (h.lt_ q rfl).1, (h.lt_ q rfl).2, fun j hj => ?_⟩
  have := (hri.cellAt (j := 1 + j) (by omega)).2
  rw [Nat.zero_add] at this
  rw [this, List.getD_eq_getElem?_getD, List.getD_eq_getElem?_getD, List.getElem?_drop]

theorem grown_below3 {w w1 w' : World} {row : Option Nat} (h : w.grownBy w1 row) (b : Below w.heap.size w1 w') : w.grownBy w' row :=
  ⟨b.os.trans h.os, b.tape.trans h.tape, b.output.trans h.output, Nat.le_trans h.size b.size, fun k hk hn => (b.block k hk).trans (h.block k hk hn)⟩
theorem drawPermK (g n : Nat) (N : Int) (w : World) (hs : Src w g) (hN : N = (n : Int)) (hn : n ≤ 100) :
    Calls Try.prog 125 #[.pointer (some ⟨g, 0, none⟩), .int .i64 N] w fun e w' => ∃ q c xs, e = .returned (.slice (some ⟨q, 0, none⟩) n c) ∧ Slc w' w.heap.size (some ⟨q, 0, none⟩) n c xs ∧ Src w' g ∧ w.grownBy w' (some g) := by
  subst hN; exact drawPerm g n w hs hn
theorem grown_far {w w1 : World} {g q : Nat} (h : w.grownBy w1 (some g)) (hq : w.heap.size ≤ q) (j : Nat) (u : Value) : w.grownBy (w1.setCell ⟨q, j, none⟩ u) (some g) :=
  ⟨h.os, h.tape, h.output, by simpa [World.setCell] using h.size, fun k hk hn => (Below.heap_setCell w1 _ u k (by show k ≠ q; omega)).trans (h.block k hk hn)⟩

set_option maxHeartbeats 4000000 in
theorem drawAny (g n : Nat) (w : World) (hs : Src w g) (h1 : 1 ≤ n) (hn : n ≤ 20) :
    Calls Try.prog 96 #[.pointer (some ⟨g, 0, none⟩), .int .i64 (n : Int)] w fun e w' => ∃ A m c xs, e = .returned (.slice A m c) ∧ Pm w' w.heap.size A m c xs ∧ m ≤ 21 ∧ Src w' g ∧ w.grownBy w' (some g) := by
  have hg := hs.lt
  go_enter Try.func96, Try.ntmps96
  go_wp2_with fail
  refine (drawPerm g n w hs (by omega)).mono ?_
  rintro e w1 ⟨q, c, xs, rfl, sl1, s1, g1⟩
  have Sl1 := Lib.hid sl1
  have S1 := Lib.hid s1
  have G1 := Lib.hid g1
  have hq := (sl1.lt_ q rfl).1
  have hnc := sl1.le.1
  clear sl1 s1 g1
  go_wp2_with fail
  refine (srcOne g _ 12 w1 S1.out rfl (by omega) (by omega)).mono ?_
  rintro e w2 ⟨b2, rfl, s2, g2⟩
  have S2 := Lib.hid s2
  have G2 : Hid (w.grownBy w2 (some g)) := Lib.hid (grown_trans' G1.out g2)
  have Sl2 : Hid (Slc w2 w.heap.size (some ⟨q, 0, none⟩) n c xs) := Lib.hid (Sl1.out.kept g2 (.inr (by intro e; simp [Value.ownBlock] at e; omega)))
  clear s2 g2
  have hn0 : 0 < n := by omega
  cases b2
  · have S4 := S2
    have G4 := G2
    have P4 := Lib.hid (Pm.of_slc Sl2.out)
    have hm4 : n ≤ 21 := by omega
    go_wp2_with fail
    refine (srcOne g _ 60 _ S4.out rfl (by omega) (by omega)).mono ?_
    rintro e w5 ⟨b5, rfl, s5, g5⟩
    have S5 := Lib.hid s5
    have G5 : Hid (w.grownBy w5 (some g)) := Lib.hid (grown_trans' G4.out g5)
    have P5 := Lib.hid (P4.out.gro g5 hg)
    clear s5 g5
    cases b5
    · go_wp2_with fail
      go_ret
      exact ⟨_, _, _, _, rfl, P5.out, hm4, S5.out, G5.out⟩
    · go_wp2_with fail
      refine (srcBelow g _ 2 w5 S5.out rfl (by omega) (by omega)).mono ?_
      rintro e w6 ⟨r6, hr6, rfl, s6, g6⟩
      have S6 := Lib.hid s6
      have G6 : Hid (w.grownBy w6 (some g)) := Lib.hid (grown_trans' G5.out g6)
      clear s6 g6
      go_wp2_with fail
      refine (drawPermK g (20 + r6) _ w6 S6.out (by push_cast; rfl) (by omega)).mono ?_
      rintro e w7 ⟨q7, c7, xs7, rfl, sl7, s7, g7⟩
      have S7 := Lib.hid s7
      have G7 : Hid (w.grownBy w7 (some g)) := Lib.hid (grown_trans' G6.out g7)
      have P7 : Hid (Pm w7 w.heap.size (some ⟨q7, 0, none⟩) (20 + r6) c7 xs7) := Lib.hid ((Pm.of_slc sl7).mono G6.out.size)
      clear s7 g7 sl7
      go_wp2_with fail
      go_ret
      exact ⟨_, _, _, _, rfl, P7.out, by omega, S7.out, G7.out⟩
  · go_wp2_with fail
    refine (srcBelow g _ 3 w2 S2.out rfl (by omega) (by omega)).mono ?_
    rintro e w3 ⟨r3, hr3, rfl, s3, g3⟩
    have S3 := Lib.hid s3
    have G3 : Hid (w.grownBy w3 (some g)) := Lib.hid (grown_trans' G2.out g3)
    have Sl3 : Hid (Slc w3 w.heap.size (some ⟨q, 0, none⟩) n c xs) := Lib.hid (Sl2.out.kept g3 (.inr (by intro e; simp [Value.ownBlock] at e; omega)))
    clear s3 g3
    obtain rfl | rfl | rfl : r3 = 0 ∨ r3 = 1 ∨ r3 = 2 := by omega
    · go_wp2_with fail
      refine (srcBelow g _ n w3 S3.out rfl (by omega) (by omega)).mono ?_
      rintro e w8 ⟨i, hi, rfl, s8, g8⟩
      have S8 := Lib.hid s8
      have G8 : Hid (w.grownBy w8 (some g)) := Lib.hid (grown_trans' G3.out g8)
      have Sl8 : Hid (Slc w8 w.heap.size (some ⟨q, 0, none⟩) n c xs) := Lib.hid (Sl3.out.kept g8 (.inr (by intro e; simp [Value.ownBlock] at e; omega)))
      clear s8 g8
      go_wp2_with fail
      refine (srcNumber g n w8 S8.out h1 (by omega)).mono ?_
      rintro e w9 ⟨z, rfl, s9, g9⟩
      have row : Row w9 w.heap.size q n c xs := Row.of_own (by have := (Sl8.out.kept g9 (.inr (by intro e; simp [Value.ownBlock] at e; omega))); have h2 := this.2; rw [← this.1] at h2; rw [this.1] at h2; exact h2)
      have c9 := row.cell hi
      have f9 := row.free i
      have p0 : (0 : Int) ≤ i := by omega
      have p1 : (i : Int) < n := by omega
      have P4 := Lib.hid (Pm.of_slc (row.store i z).slc)
      have S4 : Hid (Src (w9.setCell ⟨q, i, none⟩ (.int .i64 z)) g) := Lib.hid (s9.below ((Below.refl (g + 1) w9).setCell (by show g + 1 ≤ q; omega) _) (by omega))
      have G4 : Hid (w.grownBy (w9.setCell ⟨q, i, none⟩ (.int .i64 z)) (some g)) := Lib.hid (grown_far (grown_trans' G8.out g9) hq _ _)
      have hm4 : n ≤ 21 := by omega
      clear s9 g9 row
      go_wp2_with fail
      refine (srcOne g _ 60 _ S4.out rfl (by omega) (by omega)).mono ?_
      rintro e w5 ⟨b5, rfl, s5, g5⟩
      have S5 := Lib.hid s5
      have G5 : Hid (w.grownBy w5 (some g)) := Lib.hid (grown_trans' G4.out g5)
      have P5 := Lib.hid (P4.out.gro g5 hg)
      clear s5 g5
      cases b5
      · go_wp2_with fail
        go_ret
        exact ⟨_, _, _, _, rfl, P5.out, hm4, S5.out, G5.out⟩
      · go_wp2_with fail
        refine (srcBelow g _ 2 w5 S5.out rfl (by omega) (by omega)).mono ?_
        rintro e w6 ⟨r6, hr6, rfl, s6, g6⟩
        have S6 := Lib.hid s6
        have G6 : Hid (w.grownBy w6 (some g)) := Lib.hid (grown_trans' G5.out g6)
        clear s6 g6
        go_wp2_with fail
        refine (drawPermK g (20 + r6) _ w6 S6.out (by push_cast; rfl) (by omega)).mono ?_
        rintro e w7 ⟨q7, c7, xs7, rfl, sl7, s7, g7⟩
        have S7 := Lib.hid s7
        have G7 : Hid (w.grownBy w7 (some g)) := Lib.hid (grown_trans' G6.out g7)
        have P7 : Hid (Pm w7 w.heap.size (some ⟨q7, 0, none⟩) (20 + r6) c7 xs7) := Lib.hid ((Pm.of_slc sl7).mono G6.out.size)
        clear s7 g7 sl7
        go_wp2_with fail
        go_ret
        exact ⟨_, _, _, _, rfl, P7.out, by omega, S7.out, G7.out⟩
    · have p1 : (1 : Int) ≤ n := by omega
      have p2 : (1 : Int) ≤ c := by omega
      have S4 := S3
      have G4 := G3
      have hm4 : n - 1 ≤ 21 := by omega
      by_cases hc1 : c = 1
      · have P4 : Hid (Pm w3 w.heap.size (some ⟨q, 0, none⟩) (n - 1) 0 (xs.drop 1)) := Lib.hid (by have := Pm.tail (A := some ⟨q, 0, none⟩) Sl3.out (fun h => by omega); rw [show c - 1 = 0 by omega] at this; exact this)
        go_wp2_with fail
        refine (srcOne g _ 60 _ S4.out rfl (by omega) (by omega)).mono ?_
        rintro e w5 ⟨b5, rfl, s5, g5⟩
        have S5 := Lib.hid s5
        have G5 : Hid (w.grownBy w5 (some g)) := Lib.hid (grown_trans' G4.out g5)
        have P5 := Lib.hid (P4.out.gro g5 hg)
        clear s5 g5
        cases b5
        · go_wp2_with fail
          go_ret
          exact ⟨_, _, _, _, rfl, P5.out, hm4, S5.out, G5.out⟩
        · go_wp2_with fail
          refine (srcBelow g _ 2 w5 S5.out rfl (by omega) (by omega)).mono ?_
          rintro e w6 ⟨r6, hr6, rfl, s6, g6⟩
          have S6 := Lib.hid s6
          have G6 : Hid (w.grownBy w6 (some g)) := Lib.hid (grown_trans' G5.out g6)
          clear s6 g6
          go_wp2_with fail
          refine (drawPermK g (20 + r6) _ w6 S6.out (by push_cast; rfl) (by omega)).mono ?_
          rintro e w7 ⟨q7, c7, xs7, rfl, sl7, s7, g7⟩
          have S7 := Lib.hid s7
          have G7 : Hid (w.grownBy w7 (some g)) := Lib.hid (grown_trans' G6.out g7)
          have P7 : Hid (Pm w7 w.heap.size (some ⟨q7, 0, none⟩) (20 + r6) c7 xs7) := Lib.hid ((Pm.of_slc sl7).mono G6.out.size)
          clear s7 g7 sl7
          go_wp2_with fail
          go_ret
          exact ⟨_, _, _, _, rfl, P7.out, by omega, S7.out, G7.out⟩
      · have P4 : Hid (Pm w3 w.heap.size (some ⟨q, 1, none⟩) (n - 1) (c - 1) (xs.drop 1)) := Lib.hid (Pm.tail Sl3.out (fun _ => rfl))
        go_wp2_with fail
        refine (srcOne g _ 60 _ S4.out rfl (by omega) (by omega)).mono ?_
        rintro e w5 ⟨b5, rfl, s5, g5⟩
        have S5 := Lib.hid s5
        have G5 : Hid (w.grownBy w5 (some g)) := Lib.hid (grown_trans' G4.out g5)
        have P5 := Lib.hid (P4.out.gro g5 hg)
        clear s5 g5
        cases b5
        · go_wp2_with fail
          go_ret
          exact ⟨_, _, _, _, rfl, P5.out, hm4, S5.out, G5.out⟩
        · go_wp2_with fail
          refine (srcBelow g _ 2 w5 S5.out rfl (by omega) (by omega)).mono ?_
          rintro e w6 ⟨r6, hr6, rfl, s6, g6⟩
          have S6 := Lib.hid s6
          have G6 : Hid (w.grownBy w6 (some g)) := Lib.hid (grown_trans' G5.out g6)
          clear s6 g6
          go_wp2_with fail
          refine (drawPermK g (20 + r6) _ w6 S6.out (by push_cast; rfl) (by omega)).mono ?_
          rintro e w7 ⟨q7, c7, xs7, rfl, sl7, s7, g7⟩
          have S7 := Lib.hid s7
          have G7 : Hid (w.grownBy w7 (some g)) := Lib.hid (grown_trans' G6.out g7)
          have P7 : Hid (Pm w7 w.heap.size (some ⟨q7, 0, none⟩) (20 + r6) c7 xs7) := Lib.hid ((Pm.of_slc sl7).mono G6.out.size)
          clear s7 g7 sl7
          go_wp2_with fail
          go_ret
          exact ⟨_, _, _, _, rfl, P7.out, by omega, S7.out, G7.out⟩
    · have hz := G3.out.size
      go_wp2_with (first | (at_builtin; refine wpList_app1 rfl _ _ rfl w.heap.size (some ⟨q, 0, none⟩) n c _ rfl (Sl3.out.alloc _) w3.heap.size (n : Int) rfl (by rw [World.cell?_alloc_at _ _ _ _ rfl]; rfl) (by omega) (by simp; omega) ?_; intro A4 c4 w4 s4 g4))
      have P4 := Lib.hid (Pm.of_slc s4)
      have B4 : Below w.heap.size w3 w4 := ((Below.refl _ w3).alloc hz _).grown g4 (by simp; omega) (fun j hj => (Sl3.out.lt_ j hj).1)
      have S4 : Hid (Src w4 g) := Lib.hid (S3.out.below B4 hg)
      have G4 : Hid (w.grownBy w4 (some g)) := Lib.hid (grown_below3 G3.out B4)
      have hm4 : n + 1 ≤ 21 := by omega
      clear s4 g4 B4
      go_wp2_with fail
      refine (srcOne g _ 60 _ S4.out rfl (by omega) (by omega)).mono ?_
      rintro e w5 ⟨b5, rfl, s5, g5⟩
      have S5 := Lib.hid s5
      have G5 : Hid (w.grownBy w5 (some g)) := Lib.hid (grown_trans' G4.out g5)
      have P5 := Lib.hid (P4.out.gro g5 hg)
      clear s5 g5
      cases b5
      · go_wp2_with fail
        go_ret
        exact ⟨_, _, _, _, rfl, P5.out, hm4, S5.out, G5.out⟩
      · go_wp2_with fail
        refine (srcBelow g _ 2 w5 S5.out rfl (by omega) (by omega)).mono ?_
        rintro e w6 ⟨r6, hr6, rfl, s6, g6⟩
        have S6 := Lib.hid s6
        have G6 : Hid (w.grownBy w6 (some g)) := Lib.hid (grown_trans' G5.out g6)
        clear s6 g6
        go_wp2_with fail
        refine (drawPermK g (20 + r6) _ w6 S6.out (by push_cast; rfl) (by omega)).mono ?_
        rintro e w7 ⟨q7, c7, xs7, rfl, sl7, s7, g7⟩
        have S7 := Lib.hid s7
        have G7 : Hid (w.grownBy w7 (some g)) := Lib.hid (grown_trans' G6.out g7)
        have P7 : Hid (Pm w7 w.heap.size (some ⟨q7, 0, none⟩) (20 + r6) c7 xs7) := Lib.hid ((Pm.of_slc sl7).mono G6.out.size)
        clear s7 g7 sl7
        go_wp2_with fail
        go_ret
        exact ⟨_, _, _, _, rfl, P7.out, by omega, S7.out, G7.out⟩
end Go.Proofs.Ytcjcmhoalomjfaa

/- The model's draws of numbers, with their bounds; draws of generators and of groups. Condition: at most 4096 bytes. -/
namespace Go.Proofs.Ytcjcmhoalomjfaa
open Go.RowKit

/-- The bounds of an int64. -/
def B64 (z : Int) : Prop := -9223372036854775808 ≤ z ∧ z ≤ 9223372036854775807
/-- A literal row of numbers, read later. -/
theorem lit_atB {w w1 : World} {g : Nat} {cs : Array Value} {r : Nat} (hg : g < w.heap.size) (hb : (w.alloc (.cells cs 2)).grownBy w1 (some g)) (hr : r < cs.size) (hall : ∀ (i : Nat) (h : i < cs.size), ∃ z : Int, cs[i] = .int .i64 z ∧ B64 z) : ∃ z : Int, w1.cell? ⟨w.heap.size, r, none⟩ = some (.int .i64 z) ∧ B64 z := by
  obtain ⟨z, hz, hB⟩ := hall r hr
  refine ⟨z, ?_, hB⟩
  rw [World.cell?_of_block (hb.block w.heap.size (by simp) (by intro e; injection e with e; omega)), World.cell?_alloc_at _ _ _ _ rfl]
  show cs[r]? = _
  rw [Array.getElem?_eq_getElem hr, hz]

set_option maxHeartbeats 1600000 in
theorem srcExtremeB (g : Nat) (w : World) (hs : Src w g) :
    Calls Try.prog 135 #[.pointer (some ⟨g, 0, none⟩)] w fun e w' => ∃ z : Int, e = .returned (.int .i64 z) ∧ B64 z ∧ Src w' g ∧ w.grownBy w' (some g) := by
  have hg := hs.lt
  have Hs := Lib.hid hs
  clear hs
  go_enter Try.func135, Try.ntmps135
  go_wp2_with fail
  refine (srcBelow g _ 10 _ (Hs.out.below ((Below.refl w.heap.size w).alloc (Nat.le_refl _) _) hg) rfl (by omega) (by omega)).mono ?_
  rintro e w1 ⟨r, hr, rfl, s1, g1⟩
  have S1 := Lib.hid s1
  have G1 : Hid (w.grownBy w1 (some g)) := Lib.hid (grown_trans' (grown_alloc2 (grown_refl _ _) _) g1)
  obtain ⟨z, hz, hzB⟩ := lit_atB (r := r) hg g1 hr (by
    intro i h
    have h : i < 10 := h
    rcases i with _ | _ | _ | _ | _ | _ | _ | _ | _ | _ | i
    all_goals first | exact ⟨_, rfl, by unfold B64; omega⟩ | omega)
  have p0 : (0 : Int) ≤ r := by omega
  have p1 : (r : Int) < 10 := by omega
  clear s1 g1
  go_wp2_with fail
  go_ret
  exact ⟨z, rfl, hzB, S1.out, G1.out⟩

set_option maxHeartbeats 1600000 in
theorem srcNumberB (g n : Nat) (w : World) (hs : Src w g) (h1 : 1 ≤ n) (hn : n ≤ 100) :
    Calls Try.prog 123 #[.pointer (some ⟨g, 0, none⟩), .int .i64 (n : Int)] w fun e w' => ∃ z : Int, e = .returned (.int .i64 z) ∧ B64 z ∧ Src w' g ∧ w.grownBy w' (some g) := by
  go_enter Try.func123, Try.ntmps123
  go_wp2_with fail
  refine (srcOne g _ 10 w hs rfl (by omega) (by omega)).mono ?_
  rintro e w1 ⟨b, rfl, s1, g1⟩
  have S1 := Lib.hid s1
  have G1 := Lib.hid g1
  clear s1 g1
  cases b
  · go_wp2_with fail
    refine (srcOne g _ 2 w1 S1.out rfl (by omega) (by omega)).mono ?_
    rintro e w2 ⟨b, rfl, s2, g2⟩
    have S2 := Lib.hid s2
    have G2 : Hid (w.grownBy w2 (some g)) := Lib.hid (grown_trans' G1.out g2)
    clear s2 g2
    cases b
    · go_wp2_with fail
      refine (srcBelow g _ (n + 1) w2 S2.out (by omega) (by omega) (by omega)).mono ?_
      rintro e w3 ⟨r, hr, rfl, s3, g3⟩
      have S3 := Lib.hid s3
      have G3 : Hid (w.grownBy w3 (some g)) := Lib.hid (grown_trans' G2.out g3)
      clear s3 g3
      go_wp2_with fail
      go_ret
      exact ⟨r, rfl, by unfold B64; omega, S3.out, G3.out⟩
    · by_cases h4 : n ≤ 4
      · have hm : (min (n : Int) 4) = (n : Int) := by omega
        have d4 : decide ((n : Int) ≤ 4) = true := by simp; omega
        go_wp2_with fail
        refine (srcBelow g _ (n + 1) w2 S2.out (by omega) (by omega) (by omega)).mono ?_
        rintro e w3 ⟨r, hr, rfl, s3, g3⟩
        have S3 := Lib.hid s3
        have G3 : Hid (w.grownBy w3 (some g)) := Lib.hid (grown_trans' G2.out g3)
        clear s3 g3
        go_wp2_with fail
        go_ret
        exact ⟨r, rfl, by unfold B64; omega, S3.out, G3.out⟩
      · have hm : (min (n : Int) 4) = 4 := by omega
        have d4 : decide ((n : Int) ≤ 4) = false := by simp; omega
        go_wp2_with fail
        refine (srcBelow g _ (5) w2 S2.out (by omega) (by omega) (by omega)).mono ?_
        rintro e w3 ⟨r, hr, rfl, s3, g3⟩
        have S3 := Lib.hid s3
        have G3 : Hid (w.grownBy w3 (some g)) := Lib.hid (grown_trans' G2.out g3)
        clear s3 g3
        go_wp2_with fail
        go_ret
        exact ⟨r, rfl, by unfold B64; omega, S3.out, G3.out⟩
  · go_wp2_with fail
    refine (srcExtremeB g w1 S1.out).mono ?_
    rintro e w2 ⟨z, rfl, hzB, s2, g2⟩
    have S2 := Lib.hid s2
    have hg2 := s2.lt
    have G2 : Hid (w.grownBy w2 (some g)) := Lib.hid (grown_trans' G1.out g2)
    clear s2 g2
    go_wp2_with fail
    refine (srcBelow g _ 4 _ (S2.out.below ((Below.refl w2.heap.size w2).alloc (Nat.le_refl _) _) hg2) rfl (by omega) (by omega)).mono ?_
    rintro e w3 ⟨r, hr, rfl, s3, g3⟩
    have S3 := Lib.hid s3
    have G3 : Hid (w.grownBy w3 (some g)) := Lib.hid (grown_trans' (grown_alloc2 G2.out _) g3)
    obtain ⟨y, hy, hyB⟩ := lit_atB (r := r) hg2 g3 hr (by
      intro i h
      have h : i < 4 := h
      rcases i with _ | _ | _ | _ | i
      all_goals first | exact ⟨_, rfl, by unfold B64; omega⟩ | exact ⟨_, rfl, hzB⟩ | omega)
    have p0 : (0 : Int) ≤ r := by omega
    have p1 : (r : Int) < 4 := by omega
    clear s3 g3
    go_wp2_with fail
    go_ret
    exact ⟨y, rfl, hyB, S3.out, G3.out⟩


section
variable {w w' : World} {base n c : Nat} {A : Option Addr} {vs : List SV} {xss : List (List Int)}
/-- Kept where a block turned that is none of its own. -/
theorem SS.farR {r lo hi : Nat} (h : SS w base base A n c vs xss) (hg : w.grownBy w' (some r)) (hA : ∀ k, (Value.slice A n c).ownBlock = some k → lo ≤ k ∧ k < hi) (hI : ∀ i, i < n → ∀ k, (sval (vs.getD i sd0)).ownBlock = some k → lo ≤ k ∧ k < hi) (hr : r < lo ∨ hi ≤ r) : SS w' base base A n c vs xss := by
  have ne : ∀ (v : Value), (∀ k, v.ownBlock = some k → lo ≤ k ∧ k < hi) → v.ownBlock = none ∨ v.ownBlock ≠ some r := fun v hv => by
    rcases e : v.ownBlock with _ | k
    · exact .inl rfl
    · exact .inr fun e2 => by injection e2 with e2; have := hv k e; omega
  exact ⟨World.ownsRow.kept h.own hg (ne _ hA), h.lv, h.lx, fun i hi' => (h.row i hi').kept hg (ne _ (hI i hi')), h.dis⟩
/-- A slice that can be read, appended onto a slice of slices of the call's own. -/
theorem wpList_app2R {ops : Array Oper} {rest : List Oper} {o : Oper} {a : Act} {Q : Exit → Act → World → Prop} (hgd : o.guard = none) (s x : Operand)
    (ho : o.op = .call { callee := .builtin .append, args := #[s, x], argTypes := #[24, 24] })
    (hs : a.eval s = .slice A n c) (hss : SS w base base A n c vs xss) (g : Nat) (dA : Option Addr) (dn dc lo : Nat) (ys : List Int) (hx : a.eval x = .slice (some ⟨g, 0, none⟩) 1 1)
    (hcell : w.cell? ⟨g, 0, none⟩ = some (.slice dA dn dc)) (hys : Pm w lo dA dn dc ys) (hlo : ∀ k, (Value.slice A n c).ownBlock = some k → k < lo) (hn : n ≤ 1000000000) (hbase : base ≤ w.heap.size)
    (h : ∀ A' c' w', RR w' w'.heap.size A' (n + 1) (vs ++ [(dA, dn, dc)]) (xss ++ [ys]) → w.grownBy w' (Value.slice A n c).ownBlock → wpList Try.prog ops Q rest (a.put o.dst (.slice A' (n + 1) c')) w') : wpList Try.prog ops Q (o :: rest) a w := by
  obtain ⟨i0, hi, hz0, hz1, hz2⟩ := info_parts infoS
  refine wpList_append_own (w := w) hgd s x 24 ho base 33 i0 (.slice none 0 0) 1 24 Try.underlying24 hi hz0 hz1 hz2 rfl (by decide) _ n _ hs hss.own ⟨g, 0, none⟩ 1 1 [.slice dA dn dc] hx rfl ?_ ?_ ?_ (by omega) hbase ?_
  · intro j v hj
    match j, hj with
    | 0, hj => simp at hj; subst hj; simpa [Addr.add] using hcell
    | j + 1, hj => simp at hj
  · intro v hv; simp at hv; subst hv; rfl
  · unfold maxLen; omega
  · intro v' w' hown' hg _
    rcases hown'.2 with ⟨rfl, h0⟩ | ⟨g', cap, cur, rfl, hb', hg', hnc, _⟩
    · omega
    · refine h (some ⟨g', 0, none⟩) cap w' ⟨by simp [hss.lv], by simp [hss.lx], fun _ => ⟨g', 0, rfl, (Array.getElem?_eq_some_iff.1 hg').1, fun j hj => ?_⟩, fun j hj => ?_, fun j hj => ?_, fun j hj => ?_⟩ hg
      · rw [Nat.zero_add, hown'.cellAt j (by omega)]
        by_cases e : j < n
        · rw [List.getElem?_append_left (by rw [List.length_map, hss.lv]; exact e), List.getElem?_map, getD_app _ _ _ _ (by rw [hss.lv]; exact e), List.getD_eq_getElem?_getD, List.getElem?_eq_getElem (by rw [hss.lv]; exact e)]; rfl
        · obtain rfl : j = n := by omega
          rw [List.getElem?_append_right (by rw [List.length_map, hss.lv]; exact Nat.le_refl _), List.length_map, hss.lv, Nat.sub_self, getD_snoc _ _ _ _ hss.lv.symm]; rfl
      · by_cases e : j < n
        · rw [getD_app _ _ _ _ (by rw [hss.lv]; exact e), getD_app _ _ _ _ (by rw [hss.lx]; exact e)]
          exact ((hss.row j e).kept hg (apart_types (hss.row j e) hss.own)).ri_
        · obtain rfl : j = n := by omega
          rw [getD_snoc _ _ _ _ hss.lv.symm, getD_snoc _ _ _ _ hss.lx.symm]
          intro hp
          obtain ⟨b, off, e1, h1, h2, hc⟩ := hys.2.2 (by rw [← hys.1]; exact hp)
          refine ⟨b, off, e1, Nat.lt_of_lt_of_le h2 hg.size, fun t ht => (World.cell?_of_block (a := ⟨b, off + t, none⟩) (hg.block b h2 fun e2 => ?_)).trans (hc t (by rw [← hys.1]; exact ht))⟩
          have := hlo b e2.symm
          omega
      · by_cases e : j < n
        · rw [getD_app _ _ _ _ (by rw [hss.lx]; exact e), getD_app _ _ _ _ (by rw [hss.lv]; exact e)]; exact (hss.row j e).1
        · obtain rfl : j = n := by omega
          rw [getD_snoc _ _ _ _ hss.lx.symm, getD_snoc _ _ _ _ hss.lv.symm]; exact hys.1
      · by_cases e : j < n
        · rw [getD_app _ _ _ _ (by rw [hss.lv]; exact e)]; exact (hss.row j e).le.1
        · obtain rfl : j = n := by omega
          rw [getD_snoc _ _ _ _ hss.lv.symm]; exact hys.2.1
end
theorem wrap_pos2 (k : Nat) (h : k ≤ 1000) : IntKind.i64.wrap ((k : Int) + 1) = (k : Int) + 1 := by rw [IntKind.wrap_i64]; omega
theorem grown_new2 {a b c : World} {g : Nat} {row : Option Nat} (h : a.grownBy b (some g)) (h2 : b.grownBy c row) (hr : ∀ j, row = some j → a.heap.size ≤ j) : a.grownBy c (some g) :=
  ⟨h2.os.trans h.os, h2.tape.trans h.tape, h2.output.trans h.output, Nat.le_trans h.size h2.size, fun i hi hne => (h2.block i (Nat.lt_of_lt_of_le hi h.size) (fun e => by have := hr _ e.symm; omega)).trans (h.block i hi hne)⟩
theorem Src.gro2 {g : Nat} {row : Option Nat} {w w' : World} (h : Src w g) (hb : w.grownBy w' row) (hg : ∀ r, row = some r → g < r) : Src w' g := by
  obtain ⟨A, len, cap, k, x, h1, h2, h3, h4⟩ := h
  refine ⟨A, len, cap, k, x, h1, h2, h3.keep fun p hp => World.cell?_of_block (hb.block p.block (by have := h4.lt; omega) (fun e => by have := hg _ e.symm; omega)), h4.grown hb (fun e => by have := hg _ e.symm; omega)⟩

set_option maxHeartbeats 4000000 in
set_option maxRecDepth 100000 in
/-- drawGenerators. -/
theorem drawGens (g n : Nat) (w : World) (hs : Src w g) (h1 : 1 ≤ n) (hn : n ≤ 20) :
    Calls Try.prog 122 #[.pointer (some ⟨g, 0, none⟩), .int .i64 (n : Int)] w fun e w' => ∃ A m c us xss, e = .returned (.slice A m c) ∧ SS w' w.heap.size w.heap.size A m c us xss ∧ (∀ i, i < m → (us.getD i sd0).2.1 = n) ∧ m ≤ 3 ∧ Src w' g ∧ w.grownBy w' (some g) := by
  have hg := hs.lt
  have Sr0 : Hid (Src (w.alloc (.cells #[] 33)) g) := Lib.hid (hs.below ((Below.refl w.heap.size w).alloc (Nat.le_refl _) _) hg)
  have Ss0 := Lib.hid (SS.lit0 w w.heap.size w.heap.size (Nat.le_refl _))
  have G0 : Hid (w.grownBy (w.alloc (.cells #[] 33)) (some g)) := Lib.hid (grown_alloc2 (grown_refl _ _) _)
  clear hs
  go_enter Try.func122, Try.ntmps122
  go_wp2_with fail
  refine (srcBelow g _ 3 _ Sr0.out rfl (by omega) (by omega)).mono ?_
  rintro e w1 ⟨r, hr, rfl, s1, g1⟩
  have Sr1 := Lib.hid s1
  have Ss1 : Hid (SS w1 w.heap.size w.heap.size (some ⟨w.heap.size, 0, none⟩) 0 0 [] []) := Lib.hid (Ss0.out.farR (lo := w.heap.size) (hi := w.heap.size + 1) g1 (fun k e => by simp [Value.ownBlock] at e; omega) (fun i hi => absurd hi (by omega)) (.inl hg))
  have G1 : Hid (w.grownBy w1 (some g)) := Lib.hid (grown_trans' G0.out g1)
  have wr1 : IntKind.i64.wrap (1 + (r : Int)) = ((r + 1 : Nat) : Int) := by rw [IntKind.wrap_i64]; omega
  clear s1 g1 Sr0 Ss0 G0
  go_wp2_with fail
  go_loopg [5, 6] 4 (fun gg v kk wr => ∃ (k : Nat) (A : Option Addr) (m c : Nat) (us : List SV) (xss : List (List Int)), m + k ≤ 3 ∧ k ≤ gg ∧ kk = .int .i64 (k : Nat) ∧ v = .slice A m c ∧ SS wr w.heap.size w.heap.size A m c us xss ∧ (∀ i, i < m → (us.getD i sd0).2.1 = n) ∧ Src wr g ∧ w.grownBy wr (some g))
  case atStart => exact ⟨r + 1, _, 0, _, [], [], by omega, by omega, rfl, rfl, Ss1.out, fun i hi => absurd hi (by omega), Sr1.out, G1.out⟩
  case round =>
    clear Sr1 Ss1 G1 wr1
    obtain ⟨k0, A, m, c, us, xss, hmk, hgk, rfl, rfl, ss, ln, sr, gr⟩ := hrel
    have Ss := Lib.hid ss
    have Ln := Lib.hid ln
    have Sr := Lib.hid sr
    have Gr := Lib.hid gr
    have hwz : w.heap.size ≤ wr.heap.size := gr.size
    clear ss ln sr gr
    by_cases hk0 : 0 < k0
    · obtain ⟨k, rfl⟩ : ∃ k, k0 = k + 1 := ⟨k0 - 1, by omega⟩
      have wk : IntKind.i64.wrap (((k + 1 : Nat) : Int) - 1) = (k : Int) := by rw [IntKind.wrap_i64]; omega
      have LA : Hid (∀ j, (Value.slice A m c).ownBlock = some j → w.heap.size ≤ j ∧ j < wr.heap.size) := Lib.hid Ss.out.lt_
      have LI : Hid (∀ t, t < m → ∀ j, (sval (us.getD t sd0)).ownBlock = some j → w.heap.size ≤ j ∧ j < wr.heap.size) := Lib.hid fun t ht => (Ss.out.row t ht).lt_
      go_wp2_with fail
      refine (specIdent n wr (by omega)).mono ?_
      rintro e w2 ⟨A1, c1, rfl, s2, b2⟩
      have Sr2 := Lib.hid (Sr.out.below b2 Sr.out.lt)
      have Ss2 := Lib.hid (Ss.out.up b2)
      have G2 : Hid (w.grownBy w2 (some g)) := Lib.hid (grown_below2 Gr.out b2)
      rcases Slc.at_ s2 with ⟨_, _, e0, _⟩ | ⟨q, rfl, hq1, hq2⟩
      · omega
      have Sl2 := Lib.hid s2
      have hz2 := b2.size
      clear s2 b2
      go_wp2_with fail
      refine (srcBelow g _ 4 w2 Sr2.out rfl (by omega) (by omega)).mono ?_
      rintro e w3 ⟨r3, hr3, rfl, s3, g3⟩
      have Sr3 := Lib.hid s3
      have Ss3 := Lib.hid (Ss2.out.farR g3 LA.out LI.out (.inl hg))
      have Sl3 : Hid (Slc w3 wr.heap.size (some ⟨q, 0, none⟩) n c1 (idL n)) := Lib.hid (Sl2.out.kept g3 (.inr (by simp [Value.ownBlock]; omega)))
      have G3 : Hid (w.grownBy w3 (some g)) := Lib.hid (grown_trans' G2.out g3)
      have hz3 := g3.size
      clear s3 g3
      obtain rfl | rfl | hr23 : r3 = 0 ∨ r3 = 1 ∨ (r3 = 2 ∨ r3 = 3) := by omega
      · clear Sl3 Sl2 hq1 hq2
        go_wp2_with fail
        refine (drawPermK g n _ w3 Sr3.out rfl (by omega)).mono ?_
        rintro e w4 ⟨q, c1, ys, rfl, s4, r4, g4⟩
        have Sr4 := Lib.hid r4
        have Ss4 := Lib.hid (Ss3.out.farR g4 LA.out LI.out (.inl hg))
        have hq1 : wr.heap.size ≤ q := by have := (s4.lt_ q rfl).1; omega
        have Sl4 : Hid (Slc w4 w.heap.size (some ⟨q, 0, none⟩) n c1 ys) := Lib.hid (s4.mono (by omega))
        have G4 : Hid (w.grownBy w4 (some g)) := Lib.hid (grown_trans' G3.out g4)
        clear s4 r4 g4
        have D5 := Lib.hid (show ∀ t, t < m → (sval (us.getD t sd0)).ownBlock = none ∨ (sval (us.getD t sd0)).ownBlock ≠ (Value.slice (some ⟨q, 0, none⟩) n c1).ownBlock from fun t ht => by
          rcases e9 : (sval (us.getD t sd0)).ownBlock with _ | z
          · exact .inl rfl
          · exact .inr fun e8 => by have := (LI.out t ht z e9).2; simp [Value.ownBlock] at e8; omega)
        have hzT : w.heap.size ≤ w4.heap.size := G4.out.size
        go_wp2_with (first
          | (at_builtin
             refine wpList_app2 rfl _ _ rfl rfl (Ss4.out.alloc _) w4.heap.size (some ⟨q, 0, none⟩) n c1 ys rfl (by rw [World.cell?_alloc_at _ _ _ _ rfl]; rfl) ((Sl4.out).alloc _) D5.out (by omega) (by simp; omega) ?_
             intro A7 c7 w7 ss7 g7))
        have S7 : Hid (SS w7 w.heap.size w.heap.size A7 (m + 1) c7 (us ++ [(some ⟨q, 0, none⟩, n, c1)]) (xss ++ [ys])) := Lib.hid ss7
        have Sr7 : Hid (Src w7 g) := Lib.hid ((Sr4.out.below ((Below.refl w4.heap.size w4).alloc (Nat.le_refl _) (.cells #[.slice (some ⟨q, 0, none⟩) n c1] 33)) Sr4.out.lt).gro2 g7 (fun j hj => by have := (Ss4.out.lt_ j hj).1; omega))
        have G7 : Hid (w.grownBy w7 (some g)) := Lib.hid (grown_new2 (grown_alloc2 G4.out (.cells #[.slice (some ⟨q, 0, none⟩) n c1] 33)) g7 (fun j hj => (Ss4.out.lt_ j hj).1))
        have Ln7 : Hid (∀ i, i < m + 1 → ((us ++ [((some ⟨q, 0, none⟩, n, c1) : SV)]).getD i sd0).2.1 = n) := Lib.hid fun i hi => by
          by_cases e9 : i < m
          · rw [getD_app _ _ _ _ (by rw [Ss4.out.lv]; exact e9)]; exact Ln.out i e9
          · rw [getD_snoc _ _ _ _ (by rw [Ss4.out.lv]; omega)]
        clear ss7 g7
        go_wp2_with fail
        go_roundg k
        case rel => exact ⟨k, A7, m + 1, c7, _, _, by omega, by omega, by go_num, rfl, S7.out, Ln7.out, Sr7.out, G7.out⟩
        case measure => omega
      · have row3 : Hid (Row w3 wr.heap.size q n c1 (idL n)) := Lib.hid (Row.of_own (by have h2 := Sl3.out.2; rw [← Sl3.out.1] at h2 ⊢; exact h2))
        go_wp2_with fail
        obtain ⟨wl, rfl⟩ : ∃ wl, wl = wr := ⟨_, rfl⟩
        go_loopg [8] n (fun gg iv wr2 => ∃ (i : Nat) (ys : List Int), i ≤ n ∧ n - i ≤ gg ∧ iv = .int .i64 (i : Nat) ∧ Row wr2 wl.heap.size q n c1 ys ∧ SS wr2 w.heap.size w.heap.size A m c us xss ∧ Src wr2 g ∧ w.grownBy wr2 (some g))
        case atStart => exact ⟨0, _, Nat.zero_le _, by omega, rfl, row3.out, Ss3.out, Sr3.out, G3.out⟩
        case round =>
          obtain ⟨i, ys, hi, hgi, rfl, row, ss5, sr5, g5⟩ := hrel
          have Ro := Lib.hid row
          have Ss5 := Lib.hid ss5
          have Sr5 := Lib.hid sr5
          have G5 := Lib.hid g5
          clear row ss5 sr5 g5
          by_cases hil : i < n
          · have c5 := Ro.out.cell hil
            have f5 := Ro.out.free i
            obtain ⟨u, hu⟩ : ∃ u, ((i : Int) + 1).tmod (n : Int) = u := ⟨_, rfl⟩
            have wi := wrap_pos2 i (by omega)
            have hn0 : ¬ ((n : Int) = 0) := by omega
            have p0 : (0 : Int) ≤ i := by omega
            have p1 : (i : Int) < n := by omega
            have Ro6 := Lib.hid (Ro.out.store i u)
            have Ss6 : Hid (SS (wr.setCell ⟨q, i, none⟩ (.int .i64 u)) w.heap.size w.heap.size A m c us xss) := Lib.hid (Ss5.out.farR (r := q) (grown_set (grown_refl _ _) _ _) LA.out LI.out (.inr hq1))
            have Sr6 : Hid (Src (wr.setCell ⟨q, i, none⟩ (.int .i64 u)) g) := Lib.hid (Sr5.out.gro (grown_set (grown_refl _ (some q)) i _) (by omega))
            have G6 : Hid (w.grownBy (wr.setCell ⟨q, i, none⟩ (.int .i64 u)) (some g)) := Lib.hid (grown_far G5.out (by omega) i _)
            obtain ⟨z5, hz5⟩ : ∃ z5, ys.getD i 0 = z5 := ⟨_, rfl⟩
            rw [hz5] at c5
            clear hz5
            go_wp2_with fail
            go_roundg (n - (i + 1))
            case rel => exact ⟨i + 1, _, by omega, by omega, by go_num, Ro6.out, Ss6.out, Sr6.out, G6.out⟩
            case measure => omega
          · have hin : i = n := by omega
            have Sl5 : Hid (Slc wr w.heap.size (some ⟨q, 0, none⟩) n c1 ys) := Lib.hid (Ro.out.slc.mono (by omega))
            clear hin
            have D5 := Lib.hid (show ∀ t, t < m → (sval (us.getD t sd0)).ownBlock = none ∨ (sval (us.getD t sd0)).ownBlock ≠ (Value.slice (some ⟨q, 0, none⟩) n c1).ownBlock from fun t ht => by
              rcases e9 : (sval (us.getD t sd0)).ownBlock with _ | z
              · exact .inl rfl
              · exact .inr fun e8 => by have := (LI.out t ht z e9).2; simp [Value.ownBlock] at e8; omega)
            have hzT : w.heap.size ≤ wr.heap.size := G5.out.size
            go_wp2_with (first
              | (at_builtin
                 refine wpList_app2 rfl _ _ rfl rfl (Ss5.out.alloc _) wr.heap.size (some ⟨q, 0, none⟩) n c1 ys rfl (by rw [World.cell?_alloc_at _ _ _ _ rfl]; rfl) ((Sl5.out).alloc _) D5.out (by omega) (by simp; omega) ?_
                 intro A7 c7 w7 ss7 g7))
            have S7 : Hid (SS w7 w.heap.size w.heap.size A7 (m + 1) c7 (us ++ [(some ⟨q, 0, none⟩, n, c1)]) (xss ++ [ys])) := Lib.hid ss7
            have Sr7 : Hid (Src w7 g) := Lib.hid ((Sr5.out.below ((Below.refl wr.heap.size wr).alloc (Nat.le_refl _) (.cells #[.slice (some ⟨q, 0, none⟩) n c1] 33)) Sr5.out.lt).gro2 g7 (fun j hj => by have := (Ss5.out.lt_ j hj).1; omega))
            have G7 : Hid (w.grownBy w7 (some g)) := Lib.hid (grown_new2 (grown_alloc2 G5.out (.cells #[.slice (some ⟨q, 0, none⟩) n c1] 33)) g7 (fun j hj => (Ss5.out.lt_ j hj).1))
            have Ln7 : Hid (∀ i, i < m + 1 → ((us ++ [((some ⟨q, 0, none⟩, n, c1) : SV)]).getD i sd0).2.1 = n) := Lib.hid fun i hi => by
              by_cases e9 : i < m
              · rw [getD_app _ _ _ _ (by rw [Ss5.out.lv]; exact e9)]; exact Ln.out i e9
              · rw [getD_snoc _ _ _ _ (by rw [Ss5.out.lv]; omega)]
            clear ss7 g7
            go_wp2_with fail
            go_roundg k
            case rel => exact ⟨k, A7, m + 1, c7, _, _, by omega, by omega, by go_num, rfl, S7.out, Ln7.out, Sr7.out, G7.out⟩
            case measure => omega
      · have d30 : ((r3 : Int) == 0) = false := by simp; omega
        have d31 : ((r3 : Int) == 1) = false := by simp; omega
        clear hr23 hr3
        go_wp2_with fail
        refine (srcBelow g _ n w3 Sr3.out rfl (by omega) (by omega)).mono ?_
        rintro e w4 ⟨x, hx, rfl, s4, g4⟩
        have Sr4 := Lib.hid s4
        have Ss4 := Lib.hid (Ss3.out.farR g4 LA.out LI.out (.inl hg))
        have Sl4 : Hid (Slc w4 wr.heap.size (some ⟨q, 0, none⟩) n c1 (idL n)) := Lib.hid (Sl3.out.kept g4 (.inr (by simp [Value.ownBlock]; omega)))
        have G4 : Hid (w.grownBy w4 (some g)) := Lib.hid (grown_trans' G3.out g4)
        clear s4 g4
        go_wp2_with fail
        refine (srcBelow g _ n w4 Sr4.out rfl (by omega) (by omega)).mono ?_
        rintro e w5 ⟨y, hy, rfl, s5, g5⟩
        have Sr5 := Lib.hid s5
        have Ss5 := Lib.hid (Ss4.out.farR g5 LA.out LI.out (.inl hg))
        have Sl5 : Hid (Slc w5 wr.heap.size (some ⟨q, 0, none⟩) n c1 (idL n)) := Lib.hid (Sl4.out.kept g5 (.inr (by simp [Value.ownBlock]; omega)))
        have G5 : Hid (w.grownBy w5 (some g)) := Lib.hid (grown_trans' G4.out g5)
        clear s5 g5
        have row5 : Row w5 wr.heap.size q n c1 (idL n) := Row.of_own (by have h2 := Sl5.out.2; rw [← Sl5.out.1] at h2 ⊢; exact h2)
        have c5 := row5.cell hx
        have f5 := row5.free x
        rw [idL_getD hx] at c5
        have row6 := row5.store x (y : Int)
        have c6 := row6.cell hy
        have f6 := row6.free y
        obtain ⟨z6, hz6⟩ : ∃ z6, ((idL n).set x (y : Int)).getD y 0 = z6 := ⟨_, rfl⟩
        rw [hz6] at c6
        have Ro7 := Lib.hid (row6.store y (x : Int))
        obtain ⟨w6, hw6⟩ : ∃ w6, w5.setCell ⟨q, x, none⟩ (.int .i64 (y : Int)) = w6 := ⟨_, rfl⟩
        have Ss6 : Hid (SS w6 w.heap.size w.heap.size A m c us xss) := Lib.hid (by rw [← hw6]; exact Ss5.out.farR (r := q) (grown_set (grown_refl _ _) _ _) LA.out LI.out (.inr hq1))
        have Sr6 : Hid (Src w6 g) := Lib.hid (by rw [← hw6]; exact Sr5.out.gro (grown_set (grown_refl _ (some q)) x _) (by omega))
        have G6 : Hid (w.grownBy w6 (some g)) := Lib.hid (by rw [← hw6]; exact grown_far G5.out (by omega) x _)
        have Ss8 : Hid (SS (w6.setCell ⟨q, y, none⟩ (.int .i64 (x : Int))) w.heap.size w.heap.size A m c us xss) := Lib.hid (Ss6.out.farR (r := q) (grown_set (grown_refl _ _) _ _) LA.out LI.out (.inr hq1))
        have Sr8 : Hid (Src (w6.setCell ⟨q, y, none⟩ (.int .i64 (x : Int))) g) := Lib.hid (Sr6.out.gro (grown_set (grown_refl _ (some q)) y _) (by omega))
        have G8 : Hid (w.grownBy (w6.setCell ⟨q, y, none⟩ (.int .i64 (x : Int))) (some g)) := Lib.hid (grown_far G6.out (by omega) y _)
        obtain ⟨w8, hw8⟩ : ∃ w8, w6.setCell ⟨q, y, none⟩ (.int .i64 (x : Int)) = w8 := ⟨_, rfl⟩
        rw [hw8] at Ss8 Sr8 G8
        rw [hw6] at c6 f6 Ro7
        rw [hw8] at Ro7
        have Sl8 : Hid (Slc w8 w.heap.size (some ⟨q, 0, none⟩) n c1 (((idL n).set x (y : Int)).set y (x : Int))) := Lib.hid (Ro7.out.slc.mono (by omega))
        have x0 : (0 : Int) ≤ x := by omega
        have x1 : (x : Int) < n := by omega
        have y0 : (0 : Int) ≤ y := by omega
        have y1 : (y : Int) < n := by omega
        clear row5 row6 hz6
        have D5 := Lib.hid (show ∀ t, t < m → (sval (us.getD t sd0)).ownBlock = none ∨ (sval (us.getD t sd0)).ownBlock ≠ (Value.slice (some ⟨q, 0, none⟩) n c1).ownBlock from fun t ht => by
          rcases e9 : (sval (us.getD t sd0)).ownBlock with _ | z
          · exact .inl rfl
          · exact .inr fun e8 => by have := (LI.out t ht z e9).2; simp [Value.ownBlock] at e8; omega)
        have hzT : w.heap.size ≤ w8.heap.size := G8.out.size
        go_wp2_with (first
          | (at_builtin
             refine wpList_app2 rfl _ _ rfl rfl (Ss8.out.alloc _) w8.heap.size (some ⟨q, 0, none⟩) n c1 (((idL n).set x (y : Int)).set y (x : Int)) rfl (by rw [World.cell?_alloc_at _ _ _ _ rfl]; rfl) ((Sl8.out).alloc _) D5.out (by omega) (by simp; omega) ?_
             intro A7 c7 w7 ss7 g7))
        have S7 : Hid (SS w7 w.heap.size w.heap.size A7 (m + 1) c7 (us ++ [(some ⟨q, 0, none⟩, n, c1)]) (xss ++ [(((idL n).set x (y : Int)).set y (x : Int))])) := Lib.hid ss7
        have Sr7 : Hid (Src w7 g) := Lib.hid ((Sr8.out.below ((Below.refl w8.heap.size w8).alloc (Nat.le_refl _) (.cells #[.slice (some ⟨q, 0, none⟩) n c1] 33)) Sr8.out.lt).gro2 g7 (fun j hj => by have := (Ss8.out.lt_ j hj).1; omega))
        have G7 : Hid (w.grownBy w7 (some g)) := Lib.hid (grown_new2 (grown_alloc2 G8.out (.cells #[.slice (some ⟨q, 0, none⟩) n c1] 33)) g7 (fun j hj => (Ss8.out.lt_ j hj).1))
        have Ln7 : Hid (∀ i, i < m + 1 → ((us ++ [((some ⟨q, 0, none⟩, n, c1) : SV)]).getD i sd0).2.1 = n) := Lib.hid fun i hi => by
          by_cases e9 : i < m
          · rw [getD_app _ _ _ _ (by rw [Ss8.out.lv]; exact e9)]; exact Ln.out i e9
          · rw [getD_snoc _ _ _ _ (by rw [Ss8.out.lv]; omega)]
        clear ss7 g7
        go_wp2_with fail
        go_roundg k
        case rel => exact ⟨k, A7, m + 1, c7, _, _, by omega, by omega, by go_num, rfl, S7.out, Ln7.out, Sr7.out, G7.out⟩
        case measure => omega
    · have hk00 : k0 = 0 := by omega
      subst hk00
      go_wp2_with fail
      go_ret
      exact ⟨_, _, _, _, _, rfl, Ss.out, Ln.out, by omega, Sr.out, Gr.out⟩

theorem SS.lens_le {w : World} {bo bi n c : Nat} {A : Option Addr} {us : List SV} {xss : List (List Int)} (_h : SS w bo bi A n c us xss) {N : Nat} (hl : ∀ i, i < n → (us.getD i sd0).2.1 = N) (hN : N ≤ 21) : ∀ i, i < n → (us.getD i sd0).2.1 ≤ 21 := fun i hi => by rw [hl i hi]; exact hN

set_option maxHeartbeats 4000000 in
set_option maxRecDepth 100000 in
/-- drawGroup. -/
theorem drawGroupT (g : Nat) (w : World) (hs : Src w g) :
    Calls Try.prog 94 #[.pointer (some ⟨g, 0, none⟩)] w fun e w' => ∃ (z : Int) (A : Option Addr) (m c : Nat) (vs : List SV) (xss : List (List Int)), e = .returned (.tuple #[.int .i64 z, .slice A m c]) ∧ B64 z ∧ RR w' w'.heap.size A m vs xss ∧ m ≤ 9 ∧ (∀ i, i < m → (vs.getD i sd0).2.1 ≤ 21) ∧ Src w' g ∧ w.grownBy w' (some g) := by
  have hg := hs.lt
  go_enter Try.func94, Try.ntmps94
  go_wp2_with fail
  refine (srcBetween g 2 5 w hs (by omega) (by omega)).mono ?_
  rintro e w1 ⟨n1, h11, h12, rfl, s1, g1⟩
  have Sr1 := Lib.hid s1
  have G1 := Lib.hid g1
  clear s1 g1 hs
  go_wp2_with fail
  refine (srcOne g _ 6 w1 Sr1.out rfl (by omega) (by omega)).mono ?_
  rintro e w2 ⟨b, rfl, s2, g2⟩
  have Sr2 := Lib.hid s2
  have G2 : Hid (w.grownBy w2 (some g)) := Lib.hid (grown_trans' G1.out g2)
  clear s2 g2
  go_upto_if 9 with fail
  go_cut [4] from 6 to 48 (fun nn wx => ∃ n : Nat, 1 ≤ n ∧ n ≤ 7 ∧ nn = .int .i64 (n : Nat) ∧ Src wx g ∧ w.grownBy wx (some g))
  case first =>
    cases b
    · go_wp2_with fail
      go_meet
      exact ⟨n1, by omega, by omega, rfl, Sr2.out, G2.out⟩
    · go_wp2_with fail
      refine (srcBetween g 1 7 w2 Sr2.out (by omega) (by omega)).mono ?_
      rintro e w3 ⟨n3, h31, h32, rfl, s3, g3⟩
      have Sr3 := Lib.hid s3
      have G3 : Hid (w.grownBy w3 (some g)) := Lib.hid (grown_trans' G2.out g3)
      clear s3 g3
      go_wp2_with fail
      go_meet
      exact ⟨n3, by omega, by omega, rfl, Sr3.out, G3.out⟩
  case rest =>
    obtain ⟨n, hn1, hn7, rfl, src, grc⟩ := hcut
    have Sr3 := Lib.hid src
    have G3 := Lib.hid grc
    clear src grc Sr2 G2 Sr1 G1
    go_wp2_with fail
    refine (drawGens g n wc Sr3.out hn1 (by omega)).mono ?_
    rintro e w4 ⟨A, m, c, us, xss, rfl, ss4, ln4, hm4, s4, g4⟩
    have Ss4 := Lib.hid ss4
    have Ln4 := Lib.hid ln4
    have Sr4 := Lib.hid s4
    have G4 : Hid (w.grownBy w4 (some g)) := Lib.hid (grown_trans' G3.out g4)
    have hgc : g < wc.heap.size := Sr3.out.lt
    have hz4 := G4.out.size
    have LA : Hid (∀ j, (Value.slice A m c).ownBlock = some j → wc.heap.size ≤ j ∧ j < w4.heap.size) := Lib.hid ss4.lt_
    have LI : Hid (∀ t, t < m → ∀ j, (sval (us.getD t sd0)).ownBlock = some j → wc.heap.size ≤ j ∧ j < w4.heap.size) := Lib.hid fun t ht => (ss4.row t ht).lt_
    have hzc4 := g4.size
    clear ss4 ln4 s4 g4
    go_wp2_with fail
    refine (srcOne g _ 20 w4 Sr4.out rfl (by omega) (by omega)).mono ?_
    rintro e w5 ⟨b5, rfl, s5, g5⟩
    have Sr5 := Lib.hid s5
    have Ss5 := Lib.hid (Ss4.out.farR g5 LA.out LI.out (.inl hgc))
    have G5 : Hid (w.grownBy w5 (some g)) := Lib.hid (grown_trans' G4.out g5)
    have hz5 := g5.size
    clear s5 g5
    cases b5
    · go_wp2_with fail
      go_ret2
      exact ⟨_, _, _, _, us, xss, rfl, by unfold B64; omega, Ss5.out.rr, by omega, Ss5.out.lens_le Ln4.out (by omega), Sr5.out, G5.out⟩
    · go_wp2_with fail
      refine (srcBelow g _ 4 w5 Sr5.out rfl (by omega) (by omega)).mono ?_
      rintro e w6 ⟨r6, hr6, rfl, s6, g6⟩
      have Sr6 := Lib.hid s6
      have Ss6 := Lib.hid (Ss5.out.farR g6 LA.out LI.out (.inl hgc))
      have G6 : Hid (w.grownBy w6 (some g)) := Lib.hid (grown_trans' G5.out g6)
      have hz6 := g6.size
      clear s6 g6
      obtain rfl | rfl | rfl | rfl : r6 = 0 ∨ r6 = 1 ∨ r6 = 2 ∨ r6 = 3 := by omega
      · go_wp2_with fail
        refine (srcNumberB g 20 w6 Sr6.out (by omega) (by omega)).mono ?_
        rintro e w7 ⟨z7, rfl, hB7, s7, g7⟩
        have Sr7 := Lib.hid s7
        have Ss7 := Lib.hid (Ss6.out.farR g7 LA.out LI.out (.inl hgc))
        have G7 : Hid (w.grownBy w7 (some g)) := Lib.hid (grown_trans' G6.out g7)
        have HB7 := Lib.hid hB7
        clear s7 g7 hB7
        go_wp2_with fail
        go_ret2
        exact ⟨_, _, _, _, us, xss, rfl, HB7.out, Ss7.out.rr, by omega, Ss7.out.lens_le Ln4.out (by omega), Sr7.out, G7.out⟩
      · go_wp2_with fail
        refine (drawAny g n w6 Sr6.out (by omega) (by omega)).mono ?_
        rintro e w7 ⟨A7, m7, c7, ys, rfl, p7, hm7, s7, g7⟩
        have Sr7 := Lib.hid s7
        have Ss7 := Lib.hid (Ss6.out.farR g7 LA.out LI.out (.inl hgc))
        have G7 : Hid (w.grownBy w7 (some g)) := Lib.hid (grown_trans' G6.out g7)
        have P7 : Hid (Pm (w7.alloc (.cells #[.slice A7 m7 c7] 33)) w6.heap.size A7 m7 c7 ys) := Lib.hid (p7.up ((Below.refl w7.heap.size w7).alloc (Nat.le_refl _) _))
        have hz7 := G7.out.size
        have hz67 := g7.size
        have hlt7 : Hid (∀ j, (Value.slice A m c).ownBlock = some j → j < w6.heap.size) := Lib.hid fun j hj => by have := (LA.out j hj).2; omega
        clear s7 g7 p7
        go_wp2_with (first
          | (at_builtin
             refine wpList_app2R rfl _ _ rfl rfl (Ss7.out.alloc _) w7.heap.size A7 m7 c7 w6.heap.size ys rfl (by rw [World.cell?_alloc_at _ _ _ _ rfl]; rfl) P7.out hlt7.out (by omega) (by simp; omega) ?_
             intro A8 c8 w8 rr8 g8))
        have R8 := Lib.hid rr8
        have Sr8 : Hid (Src w8 g) := Lib.hid ((Sr7.out.below ((Below.refl w7.heap.size w7).alloc (Nat.le_refl _) (.cells #[.slice A7 m7 c7] 33)) Sr7.out.lt).gro2 g8 (fun j hj => by have := (LA.out j hj).1; omega))
        have G8 : Hid (w.grownBy w8 (some g)) := Lib.hid (grown_new2 (grown_alloc2 G7.out (.cells #[.slice A7 m7 c7] 33)) g8 (fun j hj => by have := (LA.out j hj).1; have := G3.out.size; omega))
        have Ln8 : Hid (∀ i, i < m + 1 → ((us ++ [((A7, m7, c7) : SV)]).getD i sd0).2.1 ≤ 21) := Lib.hid fun i hi => by
          by_cases e9 : i < m
          · rw [getD_app _ _ _ _ (by rw [Ss7.out.lv]; exact e9), Ln4.out i e9]; omega
          · rw [getD_snoc _ _ _ _ (by rw [Ss7.out.lv]; omega)]; exact hm7
        clear rr8 g8
        go_wp2_with fail
        go_ret2
        exact ⟨_, _, _, _, _, _, rfl, by unfold B64; omega, R8.out, by omega, Ln8.out, Sr8.out, G8.out⟩
      · have hw6 := G6.out.size
        have Sr7 : Hid (Src (w6.alloc (.cells #[] 33)) g) := Lib.hid (Sr6.out.below ((Below.refl w6.heap.size w6).alloc (Nat.le_refl _) _) Sr6.out.lt)
        have G7 : Hid (w.grownBy (w6.alloc (.cells #[] 33)) (some g)) := Lib.hid (grown_alloc2 G6.out _)
        go_wp2_with fail
        go_ret2
        exact ⟨_, _, 0, _, [], [], rfl, by unfold B64; omega, RR.nil_, by omega, fun i hi => absurd hi (by omega), Sr7.out, G7.out⟩
      · go_wp2_with fail
        go_loopg [5] 10 (fun gg v wr => ∃ (A : Option Addr) (m c : Nat) (us : List SV) (xss : List (List Int)), m ≤ 9 ∧ 9 - m ≤ gg ∧ v = .slice A m c ∧ SS wr wc.heap.size wc.heap.size A m c us xss ∧ (∀ i, i < m → (us.getD i sd0).2.1 = n) ∧ Src wr g ∧ w.grownBy wr (some g) ∧ wc.heap.size ≤ wr.heap.size)
        case atStart => exact ⟨_, m, _, _, _, by omega, by omega, rfl, Ss6.out, Ln4.out, Sr6.out, G6.out, by omega⟩
        case round =>
          clear LA LI Ss4 Ss5 Ss6
          obtain ⟨A, m, c, us, xss, hm9, hgm, rfl, ss, ln, sr, gr, hzc⟩ := hrel
          have Ss := Lib.hid ss
          have Ln := Lib.hid ln
          have Sr := Lib.hid sr
          have Gr := Lib.hid gr
          have LA : Hid (∀ j, (Value.slice A m c).ownBlock = some j → wc.heap.size ≤ j ∧ j < wr.heap.size) := Lib.hid ss.lt_
          have LI : Hid (∀ t, t < m → ∀ j, (sval (us.getD t sd0)).ownBlock = some j → wc.heap.size ≤ j ∧ j < wr.heap.size) := Lib.hid fun t ht => (ss.row t ht).lt_
          clear ss ln sr gr
          go_wp2_with fail
          refine (srcBelow g _ 2 wr Sr.out rfl (by omega) (by omega)).mono ?_
          rintro e w7 ⟨r7, hr7, rfl, s7, g7⟩
          have Sr7 := Lib.hid s7
          have Ss7 := Lib.hid (Ss.out.farR g7 LA.out LI.out (.inl hgc))
          have G7 : Hid (w.grownBy w7 (some g)) := Lib.hid (grown_trans' Gr.out g7)
          have hz7 := g7.size
          have w88 : IntKind.i64.wrap (8 + (r7 : Int)) = 8 + (r7 : Int) := by rw [IntKind.wrap_i64]; omega
          have w89 : IntKind.i64.wrap (r7 : Int) = (r7 : Int) := by rw [IntKind.wrap_i64]; omega
          clear s7 g7
          by_cases hlt : (m : Int) < 8 + (r7 : Int)
          · have d7 : decide ((m : Int) < 8 + (r7 : Int)) = true := decide_eq_true hlt
            have hm8 : m ≤ 8 := by omega
            go_wp2_with fail
            refine (specIdent n w7 (by omega)).mono ?_
            rintro e w8 ⟨A8, c8, rfl, s8, b8⟩
            have Sr8 := Lib.hid (Sr7.out.below b8 Sr7.out.lt)
            have Ss8 := Lib.hid (Ss7.out.up b8)
            have G8 : Hid (w.grownBy w8 (some g)) := Lib.hid (grown_below2 G7.out b8)
            have D8 := Lib.hid (lies_dis Ss7.out s8.lies (Nat.le_refl _))
            have hz8 := b8.size
            have Sl8 := Lib.hid (s8.mono (show wc.heap.size ≤ w7.heap.size by omega))
            clear s8 b8
            go_wp2_with (first
              | (at_builtin
                 refine wpList_app2 rfl _ _ rfl rfl (Ss8.out.alloc _) w8.heap.size A8 n c8 (idL n) rfl (by rw [World.cell?_alloc_at _ _ _ _ rfl]; rfl) (Sl8.out.alloc _) D8.out (by omega) (by simp; omega) ?_
                 intro A9 c9 w9 ss9 g9))
            have Ss9 : Hid (SS w9 wc.heap.size wc.heap.size A9 (m + 1) c9 (us ++ [(A8, n, c8)]) (xss ++ [idL n])) := Lib.hid ss9
            have Sr9 : Hid (Src w9 g) := Lib.hid ((Sr8.out.below ((Below.refl w8.heap.size w8).alloc (Nat.le_refl _) (.cells #[.slice A8 n c8] 33)) Sr8.out.lt).gro2 g9 (fun j hj => by have := (LA.out j hj).1; omega))
            have G9 : Hid (w.grownBy w9 (some g)) := Lib.hid (grown_new2 (grown_alloc2 G8.out (.cells #[.slice A8 n c8] 33)) g9 (fun j hj => by have := (LA.out j hj).1; have := G3.out.size; omega))
            have hz9 : wc.heap.size ≤ w9.heap.size := by have := g9.size; simp at this; omega
            have Ln9 : Hid (∀ i, i < m + 1 → ((us ++ [((A8, n, c8) : SV)]).getD i sd0).2.1 = n) := Lib.hid fun i hi => by
              by_cases e9 : i < m
              · rw [getD_app _ _ _ _ (by rw [Ss8.out.lv]; exact e9)]; exact Ln.out i e9
              · rw [getD_snoc _ _ _ _ (by rw [Ss8.out.lv]; omega)]
            clear ss9 g9
            go_wp2_with fail
            go_roundg (9 - (m + 1))
            case rel => exact ⟨A9, m + 1, c9, _, _, by omega, by omega, rfl, Ss9.out, Ln9.out, Sr9.out, G9.out, hz9⟩
            case measure => omega
          · have d7 : decide ((m : Int) < 8 + (r7 : Int)) = false := decide_eq_false hlt
            go_wp2_with fail
            go_ret2
            exact ⟨_, _, _, _, us, xss, rfl, by unfold B64; omega, Ss7.out.rr, by omega, Ss7.out.lens_le Ln.out (by omega), Sr7.out, G7.out⟩
end Go.Proofs.Ytcjcmhoalomjfaa

/- A draw of a group, with where its slices lie. Condition: at most 4096 bytes. -/
namespace Go.Proofs.Ytcjcmhoalomjfaa
open Go.RowKit

/-- Slices of numbers that can be read, all in blocks from lo on. -/
structure RX (w : World) (lo : Nat) (A : Option Addr) (n : Nat) (vs : List SV) (xss : List (List Int)) : Prop where
  rr : RR w w.heap.size A n vs xss
  outer : 0 < n → ∀ b off, A = some ⟨b, off, none⟩ → lo ≤ b
  inner : ∀ j, j < n → ∀ b off, (vs.getD j sd0).1 = some ⟨b, off, none⟩ → 0 < (xss.getD j []).length → lo ≤ b
section
variable {w w' : World} {lo g n : Nat} {A : Option Addr} {vs : List SV} {xss : List (List Int)}
theorem RX.nil_ {c : Option Addr} : RX w lo c 0 [] [] := ⟨RR.nil_, fun h => absurd h (Nat.lt_irrefl _), fun j h => absurd h (Nat.not_lt_zero _)⟩
theorem RX.of_ss {bo bi c : Nat} (h : SS w bo bi A n c vs xss) (h1 : lo ≤ bo) (h2 : lo ≤ bi) : RX w lo A n vs xss :=
  ⟨h.rr, fun _ b off e => by have := (h.lt_ b (by subst e; rfl)).1; omega, fun j hj b off e _ => by have := ((h.row j hj).lt_ b (by rw [e]; rfl)).1; omega⟩
theorem RX.gro (h : RX w lo A n vs xss) (hg : w.grownBy w' (some g)) (hl : g < lo) : RX w' lo A n vs xss :=
  ⟨⟨h.rr.lv, h.rr.lx, fun hn => by
      obtain ⟨b, off, e, hb, hc⟩ := h.rr.cells hn
      have := h.outer hn b off e
      exact ⟨b, off, e, Nat.lt_of_lt_of_le hb hg.size, fun j hj => (World.cell?_of_block (a := ⟨b, off + j, none⟩) (hg.block b hb (by intro e2; injection e2 with e2; omega))).trans (hc j hj)⟩,
    fun j hj hp => by
      obtain ⟨b, off, e, hb, hc⟩ := h.rr.rows j hj hp
      have := h.inner j hj b off e hp
      exact ⟨b, off, e, Nat.lt_of_lt_of_le hb hg.size, fun t ht => (World.cell?_of_block (a := ⟨b, off + t, none⟩) (hg.block b hb (by intro e2; injection e2 with e2; omega))).trans (hc t ht)⟩, h.rr.lens, h.rr.caps⟩, h.outer, h.inner⟩
theorem RX.up (h : RX w lo A n vs xss) (hb : Below w.heap.size w w') : RX w' lo A n vs xss := ⟨h.rr.up hb, h.outer, h.inner⟩
end
section
variable {w w' : World} {base n c : Nat} {A : Option Addr} {vs : List SV} {xss : List (List Int)}
/-- A slice that can be read, appended onto a slice of slices of the call's own. -/
theorem wpList_app2X {ops : Array Oper} {rest : List Oper} {o : Oper} {a : Act} {Q : Exit → Act → World → Prop} (hgd : o.guard = none) (s x : Operand)
    (ho : o.op = .call { callee := .builtin .append, args := #[s, x], argTypes := #[24, 24] })
    (hs : a.eval s = .slice A n c) (hss : SS w base base A n c vs xss) (g : Nat) (dA : Option Addr) (dn dc lo : Nat) (ys : List Int) (hx : a.eval x = .slice (some ⟨g, 0, none⟩) 1 1)
    (hcell : w.cell? ⟨g, 0, none⟩ = some (.slice dA dn dc)) (hys : Pm w lo dA dn dc ys) (hlo : ∀ k, (Value.slice A n c).ownBlock = some k → k < lo) (hn : n ≤ 1000000000) (hbase : base ≤ w.heap.size) (l0 : Nat) (hl0 : l0 ≤ base) (hl1 : l0 ≤ lo)
    (h : ∀ A' c' w', RX w' l0 A' (n + 1) (vs ++ [(dA, dn, dc)]) (xss ++ [ys]) → w.grownBy w' (Value.slice A n c).ownBlock → wpList Try.prog ops Q rest (a.put o.dst (.slice A' (n + 1) c')) w') : wpList Try.prog ops Q (o :: rest) a w := by
  obtain ⟨i0, hi, hz0, hz1, hz2⟩ := info_parts infoS
  refine wpList_append_own (w := w) hgd s x 24 ho base 33 i0 (.slice none 0 0) 1 24 Try.underlying24 hi hz0 hz1 hz2 rfl (by decide) _ n _ hs hss.own ⟨g, 0, none⟩ 1 1 [.slice dA dn dc] hx rfl ?_ ?_ ?_ (by omega) hbase ?_
  · intro j v hj
    match j, hj with
    | 0, hj => simp at hj; subst hj; simpa [Addr.add] using hcell
    | j + 1, hj => simp at hj
  · intro v hv; simp at hv; subst hv; rfl
  · unfold maxLen; omega
  · intro v' w' hown' hg _
    rcases hown'.2 with ⟨rfl, h0⟩ | ⟨g', cap, cur, rfl, hb', hg', hnc, _⟩
    · omega
    · refine h (some ⟨g', 0, none⟩) cap w' ⟨⟨by simp [hss.lv], by simp [hss.lx], fun _ => ⟨g', 0, rfl, (Array.getElem?_eq_some_iff.1 hg').1, fun j hj => ?_⟩, fun j hj => ?_, fun j hj => ?_, fun j hj => ?_⟩, fun _ b off e => ?_, fun j hj b off e hp => ?_⟩ hg
      · rw [Nat.zero_add, hown'.cellAt j (by omega)]
        by_cases e : j < n
        · rw [List.getElem?_append_left (by rw [List.length_map, hss.lv]; exact e), List.getElem?_map, getD_app _ _ _ _ (by rw [hss.lv]; exact e), List.getD_eq_getElem?_getD, List.getElem?_eq_getElem (by rw [hss.lv]; exact e)]; rfl
        · obtain rfl : j = n := by omega
          rw [List.getElem?_append_right (by rw [List.length_map, hss.lv]; exact Nat.le_refl _), List.length_map, hss.lv, Nat.sub_self, getD_snoc _ _ _ _ hss.lv.symm]; rfl
      · by_cases e : j < n
        · rw [getD_app _ _ _ _ (by rw [hss.lv]; exact e), getD_app _ _ _ _ (by rw [hss.lx]; exact e)]
          exact ((hss.row j e).kept hg (apart_types (hss.row j e) hss.own)).ri_
        · obtain rfl : j = n := by omega
          rw [getD_snoc _ _ _ _ hss.lv.symm, getD_snoc _ _ _ _ hss.lx.symm]
          intro hp
          obtain ⟨b, off, e1, h1, h2, hc⟩ := hys.2.2 (by rw [← hys.1]; exact hp)
          refine ⟨b, off, e1, Nat.lt_of_lt_of_le h2 hg.size, fun t ht => (World.cell?_of_block (a := ⟨b, off + t, none⟩) (hg.block b h2 fun e2 => ?_)).trans (hc t (by rw [← hys.1]; exact ht))⟩
          have := hlo b e2.symm
          omega
      · by_cases e : j < n
        · rw [getD_app _ _ _ _ (by rw [hss.lx]; exact e), getD_app _ _ _ _ (by rw [hss.lv]; exact e)]; exact (hss.row j e).1
        · obtain rfl : j = n := by omega
          rw [getD_snoc _ _ _ _ hss.lx.symm, getD_snoc _ _ _ _ hss.lv.symm]; exact hys.1
      · by_cases e : j < n
        · rw [getD_app _ _ _ _ (by rw [hss.lv]; exact e)]; exact (hss.row j e).le.1
        · obtain rfl : j = n := by omega
          rw [getD_snoc _ _ _ _ hss.lv.symm]; exact hys.2.1
      · injection e with e; injection e with e; omega
      · by_cases e9 : j < n
        · rw [getD_app _ _ _ _ (by rw [hss.lv]; exact e9)] at e
          have := ((hss.row j e9).lt_ b (by rw [e]; rfl)).1
          omega
        · obtain rfl : j = n := by omega
          rw [getD_snoc _ _ _ _ hss.lv.symm] at e
          rw [getD_snoc _ _ _ _ hss.lx.symm] at hp
          obtain ⟨b2, off2, e1, h1, _⟩ := hys.2.2 (by rw [← hys.1]; exact hp)
          have e3 : (some ⟨b, off, none⟩ : Option Addr) = some ⟨b2, off2, none⟩ := e.symm.trans e1
          injection e3 with e3; injection e3 with e3; omega
end

set_option maxHeartbeats 4000000 in
set_option maxRecDepth 100000 in
/-- drawGroup. -/
theorem drawGroupX (g : Nat) (w : World) (hs : Src w g) :
    Calls Try.prog 94 #[.pointer (some ⟨g, 0, none⟩)] w fun e w' => ∃ (z : Int) (A : Option Addr) (m c : Nat) (vs : List SV) (xss : List (List Int)), e = .returned (.tuple #[.int .i64 z, .slice A m c]) ∧ B64 z ∧ RX w' w.heap.size A m vs xss ∧ m ≤ 9 ∧ (∀ i, i < m → (vs.getD i sd0).2.1 ≤ 21) ∧ Src w' g ∧ w.grownBy w' (some g) := by
  have hg := hs.lt
  go_enter Try.func94, Try.ntmps94
  go_wp2_with fail
  refine (srcBetween g 2 5 w hs (by omega) (by omega)).mono ?_
  rintro e w1 ⟨n1, h11, h12, rfl, s1, g1⟩
  have Sr1 := Lib.hid s1
  have G1 := Lib.hid g1
  clear s1 g1 hs
  go_wp2_with fail
  refine (srcOne g _ 6 w1 Sr1.out rfl (by omega) (by omega)).mono ?_
  rintro e w2 ⟨b, rfl, s2, g2⟩
  have Sr2 := Lib.hid s2
  have G2 : Hid (w.grownBy w2 (some g)) := Lib.hid (grown_trans' G1.out g2)
  clear s2 g2
  go_upto_if 9 with fail
  go_cut [4] from 6 to 48 (fun nn wx => ∃ n : Nat, 1 ≤ n ∧ n ≤ 7 ∧ nn = .int .i64 (n : Nat) ∧ Src wx g ∧ w.grownBy wx (some g))
  case first =>
    cases b
    · go_wp2_with fail
      go_meet
      exact ⟨n1, by omega, by omega, rfl, Sr2.out, G2.out⟩
    · go_wp2_with fail
      refine (srcBetween g 1 7 w2 Sr2.out (by omega) (by omega)).mono ?_
      rintro e w3 ⟨n3, h31, h32, rfl, s3, g3⟩
      have Sr3 := Lib.hid s3
      have G3 : Hid (w.grownBy w3 (some g)) := Lib.hid (grown_trans' G2.out g3)
      clear s3 g3
      go_wp2_with fail
      go_meet
      exact ⟨n3, by omega, by omega, rfl, Sr3.out, G3.out⟩
  case rest =>
    obtain ⟨n, hn1, hn7, rfl, src, grc⟩ := hcut
    have Sr3 := Lib.hid src
    have G3 := Lib.hid grc
    clear src grc Sr2 G2 Sr1 G1
    have hwc := G3.out.size
    go_wp2_with fail
    refine (drawGens g n wc Sr3.out hn1 (by omega)).mono ?_
    rintro e w4 ⟨A, m, c, us, xss, rfl, ss4, ln4, hm4, s4, g4⟩
    have Ss4 := Lib.hid ss4
    have Ln4 := Lib.hid ln4
    have Sr4 := Lib.hid s4
    have G4 : Hid (w.grownBy w4 (some g)) := Lib.hid (grown_trans' G3.out g4)
    have hgc : g < wc.heap.size := Sr3.out.lt
    have hz4 := G4.out.size
    have LA : Hid (∀ j, (Value.slice A m c).ownBlock = some j → wc.heap.size ≤ j ∧ j < w4.heap.size) := Lib.hid ss4.lt_
    have LI : Hid (∀ t, t < m → ∀ j, (sval (us.getD t sd0)).ownBlock = some j → wc.heap.size ≤ j ∧ j < w4.heap.size) := Lib.hid fun t ht => (ss4.row t ht).lt_
    have hzc4 := g4.size
    clear ss4 ln4 s4 g4
    go_wp2_with fail
    refine (srcOne g _ 20 w4 Sr4.out rfl (by omega) (by omega)).mono ?_
    rintro e w5 ⟨b5, rfl, s5, g5⟩
    have Sr5 := Lib.hid s5
    have Ss5 := Lib.hid (Ss4.out.farR g5 LA.out LI.out (.inl hgc))
    have G5 : Hid (w.grownBy w5 (some g)) := Lib.hid (grown_trans' G4.out g5)
    have hz5 := g5.size
    clear s5 g5
    cases b5
    · go_wp2_with fail
      go_ret2
      exact ⟨_, _, _, _, us, xss, rfl, by unfold B64; omega, (RX.of_ss Ss5.out (by omega) (by omega)), by omega, Ss5.out.lens_le Ln4.out (by omega), Sr5.out, G5.out⟩
    · go_wp2_with fail
      refine (srcBelow g _ 4 w5 Sr5.out rfl (by omega) (by omega)).mono ?_
      rintro e w6 ⟨r6, hr6, rfl, s6, g6⟩
      have Sr6 := Lib.hid s6
      have Ss6 := Lib.hid (Ss5.out.farR g6 LA.out LI.out (.inl hgc))
      have G6 : Hid (w.grownBy w6 (some g)) := Lib.hid (grown_trans' G5.out g6)
      have hz6 := g6.size
      clear s6 g6
      obtain rfl | rfl | rfl | rfl : r6 = 0 ∨ r6 = 1 ∨ r6 = 2 ∨ r6 = 3 := by omega
      · go_wp2_with fail
        refine (srcNumberB g 20 w6 Sr6.out (by omega) (by omega)).mono ?_
        rintro e w7 ⟨z7, rfl, hB7, s7, g7⟩
        have Sr7 := Lib.hid s7
        have Ss7 := Lib.hid (Ss6.out.farR g7 LA.out LI.out (.inl hgc))
        have G7 : Hid (w.grownBy w7 (some g)) := Lib.hid (grown_trans' G6.out g7)
        have HB7 := Lib.hid hB7
        clear s7 g7 hB7
        go_wp2_with fail
        go_ret2
        exact ⟨_, _, _, _, us, xss, rfl, HB7.out, (RX.of_ss Ss7.out (by omega) (by omega)), by omega, Ss7.out.lens_le Ln4.out (by omega), Sr7.out, G7.out⟩
      · go_wp2_with fail
        refine (drawAny g n w6 Sr6.out (by omega) (by omega)).mono ?_
        rintro e w7 ⟨A7, m7, c7, ys, rfl, p7, hm7, s7, g7⟩
        have Sr7 := Lib.hid s7
        have Ss7 := Lib.hid (Ss6.out.farR g7 LA.out LI.out (.inl hgc))
        have G7 : Hid (w.grownBy w7 (some g)) := Lib.hid (grown_trans' G6.out g7)
        have P7 : Hid (Pm (w7.alloc (.cells #[.slice A7 m7 c7] 33)) w6.heap.size A7 m7 c7 ys) := Lib.hid (p7.up ((Below.refl w7.heap.size w7).alloc (Nat.le_refl _) _))
        have hz7 := G7.out.size
        have hz67 := g7.size
        have hlt7 : Hid (∀ j, (Value.slice A m c).ownBlock = some j → j < w6.heap.size) := Lib.hid fun j hj => by have := (LA.out j hj).2; omega
        clear s7 g7 p7
        go_wp2_with (first
          | (at_builtin
             refine wpList_app2X rfl _ _ rfl rfl (Ss7.out.alloc _) w7.heap.size A7 m7 c7 w6.heap.size ys rfl (by rw [World.cell?_alloc_at _ _ _ _ rfl]; rfl) P7.out hlt7.out (by omega) (by simp; omega) w.heap.size (by omega) (by omega) ?_
             intro A8 c8 w8 rr8 g8))
        have R8 := Lib.hid rr8
        have Sr8 : Hid (Src w8 g) := Lib.hid ((Sr7.out.below ((Below.refl w7.heap.size w7).alloc (Nat.le_refl _) (.cells #[.slice A7 m7 c7] 33)) Sr7.out.lt).gro2 g8 (fun j hj => by have := (LA.out j hj).1; omega))
        have G8 : Hid (w.grownBy w8 (some g)) := Lib.hid (grown_new2 (grown_alloc2 G7.out (.cells #[.slice A7 m7 c7] 33)) g8 (fun j hj => by have := (LA.out j hj).1; have := G3.out.size; omega))
        have Ln8 : Hid (∀ i, i < m + 1 → ((us ++ [((A7, m7, c7) : SV)]).getD i sd0).2.1 ≤ 21) := Lib.hid fun i hi => by
          by_cases e9 : i < m
          · rw [getD_app _ _ _ _ (by rw [Ss7.out.lv]; exact e9), Ln4.out i e9]; omega
          · rw [getD_snoc _ _ _ _ (by rw [Ss7.out.lv]; omega)]; exact hm7
        clear rr8 g8
        go_wp2_with fail
        go_ret2
        exact ⟨_, _, _, _, _, _, rfl, by unfold B64; omega, R8.out, by omega, Ln8.out, Sr8.out, G8.out⟩
      · have hw6 := G6.out.size
        have Sr7 : Hid (Src (w6.alloc (.cells #[] 33)) g) := Lib.hid (Sr6.out.below ((Below.refl w6.heap.size w6).alloc (Nat.le_refl _) _) Sr6.out.lt)
        have G7 : Hid (w.grownBy (w6.alloc (.cells #[] 33)) (some g)) := Lib.hid (grown_alloc2 G6.out _)
        go_wp2_with fail
        go_ret2
        exact ⟨_, _, 0, _, [], [], rfl, by unfold B64; omega, RX.nil_, by omega, fun i hi => absurd hi (by omega), Sr7.out, G7.out⟩
      · go_wp2_with fail
        go_loopg [5] 10 (fun gg v wr => ∃ (A : Option Addr) (m c : Nat) (us : List SV) (xss : List (List Int)), m ≤ 9 ∧ 9 - m ≤ gg ∧ v = .slice A m c ∧ SS wr wc.heap.size wc.heap.size A m c us xss ∧ (∀ i, i < m → (us.getD i sd0).2.1 = n) ∧ Src wr g ∧ w.grownBy wr (some g) ∧ wc.heap.size ≤ wr.heap.size)
        case atStart => exact ⟨_, m, _, _, _, by omega, by omega, rfl, Ss6.out, Ln4.out, Sr6.out, G6.out, by omega⟩
        case round =>
          clear LA LI Ss4 Ss5 Ss6
          obtain ⟨A, m, c, us, xss, hm9, hgm, rfl, ss, ln, sr, gr, hzc⟩ := hrel
          have Ss := Lib.hid ss
          have Ln := Lib.hid ln
          have Sr := Lib.hid sr
          have Gr := Lib.hid gr
          have LA : Hid (∀ j, (Value.slice A m c).ownBlock = some j → wc.heap.size ≤ j ∧ j < wr.heap.size) := Lib.hid ss.lt_
          have LI : Hid (∀ t, t < m → ∀ j, (sval (us.getD t sd0)).ownBlock = some j → wc.heap.size ≤ j ∧ j < wr.heap.size) := Lib.hid fun t ht => (ss.row t ht).lt_
          clear ss ln sr gr
          go_wp2_with fail
          refine (srcBelow g _ 2 wr Sr.out rfl (by omega) (by omega)).mono ?_
          rintro e w7 ⟨r7, hr7, rfl, s7, g7⟩
          have Sr7 := Lib.hid s7
          have Ss7 := Lib.hid (Ss.out.farR g7 LA.out LI.out (.inl hgc))
          have G7 : Hid (w.grownBy w7 (some g)) := Lib.hid (grown_trans' Gr.out g7)
          have hz7 := g7.size
          have w88 : IntKind.i64.wrap (8 + (r7 : Int)) = 8 + (r7 : Int) := by rw [IntKind.wrap_i64]; omega
          have w89 : IntKind.i64.wrap (r7 : Int) = (r7 : Int) := by rw [IntKind.wrap_i64]; omega
          clear s7 g7
          by_cases hlt : (m : Int) < 8 + (r7 : Int)
          · have d7 : decide ((m : Int) < 8 + (r7 : Int)) = true := decide_eq_true hlt
            have hm8 : m ≤ 8 := by omega
            go_wp2_with fail
            refine (specIdent n w7 (by omega)).mono ?_
            rintro e w8 ⟨A8, c8, rfl, s8, b8⟩
            have Sr8 := Lib.hid (Sr7.out.below b8 Sr7.out.lt)
            have Ss8 := Lib.hid (Ss7.out.up b8)
            have G8 : Hid (w.grownBy w8 (some g)) := Lib.hid (grown_below2 G7.out b8)
            have D8 := Lib.hid (lies_dis Ss7.out s8.lies (Nat.le_refl _))
            have hz8 := b8.size
            have Sl8 := Lib.hid (s8.mono (show wc.heap.size ≤ w7.heap.size by omega))
            clear s8 b8
            go_wp2_with (first
              | (at_builtin
                 refine wpList_app2 rfl _ _ rfl rfl (Ss8.out.alloc _) w8.heap.size A8 n c8 (idL n) rfl (by rw [World.cell?_alloc_at _ _ _ _ rfl]; rfl) (Sl8.out.alloc _) D8.out (by omega) (by simp; omega) ?_
                 intro A9 c9 w9 ss9 g9))
            have Ss9 : Hid (SS w9 wc.heap.size wc.heap.size A9 (m + 1) c9 (us ++ [(A8, n, c8)]) (xss ++ [idL n])) := Lib.hid ss9
            have Sr9 : Hid (Src w9 g) := Lib.hid ((Sr8.out.below ((Below.refl w8.heap.size w8).alloc (Nat.le_refl _) (.cells #[.slice A8 n c8] 33)) Sr8.out.lt).gro2 g9 (fun j hj => by have := (LA.out j hj).1; omega))
            have G9 : Hid (w.grownBy w9 (some g)) := Lib.hid (grown_new2 (grown_alloc2 G8.out (.cells #[.slice A8 n c8] 33)) g9 (fun j hj => by have := (LA.out j hj).1; have := G3.out.size; omega))
            have hz9 : wc.heap.size ≤ w9.heap.size := by have := g9.size; simp at this; omega
            have Ln9 : Hid (∀ i, i < m + 1 → ((us ++ [((A8, n, c8) : SV)]).getD i sd0).2.1 = n) := Lib.hid fun i hi => by
              by_cases e9 : i < m
              · rw [getD_app _ _ _ _ (by rw [Ss8.out.lv]; exact e9)]; exact Ln.out i e9
              · rw [getD_snoc _ _ _ _ (by rw [Ss8.out.lv]; omega)]
            clear ss9 g9
            go_wp2_with fail
            go_roundg (9 - (m + 1))
            case rel => exact ⟨A9, m + 1, c9, _, _, by omega, by omega, rfl, Ss9.out, Ln9.out, Sr9.out, G9.out, hz9⟩
            case measure => omega
          · have d7 : decide ((m : Int) < 8 + (r7 : Int)) = false := decide_eq_false hlt
            go_wp2_with fail
            go_ret2
            exact ⟨_, _, _, _, us, xss, rfl, by unfold B64; omega, (RX.of_ss Ss7.out (by omega) (by omega)), by omega, Ss7.out.lens_le Ln.out (by omega), Sr7.out, G7.out⟩
end Go.Proofs.Ytcjcmhoalomjfaa

/- The draws of chapter 4's named laws. Condition: at most 4096 bytes. -/
namespace Go.Proofs.Ytcjcmhoalomjfaa
open Go.RowKit

theorem drawAnyK (g n : Nat) (N : Int) (w : World) (hs : Src w g) (hN : N = (n : Int)) (h1 : 1 ≤ n) (hn : n ≤ 20) :
    Calls Try.prog 96 #[.pointer (some ⟨g, 0, none⟩), .int .i64 N] w fun e w' => ∃ A m c xs, e = .returned (.slice A m c) ∧ Pm w' w.heap.size A m c xs ∧ m ≤ 21 ∧ Src w' g ∧ w.grownBy w' (some g) := by
  subst hN; exact drawAny g n w hs h1 hn

set_option maxHeartbeats 4000000 in
set_option maxRecDepth 100000 in
/-- drawMember. -/
theorem drawMemberT (g lo : Nat) (z : Int) (A : Option Addr) (m c : Nat) (vs : List SV) (xss : List (List Int)) (w : World) (hs : Src w g) (hB : B64 z) (rx : RX w lo A m vs xss) (hg : g < lo) (hm : m ≤ 9) (hln : ∀ i, i < m → (vs.getD i sd0).2.1 ≤ 21) :
    Calls Try.prog 74 #[.pointer (some ⟨g, 0, none⟩), .int .i64 z, .slice A m c] w fun e w' => ∃ (A' : Option Addr) (n' c' : Nat) (p : List Int), e = .returned (.slice A' n' c') ∧ Pm w' w.heap.size A' n' c' p ∧ n' ≤ 21 ∧ Src w' g ∧ w.grownBy w' (some g) := by
  have Sr0 := Lib.hid hs
  have Rx0 := Lib.hid rx
  have hgw := hs.lt
  have Ln : Hid (∀ i, i < m → (vs.getD i sd0).2.1 ≤ 1048576) := Lib.hid fun i hi => by have := hln i hi; omega
  have hlx : Hid (xss.length = m) := Lib.hid rx.rr.lx
  clear hs rx hln
  go_enter Try.func74, Try.ntmps74
  go_wp2_with fail
  refine (specGS z A m c vs xss w Rx0.out.rr (by omega) Ln hB).mono ?_
  rintro e w1 ⟨rfl, b1⟩
  have Sr1 := Lib.hid (Sr0.out.below b1 hgw)
  have Rx1 := Lib.hid (Rx0.out.up b1)
  have G1 : Hid (w.grownBy w1 (some g)) := Lib.hid (grown_below2 (grown_refl w _) b1)
  clear b1
  rcases hq : gB z xss with _ | _
  · clear hq
    obtain hz | hz | hz : z < 1 ∨ (1 ≤ z ∧ z ≤ 7) ∨ 7 < z := by omega
    · go_wp2_with fail
      refine (drawAnyK g 1 1 w1 Sr1.out rfl (by omega) (by omega)).mono ?_
      rintro e w2 ⟨A2, n2, c2, p2, rfl, pm2, hn2, s2, g2⟩
      have Pm2 : Hid (Pm w2 w.heap.size A2 n2 c2 p2) := Lib.hid (pm2.mono G1.out.size)
      have Sr2 := Lib.hid s2
      have G2 : Hid (w.grownBy w2 (some g)) := Lib.hid (grown_trans' G1.out g2)
      clear pm2 s2 g2
      go_wp2_with fail
      go_ret
      exact ⟨_, _, _, _, rfl, Pm2.out, hn2, Sr2.out, G2.out⟩
    · obtain ⟨n, rfl⟩ : ∃ n : Nat, z = (n : Int) := ⟨z.toNat, by omega⟩
      obtain ⟨hz1, hz2⟩ := hz
      go_wp2_with fail
      all_goals
        refine (drawAnyK g n _ w1 Sr1.out (by omega) (by omega) (by omega)).mono ?_
        rintro e w2 ⟨A2, n2, c2, p2, rfl, pm2, hn2, s2, g2⟩
        have Pm2 : Hid (Pm w2 w.heap.size A2 n2 c2 p2) := Lib.hid (pm2.mono G1.out.size)
        have Sr2 := Lib.hid s2
        have G2 : Hid (w.grownBy w2 (some g)) := Lib.hid (grown_trans' G1.out g2)
        clear pm2 s2 g2
        go_wp2_with fail
        go_ret
        exact ⟨_, _, _, _, rfl, Pm2.out, hn2, Sr2.out, G2.out⟩
    · go_wp2_with fail
      refine (drawAnyK g 7 7 w1 Sr1.out rfl (by omega) (by omega)).mono ?_
      rintro e w2 ⟨A2, n2, c2, p2, rfl, pm2, hn2, s2, g2⟩
      have Pm2 : Hid (Pm w2 w.heap.size A2 n2 c2 p2) := Lib.hid (pm2.mono G1.out.size)
      have Sr2 := Lib.hid s2
      have G2 : Hid (w.grownBy w2 (some g)) := Lib.hid (grown_trans' G1.out g2)
      clear pm2 s2 g2
      go_wp2_with fail
      go_ret
      exact ⟨_, _, _, _, rfl, Pm2.out, hn2, Sr2.out, G2.out⟩
  · obtain ⟨N, rfl, hN1, hN2, hg8, hpm, hok⟩ := gB_pm hq
    have Ok := Lib.hid hok
    clear hq hpm hok
    go_wp2_with fail
    refine (specIdent N w1 (by omega)).mono ?_
    rintro e w2 ⟨A2, c2, rfl, s2, b2⟩
    have Sl2 : Hid (Slc w2 w.heap.size A2 N c2 (idL N)) := Lib.hid (s2.mono G1.out.size)
    have Sr2 := Lib.hid (Sr1.out.below b2 Sr1.out.lt)
    have Rx2 := Lib.hid (Rx1.out.up b2)
    have G2 : Hid (w.grownBy w2 (some g)) := Lib.hid (grown_below2 G1.out b2)
    clear s2 b2
    go_wp2_with fail
    refine (srcBelow g _ 8 w2 Sr2.out rfl (by omega) (by omega)).mono ?_
    rintro e w3 ⟨r3, hr3, rfl, s3, g3⟩
    have Sr3 := Lib.hid s3
    have Sl3 : Hid (Slc w3 w.heap.size A2 N c2 (idL N)) := Lib.hid (Sl2.out.kept g3 (.inr fun e => by have := (Sl2.out.lt_ g e).1; omega))
    have Rx3 := Lib.hid (Rx2.out.gro g3 hg)
    have G3 : Hid (w.grownBy w3 (some g)) := Lib.hid (grown_trans' G2.out g3)
    have I0 : Hid (Pn N (idL N)) := Lib.hid (pn_id hN1 hN2)
    clear s3 g3
    go_wp2_with fail
    go_loopg [7, 8] 8 (fun gg v i wr => ∃ (k cc : Nat) (A' : Option Addr) (p : List Int), k ≤ 8 ∧ k ≤ gg ∧ i = .int .i64 (k : Nat) ∧ v = .slice A' N cc ∧ Slc wr w.heap.size A' N cc p ∧ Pn N p ∧ Src wr g ∧ RX wr lo A m vs xss ∧ w.grownBy wr (some g))
    case atStart => exact ⟨r3, _, _, _, by omega, by omega, rfl, rfl, Sl3.out, I0.out, Sr3.out, Rx3.out, G3.out⟩
    case round =>
      clear Sl3 I0 Sr3 Rx3 G3 Sl2 Sr2 Rx2 G2
      obtain ⟨k, cc, A3, p, hk, hkg, rfl, rfl, hsl, hpp, hsr, hrx, hgr⟩ := hrel
      have Sl := Lib.hid hsl
      have Pp := Lib.hid hpp
      have Sr := Lib.hid hsr
      have Rx := Lib.hid hrx
      have Gr := Lib.hid hgr
      have hwr := hgr.size
      clear hsl hpp hsr hrx hgr
      by_cases hk0 : 0 < k ∧ 0 < m
      · obtain ⟨hk1, hm1⟩ := hk0
        have d1 : decide (0 < k) = true := decide_eq_true hk1
        have d2 : decide (0 < m) = true := decide_eq_true hm1
        have d3 : decide ((0 : Int) < (k : Int)) = true := by simp; omega
        have d4 : decide ((0 : Int) < (m : Int)) = true := by simp; omega
        have wk : IntKind.i64.wrap ((k : Int) - 1) = ((k - 1 : Nat) : Int) := by rw [IntKind.wrap_i64]; omega
        have Hk1 := Lib.hid hk1
        clear hk1
        go_wp2_with fail
        refine (srcBelow g _ m wr Sr.out rfl (by omega) (by omega)).mono ?_
        rintro e w4 ⟨r4, hr4, rfl, s4, g4⟩
        have Sr4 := Lib.hid s4
        have Sl4 : Hid (Slc w4 w.heap.size A3 N cc p) := Lib.hid (Sl.out.kept g4 (.inr fun e => by have := (Sl.out.lt_ g e).1; omega))
        have Rx4 := Lib.hid (Rx.out.gro g4 hg)
        have G4 : Hid (w.grownBy w4 (some g)) := Lib.hid (grown_trans' Gr.out g4)
        clear s4 g4
        obtain ⟨b, off, A5, l, c5, y, rfl, hb, hv, ey, x1, ri, ly, hl5⟩ := Rx4.out.rr.at_ hr4
        have hyP := Ok.out y (by rw [← ey]; exact getD_memL (by rw [hlx.out]; exact hr4))
        obtain rfl : l = N := by omega
        have Yp : Hid (Pn l y) := Lib.hid hyP
        have Ri := Lib.hid ri
        have q0 : (0 : Int) ≤ r4 := by omega
        have q1 : (r4 : Int) < m := by omega
        clear hb hv ey ri ly hl5 hyP
        go_wp2_with fail
        refine (specComp A3 A5 cc c5 l p y w4 Sl4.out.ri_ Ri.out (Lib.hid Pp.out.2) (Lib.hid Yp.out.2) (Lib.hid Pp.out.1) hN2).mono ?_
        rintro e w5 ⟨A6, c6, rfl, s5, b5⟩
        have Sl5 : Hid (Slc w5 w.heap.size A6 l c6 (compL p y)) := Lib.hid (s5.mono G4.out.size)
        have Sr5 := Lib.hid (Sr4.out.below b5 Sr4.out.lt)
        have Rx5 := Lib.hid (Rx4.out.up b5)
        have G5 : Hid (w.grownBy w5 (some g)) := Lib.hid (grown_below2 G4.out b5)
        have P5 : Hid (Pn l (compL p y)) := Lib.hid (Pp.out.comp Yp.out)
        clear s5 b5
        go_wp2_with fail
        go_roundg (k - 1)
        case rel => exact ⟨k - 1, _, _, _, by omega, by omega, by go_num, rfl, Sl5.out, P5.out, Sr5.out, Rx5.out, G5.out⟩
        case measure => have := Hk1.out; omega
      · have Done : Hid (¬ (0 < k ∧ 0 < m)) := Lib.hid hk0
        have d1 : (decide (0 < k) && decide (0 < m)) = false := by
          rw [Bool.and_eq_false_iff, decide_eq_false_iff_not, decide_eq_false_iff_not]; omega
        by_cases hk1 : 0 < k
        · have d2 : decide (0 < k) = true := decide_eq_true hk1
          have d3 : decide ((0 : Int) < (k : Int)) = true := by simp; omega
          have d4 : decide (0 < m) = false := decide_eq_false (by omega)
          have d5 : decide ((0 : Int) < (m : Int)) = false := by simp; omega
          clear hk0 hk1 d1
          go_wp2_with fail
          refine (srcOne g _ 3 wr Sr.out rfl (by omega) (by omega)).mono ?_
          rintro e w4 ⟨bb, rfl, s4, g4⟩
          have Sr4 := Lib.hid s4
          have Sl4 : Hid (Slc w4 w.heap.size A3 N cc p) := Lib.hid (Sl.out.kept g4 (.inr fun e => by have := (Sl.out.lt_ g e).1; omega))
          have G4 : Hid (w.grownBy w4 (some g)) := Lib.hid (grown_trans' Gr.out g4)
          clear s4 g4
          cases bb
          · go_wp2_with fail
            go_ret
            exact ⟨_, _, _, _, rfl, Pm.of_slc Sl4.out, by omega, Sr4.out, G4.out⟩
          · go_wp2_with fail
            refine (drawAnyK g N _ w4 Sr4.out rfl hN1 hN2).mono ?_
            rintro e w5 ⟨A5, n5, c5, p5, rfl, pm5, hn5, s5, g5⟩
            have Pm5 : Hid (Pm w5 w.heap.size A5 n5 c5 p5) := Lib.hid (pm5.mono G4.out.size)
            have Sr5 := Lib.hid s5
            have G5 : Hid (w.grownBy w5 (some g)) := Lib.hid (grown_trans' G4.out g5)
            clear pm5 s5 g5
            go_wp2_with fail
            go_ret
            exact ⟨_, _, _, _, rfl, Pm5.out, hn5, Sr5.out, G5.out⟩
        · have d2 : decide (0 < k) = false := decide_eq_false hk1
          have d3 : decide ((0 : Int) < (k : Int)) = false := by simp; omega
          clear hk0 hk1 d1
          go_wp2_with fail
          refine (srcOne g _ 3 wr Sr.out rfl (by omega) (by omega)).mono ?_
          rintro e w4 ⟨bb, rfl, s4, g4⟩
          have Sr4 := Lib.hid s4
          have Sl4 : Hid (Slc w4 w.heap.size A3 N cc p) := Lib.hid (Sl.out.kept g4 (.inr fun e => by have := (Sl.out.lt_ g e).1; omega))
          have G4 : Hid (w.grownBy w4 (some g)) := Lib.hid (grown_trans' Gr.out g4)
          clear s4 g4
          cases bb
          · go_wp2_with fail
            go_ret
            exact ⟨_, _, _, _, rfl, Pm.of_slc Sl4.out, by omega, Sr4.out, G4.out⟩
          · go_wp2_with fail
            refine (drawAnyK g N _ w4 Sr4.out rfl hN1 hN2).mono ?_
            rintro e w5 ⟨A5, n5, c5, p5, rfl, pm5, hn5, s5, g5⟩
            have Pm5 : Hid (Pm w5 w.heap.size A5 n5 c5 p5) := Lib.hid (pm5.mono G4.out.size)
            have Sr5 := Lib.hid s5
            have G5 : Hid (w.grownBy w5 (some g)) := Lib.hid (grown_trans' G4.out g5)
            clear pm5 s5 g5
            go_wp2_with fail
            go_ret
            exact ⟨_, _, _, _, rfl, Pm5.out, hn5, Sr5.out, G5.out⟩
end Go.Proofs.Ytcjcmhoalomjfaa

/- A draw of a group and of a list that is often of a subgroup. Condition: at most 4096 bytes. -/
namespace Go.Proofs.Ytcjcmhoalomjfaa
open Go.RowKit

/-- Slices that can be read, in a slice of the call's own that none of them lies in. -/
structure RG (w : World) (lo : Nat) (A : Option Addr) (n c : Nat) (vs : List SV) (xss : List (List Int)) : Prop where
  own : w.ownsRow lo 33 1 (.slice A n c) n (vs.map sval)
  lv : vs.length = n
  lx : xss.length = n
  row : ∀ j, j < n → Pm w lo (vs.getD j sd0).1 (vs.getD j sd0).2.1 (vs.getD j sd0).2.2 (xss.getD j [])
  apt : ∀ j, j < n → ∀ b off, (vs.getD j sd0).1 = some ⟨b, off, none⟩ → 0 < (vs.getD j sd0).2.1 → (Value.slice A n c).ownBlock ≠ some b
section
variable {w w' : World} {lo g n c : Nat} {A : Option Addr} {vs : List SV} {xss : List (List Int)}
theorem RG.lit (w : World) (lo : Nat) (h : lo ≤ w.heap.size) : RG (w.alloc (.cells #[] 33)) lo (some ⟨w.heap.size, 0, none⟩) 0 0 [] [] :=
  ⟨(SS.lit0 w lo lo h).own, rfl, rfl, fun j h => absurd h (by omega), fun j h => absurd h (by omega)⟩
theorem RG.gro (h : RG w lo A n c vs xss) (hg : w.grownBy w' (some g)) (hl : g < lo) : RG w' lo A n c vs xss :=
  ⟨World.ownsRow.kept h.own hg (by
    rcases e : (Value.slice A n c).ownBlock with _ | k
    · exact .inl rfl
    · exact .inr fun e2 => by injection e2 with e2; have := (World.ownsRow.lt h.own k e).1; omega), h.lv, h.lx, fun j hj => (h.row j hj).gro hg hl, h.apt⟩
theorem RG.up (h : RG w lo A n c vs xss) (hb : Below w.heap.size w w') : RG w' lo A n c vs xss :=
  ⟨ownsRow_chg h.own (Chg.of_below (M := fun _ => False) hb) fun _ _ e => e, h.lv, h.lx, fun j hj => (h.row j hj).up hb, h.apt⟩
theorem RG.rx (h : RG w lo A n c vs xss) : RX w lo A n vs xss :=
  ⟨⟨h.lv, h.lx, fun hn => by
      rcases h.own.2 with ⟨e, h0⟩ | ⟨g', cap, cur, e, hb', hg', hnc, _⟩
      · omega
      · injection e with e _ _
        subst e
        refine ⟨g', 0, rfl, (Array.getElem?_eq_some_iff.1 hg').1, fun j hj => ?_⟩
        rw [Nat.zero_add, h.own.cellAt j (by omega), List.getElem?_map, List.getD_eq_getElem?_getD, List.getElem?_eq_getElem (by rw [h.lv]; exact hj)]; rfl,
    fun j hj => (h.row j hj).ri, fun j hj => (h.row j hj).1, fun j hj => (h.row j hj).2.1⟩,
   fun _ b off e => (World.ownsRow.lt h.own b (by rw [e]; rfl)).1, fun j hj b off e hp => by
    obtain ⟨b2, off2, e2, h1, _⟩ := (h.row j hj).2.2 (by rw [← (h.row j hj).1]; exact hp)
    rw [e] at e2; injection e2 with e2; injection e2 with e2; omega⟩
/-- With a bound on the blocks. -/
structure RXB (w : World) (lo B : Nat) (A : Option Addr) (n : Nat) (vs : List SV) (xss : List (List Int)) : Prop where
  rx : RX w lo A n vs xss
  rr : RR w B A n vs xss
  hB : B ≤ w.heap.size
theorem RXB.keep {B : Nat} (h : RXB w lo B A n vs xss) (hs : w.heap.size ≤ w'.heap.size) (hk : ∀ b, lo ≤ b → b < B → w'.heap[b]? = w.heap[b]?) : RXB w' lo B A n vs xss := by
  have hB := h.hB
  have c : 0 < n → ∃ b off, A = some ⟨b, off, none⟩ ∧ b < B ∧ ∀ j, j < n → w'.cell? ⟨b, off + j, none⟩ = some (.slice (vs.getD j sd0).1 (vs.getD j sd0).2.1 (vs.getD j sd0).2.2) := fun hn => by
    obtain ⟨b, off, e, hb, hc⟩ := h.rr.cells hn
    exact ⟨b, off, e, hb, fun j hj => (World.cell?_of_block (a := ⟨b, off + j, none⟩) (hk b (h.rx.outer hn b off e) hb)).trans (hc j hj)⟩
  have r : ∀ j, j < n → RI w' B (vs.getD j sd0).1 (xss.getD j []) := fun j hj hp => by
    obtain ⟨b, off, e, hb, hc⟩ := h.rr.rows j hj hp
    exact ⟨b, off, e, hb, fun t ht => (World.cell?_of_block (a := ⟨b, off + t, none⟩) (hk b (h.rx.inner j hj b off e hp) hb)).trans (hc t ht)⟩
  refine ⟨⟨⟨h.rr.lv, h.rr.lx, fun hn => ?_, fun j hj hp => ?_, h.rr.lens, h.rr.caps⟩, h.rx.outer, h.rx.inner⟩, ⟨h.rr.lv, h.rr.lx, c, r, h.rr.lens, h.rr.caps⟩, by omega⟩
  · obtain ⟨b, off, e, hb, hc⟩ := c hn
    exact ⟨b, off, e, by omega, hc⟩
  · obtain ⟨b, off, e, hb, hc⟩ := r j hj hp
    exact ⟨b, off, e, by omega, hc⟩
theorem RXB.up {B : Nat} (h : RXB w lo B A n vs xss) (hb : Below w.heap.size w w') : RXB w' lo B A n vs xss := h.keep hb.size fun b _ h2 => hb.block b (by have := h.hB; omega)
theorem RXB.gro {B : Nat} (h : RXB w lo B A n vs xss) (hg : w.grownBy w' (some g)) (hl : g < lo) : RXB w' lo B A n vs xss := h.keep hg.size fun b h1 h2 => hg.block b (by have := h.hB; omega) (by intro e; injection e with e; omega)
theorem RXB.app {B : Nat} {row : Option Nat} (h : RXB w lo B A n vs xss) (hg : w.grownBy w' row) (hr : ∀ r, row = some r → B ≤ r) : RXB w' lo B A n vs xss := h.keep hg.size fun b h1 h2 => hg.block b (by have := h.hB; omega) fun e => by have := hr b e.symm; omega
theorem RX.lower {lo' : Nat} (h : RX w lo A n vs xss) (hl : lo' ≤ lo) : RX w lo' A n vs xss := ⟨h.rr, fun hn b off e => Nat.le_trans hl (h.outer hn b off e), fun j hj b off e hp => Nat.le_trans hl (h.inner j hj b off e hp)⟩
/-- A slice that can be read, appended. -/
theorem wpList_app2G {ops : Array Oper} {rest : List Oper} {o : Oper} {a : Act} {Q : Exit → Act → World → Prop} (hgd : o.guard = none) (s x : Operand)
    (ho : o.op = .call { callee := .builtin .append, args := #[s, x], argTypes := #[24, 24] })
    (hs : a.eval s = .slice A n c) (hss : RG w lo A n c vs xss) (g : Nat) (dA : Option Addr) (dn dc : Nat) (ys : List Int) (hx : a.eval x = .slice (some ⟨g, 0, none⟩) 1 1)
    (hcell : w.cell? ⟨g, 0, none⟩ = some (.slice dA dn dc)) (hys : Pm w lo dA dn dc ys) (hap : ∀ b off, dA = some ⟨b, off, none⟩ → 0 < dn → (Value.slice A n c).ownBlock ≠ some b) (hn : n ≤ 1000000000) (hbase : lo ≤ w.heap.size)
    (h : ∀ A' c' w', RG w' lo A' (n + 1) c' (vs ++ [(dA, dn, dc)]) (xss ++ [ys]) → w.grownBy w' (Value.slice A n c).ownBlock → wpList Try.prog ops Q rest (a.put o.dst (.slice A' (n + 1) c')) w') : wpList Try.prog ops Q (o :: rest) a w := by
  obtain ⟨i0, hi, hz0, hz1, hz2⟩ := info_parts infoS
  refine wpList_append_own_at w hgd s x 24 ho lo 33 i0 (.slice none 0 0) 1 24 Try.underlying24 hi hz0 hz1 hz2 rfl (by decide) _ n _ hs hss.own ⟨g, 0, none⟩ 1 1 [.slice dA dn dc] hx rfl ?_ ?_ ?_ (by omega) hbase ?_
  · intro j v hj
    match j, hj with
    | 0, hj => simp at hj; subst hj; simpa [Addr.add] using hcell
    | j + 1, hj => simp at hj
  · intro v hv; simp at hv; subst hv; rfl
  · unfold maxLen; omega
  · intro v' w' hown' hg _ hat
    have hform : ∃ A' c', v' = .slice A' (n + 1) c' := by
      rcases hown'.2 with ⟨rfl, h0⟩ | ⟨g', cap, cur, rfl, _⟩
      · omega
      · exact ⟨_, _, rfl⟩
    obtain ⟨A', c', rfl⟩ := hform
    have keep : ∀ {eA : Option Addr} {en ec : Nat} {zs : List Int}, Pm w lo eA en ec zs → (∀ b off, eA = some ⟨b, off, none⟩ → 0 < en → (Value.slice A n c).ownBlock ≠ some b) → Pm w' lo eA en ec zs := fun hp ha => ⟨hp.1, hp.2.1, fun h0 => by
      obtain ⟨b, off, e, h1, h2, hc⟩ := hp.2.2 h0
      exact ⟨b, off, e, h1, Nat.lt_of_lt_of_le h2 hg.size, fun j hj => (World.cell?_of_block (a := ⟨b, off + j, none⟩) (hg.block b h2 fun e2 => ha b off e h0 e2.symm)).trans (hc j hj)⟩⟩
    have newb : ∀ {eA : Option Addr} {en ec : Nat} {zs : List Int}, Pm w lo eA en ec zs → (∀ b off, eA = some ⟨b, off, none⟩ → 0 < en → (Value.slice A n c).ownBlock ≠ some b) → ∀ b off, eA = some ⟨b, off, none⟩ → 0 < en → (Value.slice A' (n + 1) c').ownBlock ≠ some b := fun hp ha b off e h0 e2 => by
      rcases hat with e3 | e3
      · exact ha b off e h0 (e3.symm.trans e2)
      · obtain ⟨b2, off2, e4, _, h2, _⟩ := hp.2.2 h0
        rw [e] at e4; injection e4 with e4; injection e4 with e4
        rw [e3] at e2; injection e2 with e2; omega
    refine h A' c' w' ⟨?_, by simp [hss.lv], by simp [hss.lx], fun i hi' => ?_, fun i hi' => ?_⟩ hg
    · rw [List.map_append]; exact hown'
    · by_cases e : i < n
      · rw [getD_app _ _ _ _ (by rw [hss.lv]; exact e), getD_app _ _ _ _ (by rw [hss.lx]; exact e)]
        exact keep (hss.row i e) (hss.apt i e)
      · obtain rfl : i = n := by omega
        rw [getD_snoc _ _ _ _ hss.lv.symm, getD_snoc _ _ _ _ hss.lx.symm]
        exact keep hys hap
    · by_cases e : i < n
      · rw [getD_app _ _ _ _ (by rw [hss.lv]; exact e)]
        exact newb (hss.row i e) (hss.apt i e)
      · obtain rfl : i = n := by omega
        rw [getD_snoc _ _ _ _ hss.lv.symm]
        exact newb hys hap
end

set_option maxHeartbeats 8000000 in
set_option maxRecDepth 100000 in
/-- drawSubgroup. -/
theorem drawSub (g : Nat) (w : World) (hs : Src w g) :
    Calls Try.prog 53 #[.pointer (some ⟨g, 0, none⟩)] w fun e w' => ∃ (z : Int) (A : Option Addr) (m c : Nat) (vs : List SV) (xss : List (List Int)) (B : Option Addr) (k d : Nat) (us : List SV) (yss : List (List Int)), e = .returned (.tuple #[.int .i64 z, .slice A m c, .slice B k d]) ∧ B64 z ∧ RX w' w.heap.size A m vs xss ∧ m ≤ 9 ∧ (∀ i, i < m → (vs.getD i sd0).2.1 ≤ 21) ∧ RX w' w.heap.size B k us yss ∧ k ≤ 9 ∧ (∀ i, i < k → (us.getD i sd0).2.1 ≤ 21) ∧ Src w' g ∧ w.grownBy w' (some g) := by
  have Hs := Lib.hid hs
  have hgw := hs.lt
  clear hs
  go_enter Try.func53, Try.ntmps53
  go_wp2_with fail
  refine (drawGroupX g w Hs.out).mono ?_
  rintro e w1 ⟨z, A1, m, c, vs, xss, rfl, hB, rx, hm, hln, s1, g1⟩
  have HB := Lib.hid hB
  have Rx1 := Lib.hid rx
  have Ln := Lib.hid hln
  have Sr1 := Lib.hid s1
  have G1 := Lib.hid g1
  have hlx : Hid (xss.length = m) := Lib.hid rx.rr.lx
  have Ln2 : Hid (∀ i, i < m → (vs.getD i sd0).2.1 ≤ 1048576) := Lib.hid fun i hi => by have := hln i hi; omega
  clear hB rx hln s1 g1
  go_wp2_with fail
  refine (specGS z A1 m c vs xss w1 Rx1.out.rr (by omega) Ln2 HB.out).mono ?_
  rintro e w2 ⟨rfl, b2⟩
  have Sr2 := Lib.hid (Sr1.out.below b2 Sr1.out.lt)
  have Rx2 := Lib.hid (Rx1.out.up b2)
  have G2 : Hid (w.grownBy w2 (some g)) := Lib.hid (grown_below2 G1.out b2)
  clear b2 Sr1 Rx1 G1
  rcases hq : gB z xss with _ | _
  · clear hq
    go_wp2_with fail
    go_ret3
    exact ⟨_, _, _, _, vs, xss, _, _, _, vs, xss, rfl, HB.out, Rx2.out, hm, Ln.out, Rx2.out, hm, Ln.out, Sr2.out, G2.out⟩
  · obtain ⟨N, rfl, hN1, hN2, hg8, hpm, hok⟩ := gB_pm hq
    have Ok : Hid (∀ g ∈ xss, Pn N g) := Lib.hid hok
    have I0 : Hid (Pn N (idL N)) := Lib.hid (pn_id hN1 hN2)
    clear hq hpm hok
    go_wp2_with fail
    refine (srcBelow g _ 3 _ (Sr2.out.below ((Below.refl w2.heap.size w2).alloc (Nat.le_refl _) _) Sr2.out.lt) rfl (by omega) (by omega)).mono ?_
    rintro e w3 ⟨r3, hr3, rfl, s3, g3⟩
    have Sr3 := Lib.hid s3
    have Rg3 : Hid (RG w3 w2.heap.size (some ⟨w2.heap.size, 0, none⟩) 0 0 [] []) := Lib.hid ((RG.lit w2 w2.heap.size (Nat.le_refl _)).gro g3 (by have := G2.out.size; omega))
    have Hgl : Hid (g < w2.heap.size ∧ w.heap.size ≤ w2.heap.size) := Lib.hid (by have := G2.out.size; omega)
    have Rx3 := Lib.hid (((⟨Rx2.out, Rx2.out.rr, Nat.le_refl _⟩ : RXB w2 w.heap.size w2.heap.size A1 m vs xss).up ((Below.refl w2.heap.size w2).alloc (Nat.le_refl _) (.cells #[] 33))).gro g3 hgw)
    have G3 : Hid (w.grownBy w3 (some g)) := Lib.hid (grown_trans' (grown_alloc2 G2.out _) g3)
    clear s3 g3 Rx2 Sr2
    go_wp2_with fail
    go_loopg [7, 8] 3 (fun gg v i wr => ∃ (k n' cc : Nat) (A' : Option Addr) (us : List SV) (ys : List (List Int)), k ≤ 3 ∧ k ≤ gg ∧ n' + k ≤ 3 ∧ i = .int .i64 (k : Nat) ∧ v = .slice A' n' cc ∧ RG wr w2.heap.size A' n' cc us ys ∧ (∀ i, i < n' → (us.getD i sd0).2.1 ≤ 21) ∧ Src wr g ∧ RXB wr w.heap.size w2.heap.size A1 m vs xss ∧ w.grownBy wr (some g))
    case atStart => exact ⟨r3, 0, _, _, _, _, by omega, by omega, by omega, rfl, rfl, Rg3.out, fun i hi => absurd hi (by omega), Sr3.out, Rx3.out, G3.out⟩
    case round =>
      clear Rg3 Sr3 Rx3 G3 G2
      obtain ⟨k, n', cc, A', us, ys, hk, hkg, hnk, rfl, rfl, hrg, hll, hsr, hrx, hgr⟩ := hrel
      have Rg := Lib.hid hrg
      have Ll := Lib.hid hll
      have Sr := Lib.hid hsr
      have Rx := Lib.hid hrx
      have Gr := Lib.hid hgr
      have hwr := hgr.size
      have Hwo : Hid (w2.heap.size ≤ wr.heap.size) := Lib.hid hrx.hB
      clear hrg hll hsr hrx hgr
      by_cases hk1 : 0 < k
      · have d2 : decide (0 < k) = true := decide_eq_true hk1
        have d3 : decide ((0 : Int) < (k : Int)) = true := by simp; omega
        have wk : IntKind.i64.wrap ((k : Int) - 1) = ((k - 1 : Nat) : Int) := by rw [IntKind.wrap_i64]; omega
        have Wk := Lib.hid wk
        have Hk1 := Lib.hid hk1
        clear hk1 wk
        go_wp2_with fail
        refine (specIdent N wr (by omega)).mono ?_
        rintro e w4 ⟨A4, c4, rfl, s4, b4⟩
        have Sl4 : Hid (Slc w4 wr.heap.size A4 N c4 (idL N)) := Lib.hid s4
        have Sr4 := Lib.hid (Sr.out.below b4 Sr.out.lt)
        have Rx4 := Lib.hid (Rx.out.up b4)
        have Rg4 := Lib.hid (Rg.out.up b4)
        have G4 : Hid (w.grownBy w4 (some g)) := Lib.hid (grown_below2 Gr.out b4)
        have W4 : Hid (wr.heap.size ≤ w4.heap.size) := Lib.hid b4.size
        clear s4 b4
        go_wp2_with fail
        refine (srcBelow g _ 4 w4 Sr4.out rfl (by omega) (by omega)).mono ?_
        rintro e w5 ⟨r5, hr5, rfl, s5, g5⟩
        have hgr0 : g < wr.heap.size := Sr.out.lt
        have Sr5 := Lib.hid s5
        have Sl5 : Hid (Slc w5 wr.heap.size A4 N c4 (idL N)) := Lib.hid (Sl4.out.kept g5 (.inr fun e => by have := (Sl4.out.lt_ g e).1; omega))
        have Rx5 := Lib.hid (Rx4.out.gro g5 hgw)
        have Rg5 := Lib.hid (Rg4.out.gro g5 Hgl.out.1)
        have G5 : Hid (w.grownBy w5 (some g)) := Lib.hid (grown_trans' G4.out g5)
        have W5 : Hid (wr.heap.size ≤ w5.heap.size) := Lib.hid (Nat.le_trans W4.out g5.size)
        have wa : IntKind.i64.wrap (1 + (r5 : Int)) = ((r5 + 1 : Nat) : Int) := by rw [IntKind.wrap_i64]; omega
        have OwnLt : Hid (∀ q, (Value.slice A' n' cc).ownBlock = some q → q < wr.heap.size) := Lib.hid fun q e => (World.ownsRow.lt Rg.out.own q e).2
        clear s5 g5 Sl4 Sr4 Rx4 Rg4 G4 W4 Sr Rx Rg Gr
        obtain ⟨wo, rfl⟩ : ∃ wo, wo = wr := ⟨_, rfl⟩
        go_wp2_with fail
        go_loopg [9, 10] 5 (fun gg v i wr => ∃ (j c5 : Nat) (A5 : Option Addr) (p : List Int), j ≤ 5 ∧ j ≤ gg ∧ i = .int .i64 (j : Nat) ∧ v = .slice A5 N c5 ∧ Slc wr wo.heap.size A5 N c5 p ∧ Pn N p ∧ Src wr g ∧ RXB wr w.heap.size w2.heap.size A1 m vs xss ∧ RG wr w2.heap.size A' n' cc us ys ∧ wo.heap.size ≤ wr.heap.size ∧ w.grownBy wr (some g))
        case atStart => exact ⟨r5 + 1, _, _, _, by omega, by omega, by go_num, rfl, Sl5.out, I0.out, Sr5.out, Rx5.out, Rg5.out, W5.out, G5.out⟩
        case round =>
          clear Sl5 Sr5 Rx5 Rg5 W5 G5
          obtain ⟨j, c5, A5, p, hj, hjg, rfl, rfl, hsl, hpp, hsr, hrx, hrg, hwo, hgr⟩ := hrel
          have Sl := Lib.hid hsl
          have Pp := Lib.hid hpp
          have Sr := Lib.hid hsr
          have Rx := Lib.hid hrx
          have Rg := Lib.hid hrg
          have Gr := Lib.hid hgr
          have Wo := Lib.hid hwo
          have hwr := hgr.size
          clear hsl hpp hsr hrx hrg hgr hwo
          by_cases hj0 : 0 < j ∧ 0 < m
          · obtain ⟨hj1, hm1⟩ := hj0
            have d1 : decide (0 < j) = true := decide_eq_true hj1
            have d2 : decide (0 < m) = true := decide_eq_true hm1
            have d3 : decide ((0 : Int) < (j : Int)) = true := by simp; omega
            have d4 : decide ((0 : Int) < (m : Int)) = true := by simp; omega
            have wj : IntKind.i64.wrap ((j : Int) - 1) = ((j - 1 : Nat) : Int) := by rw [IntKind.wrap_i64]; omega
            have Hj1 := Lib.hid hj1
            clear hj1
            go_wp2_with fail
            refine (srcBelow g _ m wr Sr.out rfl (by omega) (by omega)).mono ?_
            rintro e w6 ⟨r6, hr6, rfl, s6, g6⟩
            have Sr6 := Lib.hid s6
            have Sl6 : Hid (Slc w6 wo.heap.size A5 N c5 p) := Lib.hid (Sl.out.kept g6 (.inr fun e => by have := (Sl.out.lt_ g e).1; omega))
            have Rx6 := Lib.hid (Rx.out.gro g6 hgw)
            have Rg6 := Lib.hid (Rg.out.gro g6 Hgl.out.1)
            have W6 : Hid (wo.heap.size ≤ w6.heap.size) := Lib.hid (Nat.le_trans Wo.out g6.size)
            have G6 : Hid (w.grownBy w6 (some g)) := Lib.hid (grown_trans' Gr.out g6)
            clear s6 g6
            obtain ⟨b, off, A7, l, c7, y, eA, hb, hv, ey, x1, ri, ly, hl5⟩ := Rx6.out.rx.rr.at_ hr6
            subst eA
            have hyP := Ok.out y (by rw [← ey]; exact getD_memL (by rw [hlx.out]; exact hr6))
            obtain rfl : l = N := by have := hyP.2; omega
            have Yp : Hid (Pn l y) := Lib.hid hyP
            have Ri := Lib.hid ri
            have q0 : (0 : Int) ≤ r6 := by omega
            have q1 : (r6 : Int) < m := by omega
            clear hb hv ey ri ly hl5 hyP
            go_wp2_with fail
            refine (specComp A5 A7 c5 c7 l p y w6 Sl6.out.ri_ Ri.out (Lib.hid Pp.out.2) (Lib.hid Yp.out.2) (Lib.hid Pp.out.1) hN2).mono ?_
            rintro e w7 ⟨A8, c8, rfl, s7, b7⟩
            have Sl7 : Hid (Slc w7 wo.heap.size A8 l c8 (compL p y)) := Lib.hid (s7.mono W6.out)
            have Sr7 := Lib.hid (Sr6.out.below b7 Sr6.out.lt)
            have Rx7 := Lib.hid (Rx6.out.up b7)
            have Rg7 := Lib.hid (Rg6.out.up b7)
            have W7 : Hid (wo.heap.size ≤ w7.heap.size) := Lib.hid (Nat.le_trans W6.out b7.size)
            have G7 : Hid (w.grownBy w7 (some g)) := Lib.hid (grown_below2 G6.out b7)
            have P7 : Hid (Pn l (compL p y)) := Lib.hid (Pp.out.comp Yp.out)
            clear s7 b7
            go_wp2_with fail
            go_roundg (j - 1)
            case rel => exact ⟨j - 1, _, _, _, by omega, by omega, by go_num, rfl, Sl7.out, P7.out, Sr7.out, Rx7.out, Rg7.out, W7.out, G7.out⟩
            case measure => have := Hj1.out; omega
          · have Dn : (decide (0 < j) = false ∧ decide ((0 : Int) < (j : Int)) = false) ∨ ((decide (0 < j) = true ∧ decide ((0 : Int) < (j : Int)) = true) ∧ decide (0 < m) = false ∧ decide ((0 : Int) < (m : Int)) = false) := by
              by_cases h : 0 < j
              · exact .inr ⟨⟨decide_eq_true h, by simp; omega⟩, decide_eq_false (by omega), by simp; omega⟩
              · exact .inl ⟨decide_eq_false h, by simp; omega⟩
            clear hj0
            rcases Dn with ⟨d1, d2⟩ | ⟨⟨d1, d2⟩, d3, d4⟩
            all_goals
              go_wp2_with fail
              refine (srcOne g _ 3 wr Sr.out rfl (by omega) (by omega)).mono ?_
              rintro e w6 ⟨bb, rfl, s6, g6⟩
              have Sr6 := Lib.hid s6
              have Sl6 : Hid (Slc w6 wo.heap.size A5 N c5 p) := Lib.hid (Sl.out.kept g6 (.inr fun e => by have := (Sl.out.lt_ g e).1; omega))
              have Rx6 := Lib.hid (Rx.out.gro g6 hgw)
              have Rg6 := Lib.hid (Rg.out.gro g6 Hgl.out.1)
              have W6 : Hid (wo.heap.size ≤ w6.heap.size) := Lib.hid (Nat.le_trans Wo.out g6.size)
              have G6 : Hid (w.grownBy w6 (some g)) := Lib.hid (grown_trans' Gr.out g6)
              clear s6 g6 Sr Sl Rx Rg Wo Gr
              rcases bb with _ | _
              · obtain ⟨w7, rfl⟩ : ∃ w7, w7 = w6 := ⟨_, rfl⟩
                have Sl7 := Sl6
                have Sr7 := Sr6
                have Rx7 := Rx6
                have Rg7 := Rg6
                have W7 := W6
                have G7 := G6
                clear Sl6 Sr6 Rx6 Rg6 W6 G6
                go_wp2_with fail
                refine (srcOne g _ 12 w7 Sr7.out rfl (by omega) (by omega)).mono ?_
                rintro e w8 ⟨b8, rfl, s8, g8⟩
                have Sr8 := Lib.hid s8
                have Rx8 := Lib.hid (Rx7.out.gro g8 hgw)
                have Rg8 := Lib.hid (Rg7.out.gro g8 Hgl.out.1)
                have W8 : Hid (wo.heap.size ≤ w8.heap.size) := Lib.hid (Nat.le_trans W7.out g8.size)
                have G8 : Hid (w.grownBy w8 (some g)) := Lib.hid (grown_trans' G7.out g8)
                have Sl8 := Lib.hid (Sl7.out.kept g8 (.inr fun e => by have := (Sl7.out.lt_ g e).1; omega))
                have hz8 := G8.out.size
                clear s8 g8 Sr7 Rx7 Rg7 W7 G7 Sl7
                rcases b8 with _ | _
                · obtain ⟨w9, rfl⟩ : ∃ w9, w9 = w8 := ⟨_, rfl⟩
                  have Pm9 := Lib.hid (Pm.of_slc Sl8.out)
                  have hlen9 : N ≤ 21 := by omega
                  have Sr9 := Sr8
                  have Rx9 := Rx8
                  have Rg9 := Rg8
                  have W9 := W8
                  have G9 := G8
                  have hz9 := hz8
                  have hzo : w2.heap.size ≤ wo.heap.size := Hwo.out
                  have Hap : Hid (∀ b off, A5 = some ⟨b, off, none⟩ → 0 < N → (Value.slice A' n' cc).ownBlock ≠ some b) := Lib.hid fun b off e h0 e2 => by
                    obtain ⟨b2, off2, e3, h1, _⟩ := Pm9.out.2.2 h0
                    rw [e] at e3; injection e3 with e3; injection e3 with e3
                    have := OwnLt.out b e2
                    omega
                  go_wp2_with (at_builtin; go_must (refine wpList_app2G (lo := w2.heap.size) rfl _ _ rfl rfl ((Rg9.out.up ((Below.refl _ _).alloc (Nat.le_refl _) _))) w9.heap.size A5 N c5 _ rfl (by rw [World.cell?_alloc_at _ _ _ _ rfl]; rfl) ((Pm9.out.mono hzo).up ((Below.refl _ _).alloc (Nat.le_refl _) _)) Hap.out (by omega) (by have := Rx9.out.hB; simp; omega) ?_); intro A10 c10 w10 o10 g10)
                  have Own9 : ∀ q, (Value.slice A' n' cc).ownBlock = some q → w2.heap.size ≤ q := fun q e => (World.ownsRow.lt Rg9.out.own q e).1
                  have Rg10 := Lib.hid o10
                  have Al : Below w9.heap.size w9 (w9.alloc (.cells #[.slice A5 N c5] 33)) := (Below.refl _ _).alloc (Nat.le_refl _) _
                  have Sr10 : Hid (Src w10 g) := Lib.hid ((Sr9.out.below Al Sr9.out.lt).gro2 g10 fun r e => by have := Own9 r e; have := Hgl.out; omega)
                  have Rx10 : Hid (RXB w10 w.heap.size w2.heap.size A1 m vs xss) := Lib.hid ((Rx9.out.up Al).app g10 fun r e => Own9 r e)
                  have G10 : Hid (w.grownBy w10 (some g)) := Lib.hid (grown_new2 (grown_below2 G9.out Al) g10 fun q e => by have := Own9 q e; have := Hgl.out; omega)
                  have Ll10 : Hid (∀ i, i < n' + 1 → ((us ++ [(A5, N, c5)]).getD i sd0).2.1 ≤ 21) := Lib.hid fun i hi => by
                    by_cases e : i < n'
                    · rw [getD_app _ _ _ _ (by rw [Rg9.out.lv]; exact e)]; exact Ll.out i e
                    · obtain rfl : i = n' := by omega
                      rw [getD_snoc _ _ _ _ Rg9.out.lv.symm]; exact hlen9
                  clear o10 g10 Own9 Al
                  have wk := Wk.out
                  go_wp2_with fail
                  go_roundg (k - 1)
                  case rel => exact ⟨k - 1, n' + 1, _, _, _, _, by omega, by omega, by have := Hk1.out; omega, by have := Hk1.out; go_num, rfl, Rg10.out, Ll10.out, Sr10.out, Rx10.out, G10.out⟩
                  case measure => have := Hk1.out; omega
                · go_wp2_with fail
                  refine (drawAnyK g N _ w8 Sr8.out rfl hN1 hN2).mono ?_
                  rintro e w9 ⟨A9, n9, c9, p9, rfl, pm9, hlen9, s9, g9⟩
                  have Pm9 : Hid (Pm w9 wo.heap.size A9 n9 c9 p9) := Lib.hid (pm9.mono W8.out)
                  have Sr9 := Lib.hid s9
                  have Rx9 := Lib.hid (Rx8.out.gro g9 hgw)
                  have Rg9 := Lib.hid (Rg8.out.gro g9 Hgl.out.1)
                  have W9 : Hid (wo.heap.size ≤ w9.heap.size) := Lib.hid (Nat.le_trans W8.out g9.size)
                  have G9 : Hid (w.grownBy w9 (some g)) := Lib.hid (grown_trans' G8.out g9)
                  have hz9 := G9.out.size
                  clear pm9 s9 g9
                  have hzo : w2.heap.size ≤ wo.heap.size := Hwo.out
                  have Hap : Hid (∀ b off, A9 = some ⟨b, off, none⟩ → 0 < n9 → (Value.slice A' n' cc).ownBlock ≠ some b) := Lib.hid fun b off e h0 e2 => by
                    obtain ⟨b2, off2, e3, h1, _⟩ := Pm9.out.2.2 h0
                    rw [e] at e3; injection e3 with e3; injection e3 with e3
                    have := OwnLt.out b e2
                    omega
                  go_wp2_with (at_builtin; go_must (refine wpList_app2G (lo := w2.heap.size) rfl _ _ rfl rfl ((Rg9.out.up ((Below.refl _ _).alloc (Nat.le_refl _) _))) w9.heap.size A9 n9 c9 _ rfl (by rw [World.cell?_alloc_at _ _ _ _ rfl]; rfl) ((Pm9.out.mono hzo).up ((Below.refl _ _).alloc (Nat.le_refl _) _)) Hap.out (by omega) (by have := Rx9.out.hB; simp; omega) ?_); intro A10 c10 w10 o10 g10)
                  have Own9 : ∀ q, (Value.slice A' n' cc).ownBlock = some q → w2.heap.size ≤ q := fun q e => (World.ownsRow.lt Rg9.out.own q e).1
                  have Rg10 := Lib.hid o10
                  have Al : Below w9.heap.size w9 (w9.alloc (.cells #[.slice A9 n9 c9] 33)) := (Below.refl _ _).alloc (Nat.le_refl _) _
                  have Sr10 : Hid (Src w10 g) := Lib.hid ((Sr9.out.below Al Sr9.out.lt).gro2 g10 fun r e => by have := Own9 r e; have := Hgl.out; omega)
                  have Rx10 : Hid (RXB w10 w.heap.size w2.heap.size A1 m vs xss) := Lib.hid ((Rx9.out.up Al).app g10 fun r e => Own9 r e)
                  have G10 : Hid (w.grownBy w10 (some g)) := Lib.hid (grown_new2 (grown_below2 G9.out Al) g10 fun q e => by have := Own9 q e; have := Hgl.out; omega)
                  have Ll10 : Hid (∀ i, i < n' + 1 → ((us ++ [(A9, n9, c9)]).getD i sd0).2.1 ≤ 21) := Lib.hid fun i hi => by
                    by_cases e : i < n'
                    · rw [getD_app _ _ _ _ (by rw [Rg9.out.lv]; exact e)]; exact Ll.out i e
                    · obtain rfl : i = n' := by omega
                      rw [getD_snoc _ _ _ _ Rg9.out.lv.symm]; exact hlen9
                  clear o10 g10 Own9 Al
                  have wk := Wk.out
                  go_wp2_with fail
                  go_roundg (k - 1)
                  case rel => exact ⟨k - 1, n' + 1, _, _, _, _, by omega, by omega, by have := Hk1.out; omega, by have := Hk1.out; go_num, rfl, Rg10.out, Ll10.out, Sr10.out, Rx10.out, G10.out⟩
                  case measure => have := Hk1.out; omega
              · go_wp2_with fail
                refine (specComp A5 A5 c5 c5 N p p w6 Sl6.out.ri_ Sl6.out.ri_ (Lib.hid Pp.out.2) (Lib.hid Pp.out.2) (Lib.hid Pp.out.1) hN2).mono ?_
                rintro e w7 ⟨A8, c8, rfl, s7, b7⟩
                have Sl7 : Hid (Slc w7 wo.heap.size A8 N c8 (compL p p)) := Lib.hid (s7.mono W6.out)
                have Sr7 := Lib.hid (Sr6.out.below b7 Sr6.out.lt)
                have Rx7 := Lib.hid (Rx6.out.up b7)
                have Rg7 := Lib.hid (Rg6.out.up b7)
                have W7 : Hid (wo.heap.size ≤ w7.heap.size) := Lib.hid (Nat.le_trans W6.out b7.size)
                have G7 : Hid (w.grownBy w7 (some g)) := Lib.hid (grown_below2 G6.out b7)
                clear s7 b7 Sl6 Sr6 Rx6 Rg6 W6 G6
                go_wp2_with fail
                refine (srcOne g _ 12 w7 Sr7.out rfl (by omega) (by omega)).mono ?_
                rintro e w8 ⟨b8, rfl, s8, g8⟩
                have Sr8 := Lib.hid s8
                have Rx8 := Lib.hid (Rx7.out.gro g8 hgw)
                have Rg8 := Lib.hid (Rg7.out.gro g8 Hgl.out.1)
                have W8 : Hid (wo.heap.size ≤ w8.heap.size) := Lib.hid (Nat.le_trans W7.out g8.size)
                have G8 : Hid (w.grownBy w8 (some g)) := Lib.hid (grown_trans' G7.out g8)
                have Sl8 := Lib.hid (Sl7.out.kept g8 (.inr fun e => by have := (Sl7.out.lt_ g e).1; omega))
                have hz8 := G8.out.size
                clear s8 g8 Sr7 Rx7 Rg7 W7 G7 Sl7
                rcases b8 with _ | _
                · obtain ⟨w9, rfl⟩ : ∃ w9, w9 = w8 := ⟨_, rfl⟩
                  have Pm9 := Lib.hid (Pm.of_slc Sl8.out)
                  have hlen9 : N ≤ 21 := by omega
                  have Sr9 := Sr8
                  have Rx9 := Rx8
                  have Rg9 := Rg8
                  have W9 := W8
                  have G9 := G8
                  have hz9 := hz8
                  have hzo : w2.heap.size ≤ wo.heap.size := Hwo.out
                  have Hap : Hid (∀ b off, A8 = some ⟨b, off, none⟩ → 0 < N → (Value.slice A' n' cc).ownBlock ≠ some b) := Lib.hid fun b off e h0 e2 => by
                    obtain ⟨b2, off2, e3, h1, _⟩ := Pm9.out.2.2 h0
                    rw [e] at e3; injection e3 with e3; injection e3 with e3
                    have := OwnLt.out b e2
                    omega
                  go_wp2_with (at_builtin; go_must (refine wpList_app2G (lo := w2.heap.size) rfl _ _ rfl rfl ((Rg9.out.up ((Below.refl _ _).alloc (Nat.le_refl _) _))) w9.heap.size A8 N c8 _ rfl (by rw [World.cell?_alloc_at _ _ _ _ rfl]; rfl) ((Pm9.out.mono hzo).up ((Below.refl _ _).alloc (Nat.le_refl _) _)) Hap.out (by omega) (by have := Rx9.out.hB; simp; omega) ?_); intro A10 c10 w10 o10 g10)
                  have Own9 : ∀ q, (Value.slice A' n' cc).ownBlock = some q → w2.heap.size ≤ q := fun q e => (World.ownsRow.lt Rg9.out.own q e).1
                  have Rg10 := Lib.hid o10
                  have Al : Below w9.heap.size w9 (w9.alloc (.cells #[.slice A8 N c8] 33)) := (Below.refl _ _).alloc (Nat.le_refl _) _
                  have Sr10 : Hid (Src w10 g) := Lib.hid ((Sr9.out.below Al Sr9.out.lt).gro2 g10 fun r e => by have := Own9 r e; have := Hgl.out; omega)
                  have Rx10 : Hid (RXB w10 w.heap.size w2.heap.size A1 m vs xss) := Lib.hid ((Rx9.out.up Al).app g10 fun r e => Own9 r e)
                  have G10 : Hid (w.grownBy w10 (some g)) := Lib.hid (grown_new2 (grown_below2 G9.out Al) g10 fun q e => by have := Own9 q e; have := Hgl.out; omega)
                  have Ll10 : Hid (∀ i, i < n' + 1 → ((us ++ [(A8, N, c8)]).getD i sd0).2.1 ≤ 21) := Lib.hid fun i hi => by
                    by_cases e : i < n'
                    · rw [getD_app _ _ _ _ (by rw [Rg9.out.lv]; exact e)]; exact Ll.out i e
                    · obtain rfl : i = n' := by omega
                      rw [getD_snoc _ _ _ _ Rg9.out.lv.symm]; exact hlen9
                  clear o10 g10 Own9 Al
                  have wk := Wk.out
                  go_wp2_with fail
                  go_roundg (k - 1)
                  case rel => exact ⟨k - 1, n' + 1, _, _, _, _, by omega, by omega, by have := Hk1.out; omega, by have := Hk1.out; go_num, rfl, Rg10.out, Ll10.out, Sr10.out, Rx10.out, G10.out⟩
                  case measure => have := Hk1.out; omega
                · go_wp2_with fail
                  refine (drawAnyK g N _ w8 Sr8.out rfl hN1 hN2).mono ?_
                  rintro e w9 ⟨A9, n9, c9, p9, rfl, pm9, hlen9, s9, g9⟩
                  have Pm9 : Hid (Pm w9 wo.heap.size A9 n9 c9 p9) := Lib.hid (pm9.mono W8.out)
                  have Sr9 := Lib.hid s9
                  have Rx9 := Lib.hid (Rx8.out.gro g9 hgw)
                  have Rg9 := Lib.hid (Rg8.out.gro g9 Hgl.out.1)
                  have W9 : Hid (wo.heap.size ≤ w9.heap.size) := Lib.hid (Nat.le_trans W8.out g9.size)
                  have G9 : Hid (w.grownBy w9 (some g)) := Lib.hid (grown_trans' G8.out g9)
                  have hz9 := G9.out.size
                  clear pm9 s9 g9
                  have hzo : w2.heap.size ≤ wo.heap.size := Hwo.out
                  have Hap : Hid (∀ b off, A9 = some ⟨b, off, none⟩ → 0 < n9 → (Value.slice A' n' cc).ownBlock ≠ some b) := Lib.hid fun b off e h0 e2 => by
                    obtain ⟨b2, off2, e3, h1, _⟩ := Pm9.out.2.2 h0
                    rw [e] at e3; injection e3 with e3; injection e3 with e3
                    have := OwnLt.out b e2
                    omega
                  go_wp2_with (at_builtin; go_must (refine wpList_app2G (lo := w2.heap.size) rfl _ _ rfl rfl ((Rg9.out.up ((Below.refl _ _).alloc (Nat.le_refl _) _))) w9.heap.size A9 n9 c9 _ rfl (by rw [World.cell?_alloc_at _ _ _ _ rfl]; rfl) ((Pm9.out.mono hzo).up ((Below.refl _ _).alloc (Nat.le_refl _) _)) Hap.out (by omega) (by have := Rx9.out.hB; simp; omega) ?_); intro A10 c10 w10 o10 g10)
                  have Own9 : ∀ q, (Value.slice A' n' cc).ownBlock = some q → w2.heap.size ≤ q := fun q e => (World.ownsRow.lt Rg9.out.own q e).1
                  have Rg10 := Lib.hid o10
                  have Al : Below w9.heap.size w9 (w9.alloc (.cells #[.slice A9 n9 c9] 33)) := (Below.refl _ _).alloc (Nat.le_refl _) _
                  have Sr10 : Hid (Src w10 g) := Lib.hid ((Sr9.out.below Al Sr9.out.lt).gro2 g10 fun r e => by have := Own9 r e; have := Hgl.out; omega)
                  have Rx10 : Hid (RXB w10 w.heap.size w2.heap.size A1 m vs xss) := Lib.hid ((Rx9.out.up Al).app g10 fun r e => Own9 r e)
                  have G10 : Hid (w.grownBy w10 (some g)) := Lib.hid (grown_new2 (grown_below2 G9.out Al) g10 fun q e => by have := Own9 q e; have := Hgl.out; omega)
                  have Ll10 : Hid (∀ i, i < n' + 1 → ((us ++ [(A9, n9, c9)]).getD i sd0).2.1 ≤ 21) := Lib.hid fun i hi => by
                    by_cases e : i < n'
                    · rw [getD_app _ _ _ _ (by rw [Rg9.out.lv]; exact e)]; exact Ll.out i e
                    · obtain rfl : i = n' := by omega
                      rw [getD_snoc _ _ _ _ Rg9.out.lv.symm]; exact hlen9
                  clear o10 g10 Own9 Al
                  have wk := Wk.out
                  go_wp2_with fail
                  go_roundg (k - 1)
                  case rel => exact ⟨k - 1, n' + 1, _, _, _, _, by omega, by omega, by have := Hk1.out; omega, by have := Hk1.out; go_num, rfl, Rg10.out, Ll10.out, Sr10.out, Rx10.out, G10.out⟩
                  case measure => have := Hk1.out; omega
      · obtain rfl : k = 0 := by omega
        have Rx9 := Lib.hid (Rg.out.rx.lower Hgl.out.2)
        have hn9 : n' ≤ 9 := by omega
        have d2 : decide (0 < 0) = false := rfl
        go_wp2_with fail
        go_ret3
        exact ⟨_, _, _, _, us, ys, _, _, _, vs, xss, rfl, HB.out, Rx9.out, hn9, Ll.out, Rx.out.rx, hm, Ln.out, Sr.out, Gr.out⟩
end Go.Proofs.Ytcjcmhoalomjfaa

/- The walk of the law FnMembership: it returns true at every input, and writes nothing that was there. No condition but the program's own contracts. -/
namespace Go.Proofs.Ytcjcmhoalomjfaa
open Go.RowKit

set_option maxHeartbeats 400000 in
theorem bigF4 (A : Option Addr) (len cap : Nat) (w : World) (hl : len ≤ 4096) : Calls Try.prog 15 #[.slice A len cap] w fun e w' => e = .returned (.bool false) ∧ w = w' := by
  have d : decide ((4096 : Int) < (len : Int)) = false := by simp; omega
  go_enter Try.func15, Try.ntmps15
  go_wp2
  go_ret
  exact ⟨rfl, rfl⟩
set_option maxHeartbeats 400000 in
theorem bigT4 (A : Option Addr) (len cap : Nat) (w : World) (hl : 4096 < len) : Calls Try.prog 15 #[.slice A len cap] w fun e w' => e = .returned (.bool true) ∧ w = w' := by
  have d : decide ((4096 : Int) < (len : Int)) = true := by simp; omega
  go_enter Try.func15, Try.ntmps15
  go_wp2
  go_ret
  exact ⟨rfl, rfl⟩
theorem below_gro4 {w0 w w' : World} {g : Nat} (h : Below w0.heap.size w0 w) (hg : w.grownBy w' (some g)) (hB : w0.heap.size ≤ g) : Below w0.heap.size w0 w' := h.grown hg h.size (fun k e => by injection e with e; omega)
theorem likeI_eq (A B : Option Addr) (c d n m : Nat) (xs : List Int) (w : World) (hx : RI w w.heap.size A xs) (hy : RI w w.heap.size B xs) (lx : Hid (xs.length = n)) (ly : Hid (xs.length = m)) (hn : n ≤ 2097152) :
    Calls Try.prog 26 #[.slice A n c, .slice B m d] w fun e w' => e = .returned (.bool true) ∧ Below w.heap.size w w' :=
  (quiet_below (likeI_any A B c d n m _ _ w hx hy lx ly hn (by rw [← ly.out, lx.out]; exact hn))).mono fun e w' ⟨he, hb⟩ => ⟨he.trans (ret_bool (by simp)), hb⟩


/-! ### what the answers tell of each other -/
section
variable {N k np : Nat} {gs : List (List Int)} {p m : List Int}
theorem take_at {t : Nat} (h : t < (p.take k).length) : (p.take k).getD t 0 = p.getD t 0 := by
  rw [List.length_take] at h
  rw [List.getD_eq_getElem?_getD, List.getElem?_take, if_pos (by omega), ← List.getD_eq_getElem?_getD]
theorem lmp_all (hp : Pn N p) (h1 : 1 ≤ N) (h2 : N ≤ 20) (hg : ∀ g ∈ gs, Pn N g) (h : LmpOK N gs p k) : Mb gs N p ↔ k = N := by
  obtain ⟨a, ⟨q, hq, hq2⟩, b⟩ := h
  constructor
  · intro hm
    rcases Nat.lt_or_ge k N with hl | hl
    · exact absurd ⟨p, hm, fun _ _ => rfl⟩ (b hl)
    · omega
  · rintro rfl
    have : q = p := (hq.pn hg h1 h2).ext hp fun x hx => hq2 x hx
    exact this ▸ hq
theorem lmp_pre (hp : Pn N p) (h : LmpOK N gs p k) : ¬ NoMem N gs (p.take k) := by
  obtain ⟨a, ⟨q, hq, hq2⟩, _⟩ := h
  refine fun hn => hn q hq fun t ht => ?_
  rw [take_at ht]
  rw [List.length_take] at ht
  rw [hq2 t (by omega), nx_val hp.1 (by rw [hp.2]; omega)]
theorem lmp_none (hp : Pn N p) (h : LmpOK N gs p k) (hk : k < N) : ∀ q, Mb gs N q → ¬ ∀ t, t < (p.take (k + 1)).length → (nx q t : Int) = (p.take (k + 1)).getD t 0 := fun q hq hq2 => by
  refine h.2.2 hk ⟨q, hq, fun t ht => ?_⟩
  have h3 := hq2 t (by rw [List.length_take, hp.2]; omega)
  rw [take_at (by rw [List.length_take, hp.2]; omega), nx_val hp.1 (by rw [hp.2]; omega)] at h3
  omega
theorem greedy_all (hp : Pn N p) (h1 : 1 ≤ N) (h2 : N ≤ 20) (hg : ∀ g ∈ gs, Pn N g) (h : Greedy N gs p m) : m = p :=
  (h.1.pn hg h1 h2).ext hp fun x hx => by
    have := (h.2 x hx).1 (by rw [hp.2]; exact hx)
    rw [nx_val hp.1 (by rw [hp.2]; exact hx)] at this
    omega
end

end Go.Proofs.Ytcjcmhoalomjfaa

/- The draws of chapter 6's named laws. Condition: at most 4096 bytes. -/
namespace Go.Proofs.Ytcjcmhoalomjfaa
open Go.RowKit

theorem results_tmp4 {fn : Func} {t u v s : Tmp} (h : fn.results = #[.tmp t, .tmp u, .tmp v, .tmp s]) (tmps : Array Value) (P : Program) (w : World) :
    (results fn tmps).run P w = .ok (.tuple #[tmps.getD t undef, tmps.getD u undef, tmps.getD v undef, tmps.getD s undef]) w := by
  simp [results, h]

set_option maxHeartbeats 1000000 in
theorem drawNS (len cap : Nat) (A : Option Addr) (w : World) (hb : SB w w.heap.size A len) (hl : len ≤ 4096) :
    Calls Try.prog 32 #[.slice A len cap] w fun e w' => ∃ (z : Int) (A : Option Addr) (m c : Nat) (vs : List SV) (xss : List (List Int)) (B : Option Addr) (k d : Nat) (us : List SV) (yss : List (List Int)), e = .returned (.tuple #[.int .i64 z, .slice A m c, .slice B k d]) ∧ I64 z ∧ GIn w' A m vs xss ∧ GIn w' B k us yss ∧ Below w.heap.size w w' := by
  go_enter Try.func32, Try.ntmps32
  go_wp2_with fail
  refine (newSrc len cap A w hb hl).mono ?_
  rintro e w1 ⟨rfl, s1, b1⟩
  have S1 := Lib.hid s1
  have B1 := Lib.hid b1
  clear s1 b1
  go_wp2_with fail
  refine (drawSub w.heap.size w1 S1.out).mono ?_
  rintro e w2 ⟨z, A2, m, c, vs, xss, A3, k, d, us, yss, rfl, hB, rx, hm, hln, ry, hk, hln2, s2, g2⟩
  have HB := Lib.hid hB
  have Gi : Hid (GIn w2 A2 m vs xss) := Lib.hid ⟨rx.rr, by omega, fun i hi => by have := hln i hi; omega⟩
  have Gj : Hid (GIn w2 A3 k us yss) := Lib.hid ⟨ry.rr, by omega, fun i hi => by have := hln2 i hi; omega⟩
  have B2 : Hid (Below w.heap.size w w2) := Lib.hid (below_gro4 B1.out g2 (Nat.le_refl _))
  clear hB rx hln ry hln2 s2 g2
  go_wp2_with fail
  go_ret3
  exact ⟨_, _, _, _, vs, xss, _, _, _, us, yss, rfl, HB.out, Gi.out, Gj.out, B2.out⟩

set_option maxHeartbeats 1000000 in
theorem drawCR (len cap : Nat) (A : Option Addr) (w : World) (hb : SB w w.heap.size A len) (hl : len ≤ 4096) :
    Calls Try.prog 16 #[.slice A len cap] w fun e w' => ∃ (z : Int) (A : Option Addr) (m c : Nat) (vs : List SV) (xss : List (List Int)) (B : Option Addr) (k d : Nat) (us : List SV) (yss : List (List Int)), e = .returned (.tuple #[.int .i64 z, .slice A m c, .slice B k d]) ∧ I64 z ∧ GIn w' A m vs xss ∧ GIn w' B k us yss ∧ Below w.heap.size w w' := by
  go_enter Try.func16, Try.ntmps16
  go_wp2_with fail
  refine (newSrc len cap A w hb hl).mono ?_
  rintro e w1 ⟨rfl, s1, b1⟩
  have S1 := Lib.hid s1
  have B1 := Lib.hid b1
  clear s1 b1
  go_wp2_with fail
  refine (drawSub w.heap.size w1 S1.out).mono ?_
  rintro e w2 ⟨z, A2, m, c, vs, xss, A3, k, d, us, yss, rfl, hB, rx, hm, hln, ry, hk, hln2, s2, g2⟩
  have HB := Lib.hid hB
  have Gi : Hid (GIn w2 A2 m vs xss) := Lib.hid ⟨rx.rr, by omega, fun i hi => by have := hln i hi; omega⟩
  have Gj : Hid (GIn w2 A3 k us yss) := Lib.hid ⟨ry.rr, by omega, fun i hi => by have := hln2 i hi; omega⟩
  have B2 : Hid (Below w.heap.size w w2) := Lib.hid (below_gro4 B1.out g2 (Nat.le_refl _))
  clear hB rx hln ry hln2 s2 g2
  go_wp2_with fail
  go_ret3
  exact ⟨_, _, _, _, vs, xss, _, _, _, us, yss, rfl, HB.out, Gi.out, Gj.out, B2.out⟩

set_option maxHeartbeats 8000000 in
set_option maxRecDepth 100000 in
theorem drawSC (len cap : Nat) (A : Option Addr) (w : World) (hb : SB w w.heap.size A len) (hl : len ≤ 4096) :
    Calls Try.prog 28 #[.slice A len cap] w fun e w' => ∃ (z : Int) (A : Option Addr) (m c : Nat) (vs : List SV) (xss : List (List Int)) (P : Option Addr) (np cp : Nat) (p : List Int) (Q : Option Addr) (nq cq : Nat) (q : List Int), e = .returned (.tuple #[.int .i64 z, .slice A m c, .slice P np cp, .slice Q nq cq]) ∧ I64 z ∧ GIn w' A m vs xss ∧ SIn w' P np cp p ∧ np ≤ 21 ∧ SIn w' Q nq cq q ∧ nq ≤ 21 ∧ Below w.heap.size w w' := by
  go_enter Try.func28, Try.ntmps28
  go_wp2_with fail
  refine (newSrc len cap A w hb hl).mono ?_
  rintro e w1 ⟨rfl, s1, b1⟩
  have Sr1 := Lib.hid s1
  have B1 := Lib.hid b1
  have hz1 : w.heap.size < w1.heap.size := s1.lt
  clear s1 b1 hb
  go_wp2_with fail
  refine (drawSub w.heap.size w1 Sr1.out).mono ?_
  rintro e w2 ⟨z, A2, m, c, vs, xss, A3, k, d, us, yss, rfl, hB, rx, hm, hln, ry, hk, hln2, s2, g2⟩
  have HB := Lib.hid hB
  have Rx2 := Lib.hid rx
  have Ry2 := Lib.hid ry
  have Ln := Lib.hid hln
  have Ln2 := Lib.hid hln2
  have Sr2 := Lib.hid s2
  have B2 : Hid (Below w.heap.size w w2) := Lib.hid (below_gro4 B1.out g2 (Nat.le_refl _))
  have hz2 := g2.size
  clear hB rx hln ry hln2 s2 g2
  go_wp2_with fail
  refine (drawMemberT w.heap.size w1.heap.size z A3 k d us yss w2 Sr2.out HB.out Ry2.out hz1 hk Ln2.out).mono ?_
  rintro e w3 ⟨P, np, cp, p, rfl, pm3, hnp, s3, g3⟩
  have Pm3 := Lib.hid (pm3.mono (show w1.heap.size ≤ w2.heap.size by omega))
  have Rx3 := Lib.hid (Rx2.out.gro g3 hz1)
  have Ry3 := Lib.hid (Ry2.out.gro g3 hz1)
  have Sr3 := Lib.hid s3
  have B3 : Hid (Below w.heap.size w w3) := Lib.hid (below_gro4 B2.out g3 (Nat.le_refl _))
  have hz3 := g3.size
  clear pm3 s3 g3 Rx2 Ry2 Sr2
  go_wp2_with fail
  refine (drawMemberT w.heap.size w1.heap.size z A3 k d us yss w3 Sr3.out HB.out Ry3.out hz1 hk Ln2.out).mono ?_
  rintro e w4 ⟨Q, nq, cq, q, rfl, pm4, hnq, s4, g4⟩
  have Qm4 := Lib.hid (pm4.mono (show w1.heap.size ≤ w3.heap.size by omega))
  have Pm4 := Lib.hid (Pm3.out.gro g4 hz1)
  have Rx4 := Lib.hid (Rx3.out.gro g4 hz1)
  have Sr4 := Lib.hid s4
  have B4 : Hid (Below w.heap.size w w4) := Lib.hid (below_gro4 B3.out g4 (Nat.le_refl _))
  have hz4 := g4.size
  have Lx : Hid (∀ i, i < m → (vs.getD i sd0).2.1 ≤ 1048576) := Lib.hid fun i hi => by have := Ln.out i hi; omega
  have hlx : Hid (xss.length = m) := Lib.hid Rx4.out.rr.lx
  clear pm4 s4 g4 Rx3 Ry3 Sr3 Pm3
  go_wp2_with fail
  refine (specGS z A2 m c vs xss w4 Rx4.out.rr (by omega) Lx HB.out).mono ?_
  rintro e w5 ⟨rfl, b5⟩
  have Qm5 := Lib.hid (Qm4.out.up b5)
  have Pm5 := Lib.hid (Pm4.out.up b5)
  have Rx5 := Lib.hid (Rx4.out.up b5)
  have Sr5 := Lib.hid (Sr4.out.below b5 Sr4.out.lt)
  have B5 : Hid (Below w.heap.size w w5) := Lib.hid (btr B4.out b5)
  have hz5 := b5.size
  clear b5 Rx4 Sr4 Pm4 Qm4
  have Fin : ∀ (wx : World) (Q : Option Addr) (nq cq : Nat) (q : List Int), RX wx w1.heap.size A2 m vs xss → Pm wx w1.heap.size P np cp p → Pm wx w1.heap.size Q nq cq q → nq ≤ 21 → GIn wx A2 m vs xss ∧ SIn wx P np cp p ∧ SIn wx Q nq cq q := fun _ _ _ _ _ h1 h2 h3 h4 =>
    ⟨⟨h1.rr, by omega, Lx.out⟩, ⟨h2.ri, h2.1, by omega, h2.2.1⟩, ⟨h3.ri, h3.1, by omega, h3.2.1⟩⟩
  have FinH := Lib.hid Fin
  clear Fin
  rcases hs : gB z xss with _ | _
  · obtain ⟨f1, f2, f3⟩ := FinH.out _ _ _ _ _ Rx5.out Pm5.out Qm5.out hnq
    have F1 := Lib.hid f1
    have F2 := Lib.hid f2
    have F3 := Lib.hid f3
    clear hs f1 f2 f3
    go_wp2_with fail
    (try simp only [Exit.inBlock, Exit.then])
    refine bodyPost_ret (results_tmp4 rfl _ _ _) rfl ?_
    exact ⟨_, _, _, _, vs, xss, _, _, _, p, _, _, _, q, rfl, HB.out, F1.out, F2.out, hnp, F3.out, hnq, B5.out⟩
  · obtain ⟨N, rfl, hN1, hN2, hg8, hpm, hok⟩ := gB_pm hs
    have Ok : Hid (∀ g ∈ xss, Pn N g) := Lib.hid hok
    clear hs hpm hok
    obtain ⟨ip, hip⟩ : ∃ ip, (decide (np = N) && isP p) = ip := ⟨_, rfl⟩
    have Hip := Lib.hid hip
    clear hip
    go_wp2_with fail
    refine (specIsPOf P np cp w5 N p ip Pm5.out.ri (Lib.hid Pm5.out.1) (by omega) Pm5.out.2.1 Hip).mono ?_
    rintro e w6 ⟨rfl, b6⟩
    have Qm6 := Lib.hid (Qm5.out.up b6)
    have Pm6 := Lib.hid (Pm5.out.up b6)
    have Rx6 := Lib.hid (Rx5.out.up b6)
    have Sr6 := Lib.hid (Sr5.out.below b6 Sr5.out.lt)
    have B6 : Hid (Below w.heap.size w w6) := Lib.hid (btr B5.out b6)
    have hz6 := b6.size
    clear b6 Rx5 Sr5 Pm5 Qm5
    rcases ip with _ | _
    · obtain ⟨f1, f2, f3⟩ := FinH.out _ _ _ _ _ Rx6.out Pm6.out Qm6.out hnq
      have F1 := Lib.hid f1
      have F2 := Lib.hid f2
      have F3 := Lib.hid f3
      clear f1 f2 f3
      go_wp2_with fail
      (try simp only [Exit.inBlock, Exit.then])
      refine bodyPost_ret (results_tmp4 rfl _ _ _) rfl ?_
      exact ⟨_, _, _, _, vs, xss, _, _, _, p, _, _, _, q, rfl, HB.out, F1.out, F2.out, hnp, F3.out, hnq, B6.out⟩
    · have h3 := Hip.out
      rw [Bool.and_eq_true, decide_eq_true_eq] at h3
      obtain ⟨rfl, hp1⟩ := h3
      have PP : Hid (Pn np p) := Lib.hid ⟨isP_iff.1 hp1, Pm6.out.1⟩
      clear hp1
      go_wp2_with fail
      refine (srcOne w.heap.size _ 2 w6 Sr6.out rfl (by omega) (by omega)).mono ?_
      rintro e w7 ⟨bb, rfl, s7, g7⟩
      have Qm7 := Lib.hid (Qm6.out.gro g7 hz1)
      have Pm7 := Lib.hid (Pm6.out.gro g7 hz1)
      have Rx7 := Lib.hid (Rx6.out.gro g7 hz1)
      have Sr7 := Lib.hid s7
      have B7 : Hid (Below w.heap.size w w7) := Lib.hid (below_gro4 B6.out g7 (Nat.le_refl _))
      have hz7 := g7.size
      clear s7 g7 Rx6 Sr6 Pm6 Qm6
      rcases bb with _ | _
      · obtain ⟨f1, f2, f3⟩ := FinH.out _ _ _ _ _ Rx7.out Pm7.out Qm7.out hnq
        have F1 := Lib.hid f1
        have F2 := Lib.hid f2
        have F3 := Lib.hid f3
        clear f1 f2 f3
        go_wp2_with fail
        (try simp only [Exit.inBlock, Exit.then])
        refine bodyPost_ret (results_tmp4 rfl _ _ _) rfl ?_
        exact ⟨_, _, _, _, vs, xss, _, _, _, p, _, _, _, q, rfl, HB.out, F1.out, F2.out, hnp, F3.out, hnq, B7.out⟩
      · go_wp2_with fail
        go_loopg [11, 12] m (fun gg v iv wr => ∃ (i nq cq : Nat) (Q : Option Addr) (q : List Int), i ≤ m ∧ m - i ≤ gg ∧ iv = .int .i64 (i : Nat) ∧ v = .slice Q nq cq ∧ nq ≤ 21 ∧ Pm wr w1.heap.size Q nq cq q ∧ Pm wr w1.heap.size P np cp p ∧ RX wr w1.heap.size A2 m vs xss ∧ Src wr w.heap.size ∧ w1.heap.size ≤ wr.heap.size ∧ Below w.heap.size w wr)
        case atStart => exact ⟨0, _, _, _, _, Nat.zero_le _, by omega, rfl, rfl, hnq, Qm7.out, Pm7.out, Rx7.out, Sr7.out, by omega, B7.out⟩
        case round =>
          clear Qm7 Pm7 Rx7 Sr7 B7 hz7 hnq
          obtain ⟨i, nq, cq, Q, q, hi, hgg, rfl, rfl, hnq, hqm, hpm, hrx, hsr, hzw, bel⟩ := hrel
          have Qm := Lib.hid hqm
          have Pm_ := Lib.hid hpm
          have Rx := Lib.hid hrx
          have Sr := Lib.hid hsr
          have Be := Lib.hid bel
          clear hqm hpm hrx hsr bel
          by_cases hlt : i < m
          · go_wp2_with fail
            refine (srcOne w.heap.size _ 2 wr Sr.out rfl (by omega) (by omega)).mono ?_
            rintro e w8 ⟨bb, rfl, s8, g8⟩
            have Qm8 := Lib.hid (Qm.out.gro g8 hz1)
            have Pm8 := Lib.hid (Pm_.out.gro g8 hz1)
            have Rx8 := Lib.hid (Rx.out.gro g8 hz1)
            have Sr8 := Lib.hid s8
            have B8 : Hid (Below w.heap.size w w8) := Lib.hid (below_gro4 Be.out g8 (Nat.le_refl _))
            have hz8 : w1.heap.size ≤ w8.heap.size := Nat.le_trans hzw g8.size
            clear s8 g8 Rx Sr Pm_ Qm Be
            rcases bb with _ | _
            · go_wp2_with fail
              go_roundg (m - (i + 1))
              case rel => exact ⟨i + 1, _, _, _, _, by omega, by omega, by go_num, rfl, hnq, Qm8.out, Pm8.out, Rx8.out, Sr8.out, hz8, B8.out⟩
              case measure => omega
            · obtain ⟨b, off, A7, l, c7, y, eA, hb, hv, ey, x1, ri, ly, hl5⟩ := Rx8.out.rr.at_ hlt
              subst eA
              have hyP := Ok.out y (by rw [← ey]; exact getD_memL (by rw [hlx.out]; exact hlt))
              obtain rfl : l = np := by have := hyP.2; omega
              have Yp : Hid (Pn l y) := Lib.hid hyP
              have Ri := Lib.hid ri
              have q0 : (0 : Int) ≤ i := by omega
              have q1 : (i : Int) < m := by omega
              clear hb hv ey ri ly hl5 hyP
              go_wp2_with fail
              refine (specComp A7 P c7 cp l y p w8 Ri.out Pm8.out.ri (Lib.hid Yp.out.2) (Lib.hid PP.out.2) (Lib.hid Yp.out.1) hN2).mono ?_
              rintro e w9 ⟨A9, c9, rfl, s9, b9⟩
              have Qm9 : Hid (Pm w9 w1.heap.size A9 l c9 (compL y p)) := Lib.hid (Pm.of_slc (s9.mono hz8))
              have Pm9 := Lib.hid (Pm8.out.up b9)
              have Rx9 := Lib.hid (Rx8.out.up b9)
              have Sr9 := Lib.hid (Sr8.out.below b9 Sr8.out.lt)
              have B9 : Hid (Below w.heap.size w w9) := Lib.hid (btr B8.out b9)
              have hz9 : w1.heap.size ≤ w9.heap.size := Nat.le_trans hz8 b9.size
              clear s9 b9 x1
              go_wp2_with fail
              go_roundg (m - (i + 1))
              case rel => exact ⟨i + 1, _, _, _, _, by omega, by omega, by go_num, rfl, by omega, Qm9.out, Pm9.out, Rx9.out, Sr9.out, hz9, B9.out⟩
              case measure => omega
          · obtain rfl : m = i := by omega
            obtain ⟨f1, f2, f3⟩ := FinH.out _ _ _ _ _ Rx.out Pm_.out Qm.out hnq
            have F1 := Lib.hid f1
            have F2 := Lib.hid f2
            have F3 := Lib.hid f3
            clear f1 f2 f3
            go_wp2_with fail
            (try simp only [Exit.inBlock, Exit.then])
            refine bodyPost_ret (results_tmp4 rfl _ _ _) rfl ?_
            exact ⟨_, _, _, _, vs, xss, _, _, _, p, _, _, _, q, rfl, HB.out, F1.out, F2.out, hnp, F3.out, hnq, Be.out⟩
end Go.Proofs.Ytcjcmhoalomjfaa
