/- Part 11 of the texts: RowB, SrcA, DrawG, DrawX, DrawM, WalkI4, DrawV, SpL, DrawS, DrawW, Dice. No condition of its own: each text tells its own. -/
import Derived.Test.YtedfcljikgmpgaaMg2
import Derived.Test.YtedfcljikgmpgaaMg3
import Derived.Test.YtedfcljikgmpgaaMg1
import Derived.Test.YtedfcljikgmpgaaMg4
import Derived.Test.YtedfcljikgmpgaaMg6
import Derived.Test.YtedfcljikgmpgaaMg7
import Derived.Deep.CutRange
import Derived.Deep.LoopGhost
import Derived.RegionTactic
set_option linter.unusedVariables false
set_option linter.unusedSimpArgs false

/- What the frame of a proof knows of a slice of bytes that came in, in the words of the walks. No condition. -/
namespace Go.Proofs.Ytedfcljikgmpgaa
open Go.RowKit

theorem SB.of_rowB {w : World} {a : Option Addr} {len cap : Nat} {zs : List Int}
    (h : (a = none ∧ len = 0 ∧ cap = 0 ∧ zs = []) ∨ ∃ x, a = some x ∧ len ≤ cap ∧ cap ≤ maxLen ∧ zs.length = cap ∧ (∀ i, i < zs.length → w.cell? (x.add i) = some (.int .u8 (zs.getD i 0))) ∧ ∀ n ∈ zs, (Lit.int .u8 n).wf = true)
    (hw : ∀ n : Int, (Lit.int .u8 n).wf = true → 0 ≤ n ∧ n ≤ 255) : SB w w.heap.size a len := by
  rcases h with ⟨rfl, rfl, rfl, rfl⟩ | ⟨⟨b, off, spot⟩, rfl, hl, hm, hz, hc, hwf⟩
  · exact fun h => absurd h (by omega)
  · intro hp
    have h0 := hc 0 (by omega)
    have hspot : spot = none := by simpa [Addr.add] using World.cell?_spot h0
    subst hspot
    refine ⟨b, off, rfl, ?_, fun j hj => ?_⟩
    · have := World.block_lt_of_cell? w _ h0
      simpa [Addr.add] using this
    · have hjz : j < zs.length := by omega
      have hr := hw (zs.getD j 0) (hwf _ (by rw [List.getD_eq_getElem?_getD, List.getElem?_eq_getElem hjz]; exact List.getElem_mem _))
      refine ⟨(zs.getD j 0).toNat, by omega, ?_⟩
      rw [Int.toNat_of_nonneg hr.1, ← hc j hjz]
      unfold Addr.add
      split <;> simp_all
end Go.Proofs.Ytedfcljikgmpgaa

/- The model's draws of any permutation. Condition: degrees from 1 to 20. -/
namespace Go.Proofs.Ytedfcljikgmpgaa
open Go.RowKit

/-- A literal row of numbers, read later. -/
theorem lit_at {w w1 : World} {g : Nat} {cs : Array Value} {r : Nat} (hg : g < w.heap.size) (hb : (w.alloc (.cells cs 2)).grownBy w1 (some g)) (hr : r < cs.size) (hall : ∀ (i : Nat) (h : i < cs.size), ∃ z : Int, cs[i] = .int .i64 z) : ∃ z : Int, w1.cell? ⟨w.heap.size, r, none⟩ = some (.int .i64 z) := by
  obtain ⟨z, hz⟩ := hall r hr
  refine ⟨z, ?_⟩
  rw [World.cell?_of_block (hb.block w.heap.size (by simp) (by intro e; injection e with e; omega)), World.cell?_alloc_at _ _ _ _ rfl]
  show cs[r]? = _
  rw [Array.getElem?_eq_getElem hr, hz]

set_option maxHeartbeats 1600000 in
theorem srcExtreme (g : Nat) (w : World) (hs : Src w g) :
    Calls Try.prog 139 #[.pointer (some ⟨g, 0, none⟩)] w fun e w' => ∃ z : Int, e = .returned (.int .i64 z) ∧ Src w' g ∧ w.grownBy w' (some g) := by
  have hg := hs.lt
  have Hs := Lib.hid hs
  clear hs
  go_enter Try.func139, Try.ntmps139
  go_wp2_with fail
  refine (srcBelow g _ 10 _ (Hs.out.below ((Below.refl w.heap.size w).alloc (Nat.le_refl _) _) hg) rfl (by omega) (by omega)).mono ?_
  rintro e w1 ⟨r, hr, rfl, s1, g1⟩
  have S1 := Lib.hid s1
  have G1 : Hid (w.grownBy w1 (some g)) := Lib.hid (grown_trans' (grown_alloc2 (grown_refl _ _) _) g1)
  obtain ⟨z, hz⟩ := lit_at (r := r) hg g1 hr (by
    intro i h
    have h : i < 10 := h
    rcases i with _ | _ | _ | _ | _ | _ | _ | _ | _ | _ | i
    all_goals first | exact ⟨_, rfl⟩ | omega)
  have p0 : (0 : Int) ≤ r := by omega
  have p1 : (r : Int) < 10 := by omega
  clear s1 g1
  go_wp2_with fail
  go_ret
  exact ⟨z, rfl, S1.out, G1.out⟩

set_option maxHeartbeats 1600000 in
theorem srcNumber (g n : Nat) (w : World) (hs : Src w g) (h1 : 1 ≤ n) (hn : n ≤ 100) :
    Calls Try.prog 121 #[.pointer (some ⟨g, 0, none⟩), .int .i64 (n : Int)] w fun e w' => ∃ z : Int, e = .returned (.int .i64 z) ∧ Src w' g ∧ w.grownBy w' (some g) := by
  go_enter Try.func121, Try.ntmps121
  go_wp2_with fail
  refine (srcOne g _ 10 w hs rfl (by omega) (by omega)).mono ?_
  rintro e w1 ⟨b, rfl, s1, g1⟩
  have S1 := Lib.hid s1
  have G1 := Lib.hid g1
  clear s1 g1
  cases b
  · go_wp2_with fail
    refine (srcOne g _ 2 w1 S1.out rfl (by omega) (by omega)).mono ?_
    rintro e w2 ⟨b, rfl, s2, g2⟩
    have S2 := Lib.hid s2
    have G2 : Hid (w.grownBy w2 (some g)) := Lib.hid (grown_trans' G1.out g2)
    clear s2 g2
    cases b
    · go_wp2_with fail
      refine (srcBelow g _ (n + 1) w2 S2.out (by omega) (by omega) (by omega)).mono ?_
      rintro e w3 ⟨r, hr, rfl, s3, g3⟩
      have S3 := Lib.hid s3
      have G3 : Hid (w.grownBy w3 (some g)) := Lib.hid (grown_trans' G2.out g3)
      clear s3 g3
      go_wp2_with fail
      go_ret
      exact ⟨r, rfl, S3.out, G3.out⟩
    · by_cases h4 : n ≤ 4
      · have hm : (min (n : Int) 4) = (n : Int) := by omega
        have d4 : decide ((n : Int) ≤ 4) = true := by simp; omega
        go_wp2_with fail
        refine (srcBelow g _ (n + 1) w2 S2.out (by omega) (by omega) (by omega)).mono ?_
        rintro e w3 ⟨r, hr, rfl, s3, g3⟩
        have S3 := Lib.hid s3
        have G3 : Hid (w.grownBy w3 (some g)) := Lib.hid (grown_trans' G2.out g3)
        clear s3 g3
        go_wp2_with fail
        go_ret
        exact ⟨r, rfl, S3.out, G3.out⟩
      · have hm : (min (n : Int) 4) = 4 := by omega
        have d4 : decide ((n : Int) ≤ 4) = false := by simp; omega
        go_wp2_with fail
        refine (srcBelow g _ (5) w2 S2.out (by omega) (by omega) (by omega)).mono ?_
        rintro e w3 ⟨r, hr, rfl, s3, g3⟩
        have S3 := Lib.hid s3
        have G3 : Hid (w.grownBy w3 (some g)) := Lib.hid (grown_trans' G2.out g3)
        clear s3 g3
        go_wp2_with fail
        go_ret
        exact ⟨r, rfl, S3.out, G3.out⟩
  · go_wp2_with fail
    refine (srcExtreme g w1 S1.out).mono ?_
    rintro e w2 ⟨z, rfl, s2, g2⟩
    have S2 := Lib.hid s2
    have hg2 := s2.lt
    have G2 : Hid (w.grownBy w2 (some g)) := Lib.hid (grown_trans' G1.out g2)
    clear s2 g2
    go_wp2_with fail
    refine (srcBelow g _ 4 _ (S2.out.below ((Below.refl w2.heap.size w2).alloc (Nat.le_refl _) _) hg2) rfl (by omega) (by omega)).mono ?_
    rintro e w3 ⟨r, hr, rfl, s3, g3⟩
    have S3 := Lib.hid s3
    have G3 : Hid (w.grownBy w3 (some g)) := Lib.hid (grown_trans' (grown_alloc2 G2.out _) g3)
    obtain ⟨y, hy⟩ := lit_at (r := r) hg2 g3 hr (by
      intro i h
      have h : i < 4 := h
      rcases i with _ | _ | _ | _ | i
      all_goals first | exact ⟨_, rfl⟩ | omega)
    have p0 : (0 : Int) ≤ r := by omega
    have p1 : (r : Int) < 4 := by omega
    clear s3 g3
    go_wp2_with fail
    go_ret
    exact ⟨y, rfl, S3.out, G3.out⟩

/-- What can be read: m numbers, in a block from base on. -/
def Pm (w : World) (base : Nat) (A : Option Addr) (m c : Nat) (xs : List Int) : Prop :=
  xs.length = m ∧ m ≤ c ∧ (0 < m → ∃ b off, A = some ⟨b, off, none⟩ ∧ base ≤ b ∧ b < w.heap.size ∧ ∀ j, j < m → w.cell? ⟨b, off + j, none⟩ = some (.int .i64 (xs.getD j 0)))
theorem Pm.of_slc {w : World} {base n c : Nat} {A : Option Addr} {xs : List Int} (h : Slc w base A n c xs) : Pm w base A n c xs := by
  refine ⟨h.1, h.le.1, fun hp => ?_⟩
  have hri := h.ri_
  obtain ⟨b, o, e, hb, hc⟩ := hri (by rw [h.1]; exact hp)
  refine ⟨b, o, e, (h.lt_ b (by subst e; rfl)).1, hb, fun j hj => hc j (by rw [h.1]; exact hj)⟩
theorem Pm.ri {w : World} {base n c : Nat} {A : Option Addr} {xs : List Int} (h : Pm w base A n c xs) : RI w w.heap.size A xs := fun hp => by
  obtain ⟨b, o, e, h1, h2, hc⟩ := h.2.2 (by rw [← h.1]; exact hp)
  exact ⟨b, o, e, h2, fun j hj => hc j (by rw [← h.1]; exact hj)⟩
theorem Pm.gro {w w' : World} {base n c g : Nat} {A : Option Addr} {xs : List Int} (h : Pm w base A n c xs) (hg : w.grownBy w' (some g)) (hb : g < base) : Pm w' base A n c xs := by
  refine ⟨h.1, h.2.1, fun hp => ?_⟩
  obtain ⟨b, o, e, h1, h2, hc⟩ := h.2.2 hp
  exact ⟨b, o, e, h1, Nat.lt_of_lt_of_le h2 hg.size, fun j hj => (World.cell?_of_block (a := ⟨b, o + j, none⟩) (hg.block b h2 (by intro e2; injection e2 with e2; omega))).trans (hc j hj)⟩
theorem Pm.up {w w' : World} {base n c : Nat} {A : Option Addr} {xs : List Int} (h : Pm w base A n c xs) (hb : Below w.heap.size w w') : Pm w' base A n c xs := by
  refine ⟨h.1, h.2.1, fun hp => ?_⟩
  obtain ⟨b, o, e, h1, h2, hc⟩ := h.2.2 hp
  exact ⟨b, o, e, h1, Nat.lt_of_lt_of_le h2 hb.size, fun j hj => (hb.cell (p := ⟨b, o + j, none⟩) h2).trans (hc j hj)⟩
theorem Pm.mono {w : World} {base base' n c : Nat} {A : Option Addr} {xs : List Int} (h : Pm w base A n c xs) (hb : base' ≤ base) : Pm w base' A n c xs := by
  refine ⟨h.1, h.2.1, fun hp => ?_⟩
  obtain ⟨b, o, e, h1, h2, hc⟩ := h.2.2 hp
  exact ⟨b, o, e, by omega, h2, hc⟩
theorem Pm.tail {w : World} {base n c q : Nat} {xs : List Int} (h : Slc w base (some ⟨q, 0, none⟩) n c xs) {A : Option Addr} (hA : 1 < n → A = some ⟨q, 1, none⟩) : Pm w base A (n - 1) (c - 1) (xs.drop 1) := by
  refine ⟨by rw [List.length_drop, h.1], by have := h.le.1; omega, fun hp => ?_⟩
  have hri : RI w w.heap.size (some ⟨q, 0, none⟩) xs := h.ri_
  have lx := h.1
  refine ⟨q, 1, hA (by omega), (h.lt_ q rfl).1, (h.lt_ q rfl).2, fun j hj => ?_⟩
  have := (hri.cellAt (j := 1 + j) (by omega)).2
  rw [Nat.zero_add] at this
  rw [this, List.getD_eq_getElem?_getD, List.getD_eq_getElem?_getD, List.getElem?_drop]

theorem grown_below3 {w w1 w' : World} {row : Option Nat} (h : w.grownBy w1 row) (b : Below w.heap.size w1 w') : w.grownBy w' row :=
  ⟨b.os.trans h.os, b.tape.trans h.tape, b.output.trans h.output, Nat.le_trans h.size b.size, fun k hk hn => (b.block k hk).trans (h.block k hk hn)⟩
theorem drawPermK (g n : Nat) (N : Int) (w : World) (hs : Src w g) (hN : N = (n : Int)) (hn : n ≤ 100) :
    Calls Try.prog 138 #[.pointer (some ⟨g, 0, none⟩), .int .i64 N] w fun e w' => ∃ q c xs, e = .returned (.slice (some ⟨q, 0, none⟩) n c) ∧ Slc w' w.heap.size (some ⟨q, 0, none⟩) n c xs ∧ Src w' g ∧ w.grownBy w' (some g) := by
  subst hN; exact drawPerm g n w hs hn
theorem grown_far {w w1 : World} {g q : Nat} (h : w.grownBy w1 (some g)) (hq : w.heap.size ≤ q) (j : Nat) (u : Value) : w.grownBy (w1.setCell ⟨q, j, none⟩ u) (some g) :=
  ⟨h.os, h.tape, h.output, by simpa [World.setCell] using h.size, fun k hk hn => (Below.heap_setCell w1 _ u k (by show k ≠ q; omega)).trans (h.block k hk hn)⟩

set_option maxHeartbeats 4000000 in
theorem drawAny (g n : Nat) (w : World) (hs : Src w g) (h1 : 1 ≤ n) (hn : n ≤ 20) :
    Calls Try.prog 122 #[.pointer (some ⟨g, 0, none⟩), .int .i64 (n : Int)] w fun e w' => ∃ A m c xs, e = .returned (.slice A m c) ∧ Pm w' w.heap.size A m c xs ∧ m ≤ 21 ∧ Src w' g ∧ w.grownBy w' (some g) := by
  have hg := hs.lt
  go_enter Try.func122, Try.ntmps122
  go_wp2_with fail
  refine (drawPerm g n w hs (by omega)).mono ?_
  rintro e w1 ⟨q, c, xs, rfl, sl1, s1, g1⟩
  have Sl1 := Lib.hid sl1
  have S1 := Lib.hid s1
  have G1 := Lib.hid g1
  have hq := (sl1.lt_ q rfl).1
  have hnc := sl1.le.1
  clear sl1 s1 g1
  go_wp2_with fail
  refine (srcOne g _ 12 w1 S1.out rfl (by omega) (by omega)).mono ?_
  rintro e w2 ⟨b2, rfl, s2, g2⟩
  have S2 := Lib.hid s2
  have G2 : Hid (w.grownBy w2 (some g)) := Lib.hid (grown_trans' G1.out g2)
  have Sl2 : Hid (Slc w2 w.heap.size (some ⟨q, 0, none⟩) n c xs) := Lib.hid (Sl1.out.kept g2 (.inr (by intro e; simp [Value.ownBlock] at e; omega)))
  clear s2 g2
  have hn0 : 0 < n := by omega
  cases b2
  · have S4 := S2
    have G4 := G2
    have P4 := Lib.hid (Pm.of_slc Sl2.out)
    have hm4 : n ≤ 21 := by omega
    go_wp2_with fail
    refine (srcOne g _ 60 _ S4.out rfl (by omega) (by omega)).mono ?_
    rintro e w5 ⟨b5, rfl, s5, g5⟩
    have S5 := Lib.hid s5
    have G5 : Hid (w.grownBy w5 (some g)) := Lib.hid (grown_trans' G4.out g5)
    have P5 := Lib.hid (P4.out.gro g5 hg)
    clear s5 g5
    cases b5
    · go_wp2_with fail
      go_ret
      exact ⟨_, _, _, _, rfl, P5.out, hm4, S5.out, G5.out⟩
    · go_wp2_with fail
      refine (srcBelow g _ 2 w5 S5.out rfl (by omega) (by omega)).mono ?_
      rintro e w6 ⟨r6, hr6, rfl, s6, g6⟩
      have S6 := Lib.hid s6
      have G6 : Hid (w.grownBy w6 (some g)) := Lib.hid (grown_trans' G5.out g6)
      clear s6 g6
      go_wp2_with fail
      refine (drawPermK g (20 + r6) _ w6 S6.out (by push_cast; rfl) (by omega)).mono ?_
      rintro e w7 ⟨q7, c7, xs7, rfl, sl7, s7, g7⟩
      have S7 := Lib.hid s7
      have G7 : Hid (w.grownBy w7 (some g)) := Lib.hid (grown_trans' G6.out g7)
      have P7 : Hid (Pm w7 w.heap.size (some ⟨q7, 0, none⟩) (20 + r6) c7 xs7) := Lib.hid ((Pm.of_slc sl7).mono G6.out.size)
      clear s7 g7 sl7
      go_wp2_with fail
      go_ret
      exact ⟨_, _, _, _, rfl, P7.out, by omega, S7.out, G7.out⟩
  · go_wp2_with fail
    refine (srcBelow g _ 3 w2 S2.out rfl (by omega) (by omega)).mono ?_
    rintro e w3 ⟨r3, hr3, rfl, s3, g3⟩
    have S3 := Lib.hid s3
    have G3 : Hid (w.grownBy w3 (some g)) := Lib.hid (grown_trans' G2.out g3)
    have Sl3 : Hid (Slc w3 w.heap.size (some ⟨q, 0, none⟩) n c xs) := Lib.hid (Sl2.out.kept g3 (.inr (by intro e; simp [Value.ownBlock] at e; omega)))
    clear s3 g3
    obtain rfl | rfl | rfl : r3 = 0 ∨ r3 = 1 ∨ r3 = 2 := by omega
    · go_wp2_with fail
      refine (srcBelow g _ n w3 S3.out rfl (by omega) (by omega)).mono ?_
      rintro e w8 ⟨i, hi, rfl, s8, g8⟩
      have S8 := Lib.hid s8
      have G8 : Hid (w.grownBy w8 (some g)) := Lib.hid (grown_trans' G3.out g8)
      have Sl8 : Hid (Slc w8 w.heap.size (some ⟨q, 0, none⟩) n c xs) := Lib.hid (Sl3.out.kept g8 (.inr (by intro e; simp [Value.ownBlock] at e; omega)))
      clear s8 g8
      go_wp2_with fail
      refine (srcNumber g n w8 S8.out h1 (by omega)).mono ?_
      rintro e w9 ⟨z, rfl, s9, g9⟩
      have row : Row w9 w.heap.size q n c xs := Row.of_own (by have := (Sl8.out.kept g9 (.inr (by intro e; simp [Value.ownBlock] at e; omega))); have h2 := this.2; rw [← this.1] at h2; rw [this.1] at h2; exact h2)
      have c9 := row.cell hi
      have f9 := row.free i
      have p0 : (0 : Int) ≤ i := by omega
      have p1 : (i : Int) < n := by omega
      have P4 := Lib.hid (Pm.of_slc (row.store i z).slc)
      have S4 : Hid (Src (w9.setCell ⟨q, i, none⟩ (.int .i64 z)) g) := Lib.hid (s9.below ((Below.refl (g + 1) w9).setCell (by show g + 1 ≤ q; omega) _) (by omega))
      have G4 : Hid (w.grownBy (w9.setCell ⟨q, i, none⟩ (.int .i64 z)) (some g)) := Lib.hid (grown_far (grown_trans' G8.out g9) hq _ _)
      have hm4 : n ≤ 21 := by omega
      clear s9 g9 row
      go_wp2_with fail
      refine (srcOne g _ 60 _ S4.out rfl (by omega) (by omega)).mono ?_
      rintro e w5 ⟨b5, rfl, s5, g5⟩
      have S5 := Lib.hid s5
      have G5 : Hid (w.grownBy w5 (some g)) := Lib.hid (grown_trans' G4.out g5)
      have P5 := Lib.hid (P4.out.gro g5 hg)
      clear s5 g5
      cases b5
      · go_wp2_with fail
        go_ret
        exact ⟨_, _, _, _, rfl, P5.out, hm4, S5.out, G5.out⟩
      · go_wp2_with fail
        refine (srcBelow g _ 2 w5 S5.out rfl (by omega) (by omega)).mono ?_
        rintro e w6 ⟨r6, hr6, rfl, s6, g6⟩
        have S6 := Lib.hid s6
        have G6 : Hid (w.grownBy w6 (some g)) := Lib.hid (grown_trans' G5.out g6)
        clear s6 g6
        go_wp2_with fail
        refine (drawPermK g (20 + r6) _ w6 S6.out (by push_cast; rfl) (by omega)).mono ?_
        rintro e w7 ⟨q7, c7, xs7, rfl, sl7, s7, g7⟩
        have S7 := Lib.hid s7
        have G7 : Hid (w.grownBy w7 (some g)) := Lib.hid (grown_trans' G6.out g7)
        have P7 : Hid (Pm w7 w.heap.size (some ⟨q7, 0, none⟩) (20 + r6) c7 xs7) := Lib.hid ((Pm.of_slc sl7).mono G6.out.size)
        clear s7 g7 sl7
        go_wp2_with fail
        go_ret
        exact ⟨_, _, _, _, rfl, P7.out, by omega, S7.out, G7.out⟩
    · have p1 : (1 : Int) ≤ n := by omega
      have p2 : (1 : Int) ≤ c := by omega
      have S4 := S3
      have G4 := G3
      have hm4 : n - 1 ≤ 21 := by omega
      by_cases hc1 : c = 1
      · have P4 : Hid (Pm w3 w.heap.size (some ⟨q, 0, none⟩) (n - 1) 0 (xs.drop 1)) := Lib.hid (by have := Pm.tail (A := some ⟨q, 0, none⟩) Sl3.out (fun h => by omega); rw [show c - 1 = 0 by omega] at this; exact this)
        go_wp2_with fail
        refine (srcOne g _ 60 _ S4.out rfl (by omega) (by omega)).mono ?_
        rintro e w5 ⟨b5, rfl, s5, g5⟩
        have S5 := Lib.hid s5
        have G5 : Hid (w.grownBy w5 (some g)) := Lib.hid (grown_trans' G4.out g5)
        have P5 := Lib.hid (P4.out.gro g5 hg)
        clear s5 g5
        cases b5
        · go_wp2_with fail
          go_ret
          exact ⟨_, _, _, _, rfl, P5.out, hm4, S5.out, G5.out⟩
        · go_wp2_with fail
          refine (srcBelow g _ 2 w5 S5.out rfl (by omega) (by omega)).mono ?_
          rintro e w6 ⟨r6, hr6, rfl, s6, g6⟩
          have S6 := Lib.hid s6
          have G6 : Hid (w.grownBy w6 (some g)) := Lib.hid (grown_trans' G5.out g6)
          clear s6 g6
          go_wp2_with fail
          refine (drawPermK g (20 + r6) _ w6 S6.out (by push_cast; rfl) (by omega)).mono ?_
          rintro e w7 ⟨q7, c7, xs7, rfl, sl7, s7, g7⟩
          have S7 := Lib.hid s7
          have G7 : Hid (w.grownBy w7 (some g)) := Lib.hid (grown_trans' G6.out g7)
          have P7 : Hid (Pm w7 w.heap.size (some ⟨q7, 0, none⟩) (20 + r6) c7 xs7) := Lib.hid ((Pm.of_slc sl7).mono G6.out.size)
          clear s7 g7 sl7
          go_wp2_with fail
          go_ret
          exact ⟨_, _, _, _, rfl, P7.out, by omega, S7.out, G7.out⟩
      · have P4 : Hid (Pm w3 w.heap.size (some ⟨q, 1, none⟩) (n - 1) (c - 1) (xs.drop 1)) := Lib.hid (Pm.tail Sl3.out (fun _ => rfl))
        go_wp2_with fail
        refine (srcOne g _ 60 _ S4.out rfl (by omega) (by omega)).mono ?_
        rintro e w5 ⟨b5, rfl, s5, g5⟩
        have S5 := Lib.hid s5
        have G5 : Hid (w.grownBy w5 (some g)) := Lib.hid (grown_trans' G4.out g5)
        have P5 := Lib.hid (P4.out.gro g5 hg)
        clear s5 g5
        cases b5
        · go_wp2_with fail
          go_ret
          exact ⟨_, _, _, _, rfl, P5.out, hm4, S5.out, G5.out⟩
        · go_wp2_with fail
          refine (srcBelow g _ 2 w5 S5.out rfl (by omega) (by omega)).mono ?_
          rintro e w6 ⟨r6, hr6, rfl, s6, g6⟩
          have S6 := Lib.hid s6
          have G6 : Hid (w.grownBy w6 (some g)) := Lib.hid (grown_trans' G5.out g6)
          clear s6 g6
          go_wp2_with fail
          refine (drawPermK g (20 + r6) _ w6 S6.out (by push_cast; rfl) (by omega)).mono ?_
          rintro e w7 ⟨q7, c7, xs7, rfl, sl7, s7, g7⟩
          have S7 := Lib.hid s7
          have G7 : Hid (w.grownBy w7 (some g)) := Lib.hid (grown_trans' G6.out g7)
          have P7 : Hid (Pm w7 w.heap.size (some ⟨q7, 0, none⟩) (20 + r6) c7 xs7) := Lib.hid ((Pm.of_slc sl7).mono G6.out.size)
          clear s7 g7 sl7
          go_wp2_with fail
          go_ret
          exact ⟨_, _, _, _, rfl, P7.out, by omega, S7.out, G7.out⟩
    · have hz := G3.out.size
      go_wp2_with (first | (at_builtin; refine wpList_app1 rfl _ _ rfl w.heap.size (some ⟨q, 0, none⟩) n c _ rfl (Sl3.out.alloc _) w3.heap.size (n : Int) rfl (by rw [World.cell?_alloc_at _ _ _ _ rfl]; rfl) (by omega) (by simp; omega) ?_; intro A4 c4 w4 s4 g4))
      have P4 := Lib.hid (Pm.of_slc s4)
      have B4 : Below w.heap.size w3 w4 := ((Below.refl _ w3).alloc hz _).grown g4 (by simp; omega) (fun j hj => (Sl3.out.lt_ j hj).1)
      have S4 : Hid (Src w4 g) := Lib.hid (S3.out.below B4 hg)
      have G4 : Hid (w.grownBy w4 (some g)) := Lib.hid (grown_below3 G3.out B4)
      have hm4 : n + 1 ≤ 21 := by omega
      clear s4 g4 B4
      go_wp2_with fail
      refine (srcOne g _ 60 _ S4.out rfl (by omega) (by omega)).mono ?_
      rintro e w5 ⟨b5, rfl, s5, g5⟩
      have S5 := Lib.hid s5
      have G5 : Hid (w.grownBy w5 (some g)) := Lib.hid (grown_trans' G4.out g5)
      have P5 := Lib.hid (P4.out.gro g5 hg)
      clear s5 g5
      cases b5
      · go_wp2_with fail
        go_ret
        exact ⟨_, _, _, _, rfl, P5.out, hm4, S5.out, G5.out⟩
      · go_wp2_with fail
        refine (srcBelow g _ 2 w5 S5.out rfl (by omega) (by omega)).mono ?_
        rintro e w6 ⟨r6, hr6, rfl, s6, g6⟩
        have S6 := Lib.hid s6
        have G6 : Hid (w.grownBy w6 (some g)) := Lib.hid (grown_trans' G5.out g6)
        clear s6 g6
        go_wp2_with fail
        refine (drawPermK g (20 + r6) _ w6 S6.out (by push_cast; rfl) (by omega)).mono ?_
        rintro e w7 ⟨q7, c7, xs7, rfl, sl7, s7, g7⟩
        have S7 := Lib.hid s7
        have G7 : Hid (w.grownBy w7 (some g)) := Lib.hid (grown_trans' G6.out g7)
        have P7 : Hid (Pm w7 w.heap.size (some ⟨q7, 0, none⟩) (20 + r6) c7 xs7) := Lib.hid ((Pm.of_slc sl7).mono G6.out.size)
        clear s7 g7 sl7
        go_wp2_with fail
        go_ret
        exact ⟨_, _, _, _, rfl, P7.out, by omega, S7.out, G7.out⟩
end Go.Proofs.Ytedfcljikgmpgaa

/- The model's draws of numbers, with their bounds; draws of generators and of groups. Condition: at most 4096 bytes. -/
namespace Go.Proofs.Ytedfcljikgmpgaa
open Go.RowKit

/-- The bounds of an int64. -/
def B64 (z : Int) : Prop := -9223372036854775808 ≤ z ∧ z ≤ 9223372036854775807
/-- A literal row of numbers, read later. -/
theorem lit_atB {w w1 : World} {g : Nat} {cs : Array Value} {r : Nat} (hg : g < w.heap.size) (hb : (w.alloc (.cells cs 2)).grownBy w1 (some g)) (hr : r < cs.size) (hall : ∀ (i : Nat) (h : i < cs.size), ∃ z : Int, cs[i] = .int .i64 z ∧ B64 z) : ∃ z : Int, w1.cell? ⟨w.heap.size, r, none⟩ = some (.int .i64 z) ∧ B64 z := by
  obtain ⟨z, hz, hB⟩ := hall r hr
  refine ⟨z, ?_, hB⟩
  rw [World.cell?_of_block (hb.block w.heap.size (by simp) (by intro e; injection e with e; omega)), World.cell?_alloc_at _ _ _ _ rfl]
  show cs[r]? = _
  rw [Array.getElem?_eq_getElem hr, hz]

set_option maxHeartbeats 1600000 in
theorem srcExtremeB (g : Nat) (w : World) (hs : Src w g) :
    Calls Try.prog 139 #[.pointer (some ⟨g, 0, none⟩)] w fun e w' => ∃ z : Int, e = .returned (.int .i64 z) ∧ B64 z ∧ Src w' g ∧ w.grownBy w' (some g) := by
  have hg := hs.lt
  have Hs := Lib.hid hs
  clear hs
  go_enter Try.func139, Try.ntmps139
  go_wp2_with fail
  refine (srcBelow g _ 10 _ (Hs.out.below ((Below.refl w.heap.size w).alloc (Nat.le_refl _) _) hg) rfl (by omega) (by omega)).mono ?_
  rintro e w1 ⟨r, hr, rfl, s1, g1⟩
  have S1 := Lib.hid s1
  have G1 : Hid (w.grownBy w1 (some g)) := Lib.hid (grown_trans' (grown_alloc2 (grown_refl _ _) _) g1)
  obtain ⟨z, hz, hzB⟩ := lit_atB (r := r) hg g1 hr (by
    intro i h
    have h : i < 10 := h
    rcases i with _ | _ | _ | _ | _ | _ | _ | _ | _ | _ | i
    all_goals first | exact ⟨_, rfl, by unfold B64; omega⟩ | omega)
  have p0 : (0 : Int) ≤ r := by omega
  have p1 : (r : Int) < 10 := by omega
  clear s1 g1
  go_wp2_with fail
  go_ret
  exact ⟨z, rfl, hzB, S1.out, G1.out⟩

set_option maxHeartbeats 1600000 in
theorem srcNumberB (g n : Nat) (w : World) (hs : Src w g) (h1 : 1 ≤ n) (hn : n ≤ 100) :
    Calls Try.prog 121 #[.pointer (some ⟨g, 0, none⟩), .int .i64 (n : Int)] w fun e w' => ∃ z : Int, e = .returned (.int .i64 z) ∧ B64 z ∧ Src w' g ∧ w.grownBy w' (some g) := by
  go_enter Try.func121, Try.ntmps121
  go_wp2_with fail
  refine (srcOne g _ 10 w hs rfl (by omega) (by omega)).mono ?_
  rintro e w1 ⟨b, rfl, s1, g1⟩
  have S1 := Lib.hid s1
  have G1 := Lib.hid g1
  clear s1 g1
  cases b
  · go_wp2_with fail
    refine (srcOne g _ 2 w1 S1.out rfl (by omega) (by omega)).mono ?_
    rintro e w2 ⟨b, rfl, s2, g2⟩
    have S2 := Lib.hid s2
    have G2 : Hid (w.grownBy w2 (some g)) := Lib.hid (grown_trans' G1.out g2)
    clear s2 g2
    cases b
    · go_wp2_with fail
      refine (srcBelow g _ (n + 1) w2 S2.out (by omega) (by omega) (by omega)).mono ?_
      rintro e w3 ⟨r, hr, rfl, s3, g3⟩
      have S3 := Lib.hid s3
      have G3 : Hid (w.grownBy w3 (some g)) := Lib.hid (grown_trans' G2.out g3)
      clear s3 g3
      go_wp2_with fail
      go_ret
      exact ⟨r, rfl, by unfold B64; omega, S3.out, G3.out⟩
    · by_cases h4 : n ≤ 4
      · have hm : (min (n : Int) 4) = (n : Int) := by omega
        have d4 : decide ((n : Int) ≤ 4) = true := by simp; omega
        go_wp2_with fail
        refine (srcBelow g _ (n + 1) w2 S2.out (by omega) (by omega) (by omega)).mono ?_
        rintro e w3 ⟨r, hr, rfl, s3, g3⟩
        have S3 := Lib.hid s3
        have G3 : Hid (w.grownBy w3 (some g)) := Lib.hid (grown_trans' G2.out g3)
        clear s3 g3
        go_wp2_with fail
        go_ret
        exact ⟨r, rfl, by unfold B64; omega, S3.out, G3.out⟩
      · have hm : (min (n : Int) 4) = 4 := by omega
        have d4 : decide ((n : Int) ≤ 4) = false := by simp; omega
        go_wp2_with fail
        refine (srcBelow g _ (5) w2 S2.out (by omega) (by omega) (by omega)).mono ?_
        rintro e w3 ⟨r, hr, rfl, s3, g3⟩
        have S3 := Lib.hid s3
        have G3 : Hid (w.grownBy w3 (some g)) := Lib.hid (grown_trans' G2.out g3)
        clear s3 g3
        go_wp2_with fail
        go_ret
        exact ⟨r, rfl, by unfold B64; omega, S3.out, G3.out⟩
  · go_wp2_with fail
    refine (srcExtremeB g w1 S1.out).mono ?_
    rintro e w2 ⟨z, rfl, hzB, s2, g2⟩
    have S2 := Lib.hid s2
    have hg2 := s2.lt
    have G2 : Hid (w.grownBy w2 (some g)) := Lib.hid (grown_trans' G1.out g2)
    clear s2 g2
    go_wp2_with fail
    refine (srcBelow g _ 4 _ (S2.out.below ((Below.refl w2.heap.size w2).alloc (Nat.le_refl _) _) hg2) rfl (by omega) (by omega)).mono ?_
    rintro e w3 ⟨r, hr, rfl, s3, g3⟩
    have S3 := Lib.hid s3
    have G3 : Hid (w.grownBy w3 (some g)) := Lib.hid (grown_trans' (grown_alloc2 G2.out _) g3)
    obtain ⟨y, hy, hyB⟩ := lit_atB (r := r) hg2 g3 hr (by
      intro i h
      have h : i < 4 := h
      rcases i with _ | _ | _ | _ | i
      all_goals first | exact ⟨_, rfl, by unfold B64; omega⟩ | exact ⟨_, rfl, hzB⟩ | omega)
    have p0 : (0 : Int) ≤ r := by omega
    have p1 : (r : Int) < 4 := by omega
    clear s3 g3
    go_wp2_with fail
    go_ret
    exact ⟨y, rfl, hyB, S3.out, G3.out⟩


section
variable {w w' : World} {base n c : Nat} {A : Option Addr} {vs : List SV} {xss : List (List Int)}
/-- Kept where a block turned that is none of its own. -/
theorem SS.farR {r lo hi : Nat} (h : SS w base base A n c vs xss) (hg : w.grownBy w' (some r)) (hA : ∀ k, (Value.slice A n c).ownBlock = some k → lo ≤ k ∧ k < hi) (hI : ∀ i, i < n → ∀ k, (sval (vs.getD i sd0)).ownBlock = some k → lo ≤ k ∧ k < hi) (hr : r < lo ∨ hi ≤ r) : SS w' base base A n c vs xss := by
  have ne : ∀ (v : Value), (∀ k, v.ownBlock = some k → lo ≤ k ∧ k < hi) → v.ownBlock = none ∨ v.ownBlock ≠ some r := fun v hv => by
    rcases e : v.ownBlock with _ | k
    · exact .inl rfl
    · exact .inr fun e2 => by injection e2 with e2; have := hv k e; omega
  exact ⟨World.ownsRow.kept h.own hg (ne _ hA), h.lv, h.lx, fun i hi' => (h.row i hi').kept hg (ne _ (hI i hi')), h.dis⟩
/-- A slice that can be read, appended onto a slice of slices of the call's own. -/
theorem wpList_app2R {ops : Array Oper} {rest : List Oper} {o : Oper} {a : Act} {Q : Exit → Act → World → Prop} (hgd : o.guard = none) (s x : Operand)
    (ho : o.op = .call { callee := .builtin .append, args := #[s, x], argTypes := #[22, 22] })
    (hs : a.eval s = .slice A n c) (hss : SS w base base A n c vs xss) (g : Nat) (dA : Option Addr) (dn dc lo : Nat) (ys : List Int) (hx : a.eval x = .slice (some ⟨g, 0, none⟩) 1 1)
    (hcell : w.cell? ⟨g, 0, none⟩ = some (.slice dA dn dc)) (hys : Pm w lo dA dn dc ys) (hlo : ∀ k, (Value.slice A n c).ownBlock = some k → k < lo) (hn : n ≤ 1000000000) (hbase : base ≤ w.heap.size)
    (h : ∀ A' c' w', RR w' w'.heap.size A' (n + 1) (vs ++ [(dA, dn, dc)]) (xss ++ [ys]) → w.grownBy w' (Value.slice A n c).ownBlock → wpList Try.prog ops Q rest (a.put o.dst (.slice A' (n + 1) c')) w') : wpList Try.prog ops Q (o :: rest) a w := by
  obtain ⟨i0, hi, hz0, hz1, hz2⟩ := info_parts infoS
  refine wpList_append_own (w := w) hgd s x 22 ho base 48 i0 (.slice none 0 0) 1 24 Try.underlying22 hi hz0 hz1 hz2 rfl (by decide) _ n _ hs hss.own ⟨g, 0, none⟩ 1 1 [.slice dA dn dc] hx rfl ?_ ?_ ?_ (by omega) hbase ?_
  · intro j v hj
    match j, hj with
    | 0, hj => simp at hj; subst hj; simpa [Addr.add] using hcell
    | j + 1, hj => simp at hj
  · intro v hv; simp at hv; subst hv; rfl
  · unfold maxLen; omega
  · intro v' w' hown' hg _
    rcases hown'.2 with ⟨rfl, h0⟩ | ⟨g', cap, cur, rfl, hb', hg', hnc, _⟩
    · omega
    · refine h (some ⟨g', 0, none⟩) cap w' ⟨by simp [hss.lv], by simp [hss.lx], fun _ => ⟨g', 0, rfl, (Array.getElem?_eq_some_iff.1 hg').1, fun j hj => ?_⟩, fun j hj => ?_, fun j hj => ?_, fun j hj => ?_⟩ hg
      · rw [Nat.zero_add, hown'.cellAt j (by omega)]
        by_cases e : j < n
        · rw [List.getElem?_append_left (by rw [List.length_map, hss.lv]; exact e), List.getElem?_map, getD_app _ _ _ _ (by rw [hss.lv]; exact e), List.getD_eq_getElem?_getD, List.getElem?_eq_getElem (by rw [hss.lv]; exact e)]; rfl
        · obtain rfl : j = n := by omega
          rw [List.getElem?_append_right (by rw [List.length_map, hss.lv]; exact Nat.le_refl _), List.length_map, hss.lv, Nat.sub_self, getD_snoc _ _ _ _ hss.lv.symm]; rfl
      · by_cases e : j < n
        · rw [getD_app _ _ _ _ (by rw [hss.lv]; exact e), getD_app _ _ _ _ (by rw [hss.lx]; exact e)]
          exact ((hss.row j e).kept hg (apart_types (hss.row j e) hss.own)).ri_
        · obtain rfl : j = n := by omega
          rw [getD_snoc _ _ _ _ hss.lv.symm, getD_snoc _ _ _ _ hss.lx.symm]
          intro hp
          obtain ⟨b, off, e1, h1, h2, hc⟩ := hys.2.2 (by rw [← hys.1]; exact hp)
          refine ⟨b, off, e1, Nat.lt_of_lt_of_le h2 hg.size, fun t ht => (World.cell?_of_block (a := ⟨b, off + t, none⟩) (hg.block b h2 fun e2 => ?_)).trans (hc t (by rw [← hys.1]; exact ht))⟩
          have := hlo b e2.symm
          omega
      · by_cases e : j < n
        · rw [getD_app _ _ _ _ (by rw [hss.lx]; exact e), getD_app _ _ _ _ (by rw [hss.lv]; exact e)]; exact (hss.row j e).1
        · obtain rfl : j = n := by omega
          rw [getD_snoc _ _ _ _ hss.lx.symm, getD_snoc _ _ _ _ hss.lv.symm]; exact hys.1
      · by_cases e : j < n
        · rw [getD_app _ _ _ _ (by rw [hss.lv]; exact e)]; exact (hss.row j e).le.1
        · obtain rfl : j = n := by omega
          rw [getD_snoc _ _ _ _ hss.lv.symm]; exact hys.2.1
end
theorem wrap_pos2 (k : Nat) (h : k ≤ 1000) : IntKind.i64.wrap ((k : Int) + 1) = (k : Int) + 1 := by rw [IntKind.wrap_i64]; omega
theorem grown_new2 {a b c : World} {g : Nat} {row : Option Nat} (h : a.grownBy b (some g)) (h2 : b.grownBy c row) (hr : ∀ j, row = some j → a.heap.size ≤ j) : a.grownBy c (some g) :=
  ⟨h2.os.trans h.os, h2.tape.trans h.tape, h2.output.trans h.output, Nat.le_trans h.size h2.size, fun i hi hne => (h2.block i (Nat.lt_of_lt_of_le hi h.size) (fun e => by have := hr _ e.symm; omega)).trans (h.block i hi hne)⟩
theorem Src.gro2 {g : Nat} {row : Option Nat} {w w' : World} (h : Src w g) (hb : w.grownBy w' row) (hg : ∀ r, row = some r → g < r) : Src w' g := by
  obtain ⟨A, len, cap, k, x, h1, h2, h3, h4⟩ := h
  refine ⟨A, len, cap, k, x, h1, h2, h3.keep fun p hp => World.cell?_of_block (hb.block p.block (by have := h4.lt; omega) (fun e => by have := hg _ e.symm; omega)), h4.grown hb (fun e => by have := hg _ e.symm; omega)⟩

set_option maxHeartbeats 4000000 in
set_option maxRecDepth 100000 in
/-- drawGenerators. -/
theorem drawGens (g n : Nat) (w : World) (hs : Src w g) (h1 : 1 ≤ n) (hn : n ≤ 20) :
    Calls Try.prog 120 #[.pointer (some ⟨g, 0, none⟩), .int .i64 (n : Int)] w fun e w' => ∃ A m c us xss, e = .returned (.slice A m c) ∧ SS w' w.heap.size w.heap.size A m c us xss ∧ (∀ i, i < m → (us.getD i sd0).2.1 = n) ∧ m ≤ 3 ∧ Src w' g ∧ w.grownBy w' (some g) := by
  have hg := hs.lt
  have Sr0 : Hid (Src (w.alloc (.cells #[] 48)) g) := Lib.hid (hs.below ((Below.refl w.heap.size w).alloc (Nat.le_refl _) _) hg)
  have Ss0 := Lib.hid (SS.lit0 w w.heap.size w.heap.size (Nat.le_refl _))
  have G0 : Hid (w.grownBy (w.alloc (.cells #[] 48)) (some g)) := Lib.hid (grown_alloc2 (grown_refl _ _) _)
  clear hs
  go_enter Try.func120, Try.ntmps120
  go_wp2_with fail
  refine (srcBelow g _ 3 _ Sr0.out rfl (by omega) (by omega)).mono ?_
  rintro e w1 ⟨r, hr, rfl, s1, g1⟩
  have Sr1 := Lib.hid s1
  have Ss1 : Hid (SS w1 w.heap.size w.heap.size (some ⟨w.heap.size, 0, none⟩) 0 0 [] []) := Lib.hid (Ss0.out.farR (lo := w.heap.size) (hi := w.heap.size + 1) g1 (fun k e => by simp [Value.ownBlock] at e; omega) (fun i hi => absurd hi (by omega)) (.inl hg))
  have G1 : Hid (w.grownBy w1 (some g)) := Lib.hid (grown_trans' G0.out g1)
  have wr1 : IntKind.i64.wrap (1 + (r : Int)) = ((r + 1 : Nat) : Int) := by rw [IntKind.wrap_i64]; omega
  clear s1 g1 Sr0 Ss0 G0
  go_wp2_with fail
  go_loopg [5, 6] 4 (fun gg v kk wr => ∃ (k : Nat) (A : Option Addr) (m c : Nat) (us : List SV) (xss : List (List Int)), m + k ≤ 3 ∧ k ≤ gg ∧ kk = .int .i64 (k : Nat) ∧ v = .slice A m c ∧ SS wr w.heap.size w.heap.size A m c us xss ∧ (∀ i, i < m → (us.getD i sd0).2.1 = n) ∧ Src wr g ∧ w.grownBy wr (some g))
  case atStart => exact ⟨r + 1, _, 0, _, [], [], by omega, by omega, rfl, rfl, Ss1.out, fun i hi => absurd hi (by omega), Sr1.out, G1.out⟩
  case round =>
    clear Sr1 Ss1 G1 wr1
    obtain ⟨k0, A, m, c, us, xss, hmk, hgk, rfl, rfl, ss, ln, sr, gr⟩ := hrel
    have Ss := Lib.hid ss
    have Ln := Lib.hid ln
    have Sr := Lib.hid sr
    have Gr := Lib.hid gr
    have hwz : w.heap.size ≤ wr.heap.size := gr.size
    clear ss ln sr gr
    by_cases hk0 : 0 < k0
    · obtain ⟨k, rfl⟩ : ∃ k, k0 = k + 1 := ⟨k0 - 1, by omega⟩
      have wk : IntKind.i64.wrap (((k + 1 : Nat) : Int) - 1) = (k : Int) := by rw [IntKind.wrap_i64]; omega
      have LA : Hid (∀ j, (Value.slice A m c).ownBlock = some j → w.heap.size ≤ j ∧ j < wr.heap.size) := Lib.hid Ss.out.lt_
      have LI : Hid (∀ t, t < m → ∀ j, (sval (us.getD t sd0)).ownBlock = some j → w.heap.size ≤ j ∧ j < wr.heap.size) := Lib.hid fun t ht => (Ss.out.row t ht).lt_
      go_wp2_with fail
      refine (specIdent n wr (by omega)).mono ?_
      rintro e w2 ⟨A1, c1, rfl, s2, b2⟩
      have Sr2 := Lib.hid (Sr.out.below b2 Sr.out.lt)
      have Ss2 := Lib.hid (Ss.out.up b2)
      have G2 : Hid (w.grownBy w2 (some g)) := Lib.hid (grown_below2 Gr.out b2)
      rcases Slc.at_ s2 with ⟨_, _, e0, _⟩ | ⟨q, rfl, hq1, hq2⟩
      · omega
      have Sl2 := Lib.hid s2
      have hz2 := b2.size
      clear s2 b2
      go_wp2_with fail
      refine (srcBelow g _ 4 w2 Sr2.out rfl (by omega) (by omega)).mono ?_
      rintro e w3 ⟨r3, hr3, rfl, s3, g3⟩
      have Sr3 := Lib.hid s3
      have Ss3 := Lib.hid (Ss2.out.farR g3 LA.out LI.out (.inl hg))
      have Sl3 : Hid (Slc w3 wr.heap.size (some ⟨q, 0, none⟩) n c1 (idL n)) := Lib.hid (Sl2.out.kept g3 (.inr (by simp [Value.ownBlock]; omega)))
      have G3 : Hid (w.grownBy w3 (some g)) := Lib.hid (grown_trans' G2.out g3)
      have hz3 := g3.size
      clear s3 g3
      obtain rfl | rfl | hr23 : r3 = 0 ∨ r3 = 1 ∨ (r3 = 2 ∨ r3 = 3) := by omega
      · clear Sl3 Sl2 hq1 hq2
        go_wp2_with fail
        refine (drawPermK g n _ w3 Sr3.out rfl (by omega)).mono ?_
        rintro e w4 ⟨q, c1, ys, rfl, s4, r4, g4⟩
        have Sr4 := Lib.hid r4
        have Ss4 := Lib.hid (Ss3.out.farR g4 LA.out LI.out (.inl hg))
        have hq1 : wr.heap.size ≤ q := by have := (s4.lt_ q rfl).1; omega
        have Sl4 : Hid (Slc w4 w.heap.size (some ⟨q, 0, none⟩) n c1 ys) := Lib.hid (s4.mono (by omega))
        have G4 : Hid (w.grownBy w4 (some g)) := Lib.hid (grown_trans' G3.out g4)
        clear s4 r4 g4
        have D5 := Lib.hid (show ∀ t, t < m → (sval (us.getD t sd0)).ownBlock = none ∨ (sval (us.getD t sd0)).ownBlock ≠ (Value.slice (some ⟨q, 0, none⟩) n c1).ownBlock from fun t ht => by
          rcases e9 : (sval (us.getD t sd0)).ownBlock with _ | z
          · exact .inl rfl
          · exact .inr fun e8 => by have := (LI.out t ht z e9).2; simp [Value.ownBlock] at e8; omega)
        have hzT : w.heap.size ≤ w4.heap.size := G4.out.size
        go_wp2_with (first
          | (at_builtin
             refine wpList_app2 rfl _ _ rfl rfl (Ss4.out.alloc _) w4.heap.size (some ⟨q, 0, none⟩) n c1 ys rfl (by rw [World.cell?_alloc_at _ _ _ _ rfl]; rfl) ((Sl4.out).alloc _) D5.out (by omega) (by simp; omega) ?_
             intro A7 c7 w7 ss7 g7))
        have S7 : Hid (SS w7 w.heap.size w.heap.size A7 (m + 1) c7 (us ++ [(some ⟨q, 0, none⟩, n, c1)]) (xss ++ [ys])) := Lib.hid ss7
        have Sr7 : Hid (Src w7 g) := Lib.hid ((Sr4.out.below ((Below.refl w4.heap.size w4).alloc (Nat.le_refl _) (.cells #[.slice (some ⟨q, 0, none⟩) n c1] 48)) Sr4.out.lt).gro2 g7 (fun j hj => by have := (Ss4.out.lt_ j hj).1; omega))
        have G7 : Hid (w.grownBy w7 (some g)) := Lib.hid (grown_new2 (grown_alloc2 G4.out (.cells #[.slice (some ⟨q, 0, none⟩) n c1] 48)) g7 (fun j hj => (Ss4.out.lt_ j hj).1))
        have Ln7 : Hid (∀ i, i < m + 1 → ((us ++ [((some ⟨q, 0, none⟩, n, c1) : SV)]).getD i sd0).2.1 = n) := Lib.hid fun i hi => by
          by_cases e9 : i < m
          · rw [getD_app _ _ _ _ (by rw [Ss4.out.lv]; exact e9)]; exact Ln.out i e9
          · rw [getD_snoc _ _ _ _ (by rw [Ss4.out.lv]; omega)]
        clear ss7 g7
        go_wp2_with fail
        go_roundg k
        case rel => exact ⟨k, A7, m + 1, c7, _, _, by omega, by omega, by go_num, rfl, S7.out, Ln7.out, Sr7.out, G7.out⟩
        case measure => omega
      · have row3 : Hid (Row w3 wr.heap.size q n c1 (idL n)) := Lib.hid (Row.of_own (by have h2 := Sl3.out.2; rw [← Sl3.out.1] at h2 ⊢; exact h2))
        go_wp2_with fail
        obtain ⟨wl, rfl⟩ : ∃ wl, wl = wr := ⟨_, rfl⟩
        go_loopg [8] n (fun gg iv wr2 => ∃ (i : Nat) (ys : List Int), i ≤ n ∧ n - i ≤ gg ∧ iv = .int .i64 (i : Nat) ∧ Row wr2 wl.heap.size q n c1 ys ∧ SS wr2 w.heap.size w.heap.size A m c us xss ∧ Src wr2 g ∧ w.grownBy wr2 (some g))
        case atStart => exact ⟨0, _, Nat.zero_le _, by omega, rfl, row3.out, Ss3.out, Sr3.out, G3.out⟩
        case round =>
          obtain ⟨i, ys, hi, hgi, rfl, row, ss5, sr5, g5⟩ := hrel
          have Ro := Lib.hid row
          have Ss5 := Lib.hid ss5
          have Sr5 := Lib.hid sr5
          have G5 := Lib.hid g5
          clear row ss5 sr5 g5
          by_cases hil : i < n
          · have c5 := Ro.out.cell hil
            have f5 := Ro.out.free i
            obtain ⟨u, hu⟩ : ∃ u, ((i : Int) + 1).tmod (n : Int) = u := ⟨_, rfl⟩
            have wi := wrap_pos2 i (by omega)
            have hn0 : ¬ ((n : Int) = 0) := by omega
            have p0 : (0 : Int) ≤ i := by omega
            have p1 : (i : Int) < n := by omega
            have Ro6 := Lib.hid (Ro.out.store i u)
            have Ss6 : Hid (SS (wr.setCell ⟨q, i, none⟩ (.int .i64 u)) w.heap.size w.heap.size A m c us xss) := Lib.hid (Ss5.out.farR (r := q) (grown_set (grown_refl _ _) _ _) LA.out LI.out (.inr hq1))
            have Sr6 : Hid (Src (wr.setCell ⟨q, i, none⟩ (.int .i64 u)) g) := Lib.hid (Sr5.out.gro (grown_set (grown_refl _ (some q)) i _) (by omega))
            have G6 : Hid (w.grownBy (wr.setCell ⟨q, i, none⟩ (.int .i64 u)) (some g)) := Lib.hid (grown_far G5.out (by omega) i _)
            obtain ⟨z5, hz5⟩ : ∃ z5, ys.getD i 0 = z5 := ⟨_, rfl⟩
            rw [hz5] at c5
            clear hz5
            go_wp2_with fail
            go_roundg (n - (i + 1))
            case rel => exact ⟨i + 1, _, by omega, by omega, by go_num, Ro6.out, Ss6.out, Sr6.out, G6.out⟩
            case measure => omega
          · have hin : i = n := by omega
            have Sl5 : Hid (Slc wr w.heap.size (some ⟨q, 0, none⟩) n c1 ys) := Lib.hid (Ro.out.slc.mono (by omega))
            clear hin
            have D5 := Lib.hid (show ∀ t, t < m → (sval (us.getD t sd0)).ownBlock = none ∨ (sval (us.getD t sd0)).ownBlock ≠ (Value.slice (some ⟨q, 0, none⟩) n c1).ownBlock from fun t ht => by
              rcases e9 : (sval (us.getD t sd0)).ownBlock with _ | z
              · exact .inl rfl
              · exact .inr fun e8 => by have := (LI.out t ht z e9).2; simp [Value.ownBlock] at e8; omega)
            have hzT : w.heap.size ≤ wr.heap.size := G5.out.size
            go_wp2_with (first
              | (at_builtin
                 refine wpList_app2 rfl _ _ rfl rfl (Ss5.out.alloc _) wr.heap.size (some ⟨q, 0, none⟩) n c1 ys rfl (by rw [World.cell?_alloc_at _ _ _ _ rfl]; rfl) ((Sl5.out).alloc _) D5.out (by omega) (by simp; omega) ?_
                 intro A7 c7 w7 ss7 g7))
            have S7 : Hid (SS w7 w.heap.size w.heap.size A7 (m + 1) c7 (us ++ [(some ⟨q, 0, none⟩, n, c1)]) (xss ++ [ys])) := Lib.hid ss7
            have Sr7 : Hid (Src w7 g) := Lib.hid ((Sr5.out.below ((Below.refl wr.heap.size wr).alloc (Nat.le_refl _) (.cells #[.slice (some ⟨q, 0, none⟩) n c1] 48)) Sr5.out.lt).gro2 g7 (fun j hj => by have := (Ss5.out.lt_ j hj).1; omega))
            have G7 : Hid (w.grownBy w7 (some g)) := Lib.hid (grown_new2 (grown_alloc2 G5.out (.cells #[.slice (some ⟨q, 0, none⟩) n c1] 48)) g7 (fun j hj => (Ss5.out.lt_ j hj).1))
            have Ln7 : Hid (∀ i, i < m + 1 → ((us ++ [((some ⟨q, 0, none⟩, n, c1) : SV)]).getD i sd0).2.1 = n) := Lib.hid fun i hi => by
              by_cases e9 : i < m
              · rw [getD_app _ _ _ _ (by rw [Ss5.out.lv]; exact e9)]; exact Ln.out i e9
              · rw [getD_snoc _ _ _ _ (by rw [Ss5.out.lv]; omega)]
            clear ss7 g7
            go_wp2_with fail
            go_roundg k
            case rel => exact ⟨k, A7, m + 1, c7, _, _, by omega, by omega, by go_num, rfl, S7.out, Ln7.out, Sr7.out, G7.out⟩
            case measure => omega
      · have d30 : ((r3 : Int) == 0) = false := by simp; omega
        have d31 : ((r3 : Int) == 1) = false := by simp; omega
        clear hr23 hr3
        go_wp2_with fail
        refine (srcBelow g _ n w3 Sr3.out rfl (by omega) (by omega)).mono ?_
        rintro e w4 ⟨x, hx, rfl, s4, g4⟩
        have Sr4 := Lib.hid s4
        have Ss4 := Lib.hid (Ss3.out.farR g4 LA.out LI.out (.inl hg))
        have Sl4 : Hid (Slc w4 wr.heap.size (some ⟨q, 0, none⟩) n c1 (idL n)) := Lib.hid (Sl3.out.kept g4 (.inr (by simp [Value.ownBlock]; omega)))
        have G4 : Hid (w.grownBy w4 (some g)) := Lib.hid (grown_trans' G3.out g4)
        clear s4 g4
        go_wp2_with fail
        refine (srcBelow g _ n w4 Sr4.out rfl (by omega) (by omega)).mono ?_
        rintro e w5 ⟨y, hy, rfl, s5, g5⟩
        have Sr5 := Lib.hid s5
        have Ss5 := Lib.hid (Ss4.out.farR g5 LA.out LI.out (.inl hg))
        have Sl5 : Hid (Slc w5 wr.heap.size (some ⟨q, 0, none⟩) n c1 (idL n)) := Lib.hid (Sl4.out.kept g5 (.inr (by simp [Value.ownBlock]; omega)))
        have G5 : Hid (w.grownBy w5 (some g)) := Lib.hid (grown_trans' G4.out g5)
        clear s5 g5
        have row5 : Row w5 wr.heap.size q n c1 (idL n) := Row.of_own (by have h2 := Sl5.out.2; rw [← Sl5.out.1] at h2 ⊢; exact h2)
        have c5 := row5.cell hx
        have f5 := row5.free x
        rw [idL_getD hx] at c5
        have row6 := row5.store x (y : Int)
        have c6 := row6.cell hy
        have f6 := row6.free y
        obtain ⟨z6, hz6⟩ : ∃ z6, ((idL n).set x (y : Int)).getD y 0 = z6 := ⟨_, rfl⟩
        rw [hz6] at c6
        have Ro7 := Lib.hid (row6.store y (x : Int))
        obtain ⟨w6, hw6⟩ : ∃ w6, w5.setCell ⟨q, x, none⟩ (.int .i64 (y : Int)) = w6 := ⟨_, rfl⟩
        have Ss6 : Hid (SS w6 w.heap.size w.heap.size A m c us xss) := Lib.hid (by rw [← hw6]; exact Ss5.out.farR (r := q) (grown_set (grown_refl _ _) _ _) LA.out LI.out (.inr hq1))
        have Sr6 : Hid (Src w6 g) := Lib.hid (by rw [← hw6]; exact Sr5.out.gro (grown_set (grown_refl _ (some q)) x _) (by omega))
        have G6 : Hid (w.grownBy w6 (some g)) := Lib.hid (by rw [← hw6]; exact grown_far G5.out (by omega) x _)
        have Ss8 : Hid (SS (w6.setCell ⟨q, y, none⟩ (.int .i64 (x : Int))) w.heap.size w.heap.size A m c us xss) := Lib.hid (Ss6.out.farR (r := q) (grown_set (grown_refl _ _) _ _) LA.out LI.out (.inr hq1))
        have Sr8 : Hid (Src (w6.setCell ⟨q, y, none⟩ (.int .i64 (x : Int))) g) := Lib.hid (Sr6.out.gro (grown_set (grown_refl _ (some q)) y _) (by omega))
        have G8 : Hid (w.grownBy (w6.setCell ⟨q, y, none⟩ (.int .i64 (x : Int))) (some g)) := Lib.hid (grown_far G6.out (by omega) y _)
        obtain ⟨w8, hw8⟩ : ∃ w8, w6.setCell ⟨q, y, none⟩ (.int .i64 (x : Int)) = w8 := ⟨_, rfl⟩
        rw [hw8] at Ss8 Sr8 G8
        rw [hw6] at c6 f6 Ro7
        rw [hw8] at Ro7
        have Sl8 : Hid (Slc w8 w.heap.size (some ⟨q, 0, none⟩) n c1 (((idL n).set x (y : Int)).set y (x : Int))) := Lib.hid (Ro7.out.slc.mono (by omega))
        have x0 : (0 : Int) ≤ x := by omega
        have x1 : (x : Int) < n := by omega
        have y0 : (0 : Int) ≤ y := by omega
        have y1 : (y : Int) < n := by omega
        clear row5 row6 hz6
        have D5 := Lib.hid (show ∀ t, t < m → (sval (us.getD t sd0)).ownBlock = none ∨ (sval (us.getD t sd0)).ownBlock ≠ (Value.slice (some ⟨q, 0, none⟩) n c1).ownBlock from fun t ht => by
          rcases e9 : (sval (us.getD t sd0)).ownBlock with _ | z
          · exact .inl rfl
          · exact .inr fun e8 => by have := (LI.out t ht z e9).2; simp [Value.ownBlock] at e8; omega)
        have hzT : w.heap.size ≤ w8.heap.size := G8.out.size
        go_wp2_with (first
          | (at_builtin
             refine wpList_app2 rfl _ _ rfl rfl (Ss8.out.alloc _) w8.heap.size (some ⟨q, 0, none⟩) n c1 (((idL n).set x (y : Int)).set y (x : Int)) rfl (by rw [World.cell?_alloc_at _ _ _ _ rfl]; rfl) ((Sl8.out).alloc _) D5.out (by omega) (by simp; omega) ?_
             intro A7 c7 w7 ss7 g7))
        have S7 : Hid (SS w7 w.heap.size w.heap.size A7 (m + 1) c7 (us ++ [(some ⟨q, 0, none⟩, n, c1)]) (xss ++ [(((idL n).set x (y : Int)).set y (x : Int))])) := Lib.hid ss7
        have Sr7 : Hid (Src w7 g) := Lib.hid ((Sr8.out.below ((Below.refl w8.heap.size w8).alloc (Nat.le_refl _) (.cells #[.slice (some ⟨q, 0, none⟩) n c1] 48)) Sr8.out.lt).gro2 g7 (fun j hj => by have := (Ss8.out.lt_ j hj).1; omega))
        have G7 : Hid (w.grownBy w7 (some g)) := Lib.hid (grown_new2 (grown_alloc2 G8.out (.cells #[.slice (some ⟨q, 0, none⟩) n c1] 48)) g7 (fun j hj => (Ss8.out.lt_ j hj).1))
        have Ln7 : Hid (∀ i, i < m + 1 → ((us ++ [((some ⟨q, 0, none⟩, n, c1) : SV)]).getD i sd0).2.1 = n) := Lib.hid fun i hi => by
          by_cases e9 : i < m
          · rw [getD_app _ _ _ _ (by rw [Ss8.out.lv]; exact e9)]; exact Ln.out i e9
          · rw [getD_snoc _ _ _ _ (by rw [Ss8.out.lv]; omega)]
        clear ss7 g7
        go_wp2_with fail
        go_roundg k
        case rel => exact ⟨k, A7, m + 1, c7, _, _, by omega, by omega, by go_num, rfl, S7.out, Ln7.out, Sr7.out, G7.out⟩
        case measure => omega
    · have hk00 : k0 = 0 := by omega
      subst hk00
      go_wp2_with fail
      go_ret
      exact ⟨_, _, _, _, _, rfl, Ss.out, Ln.out, by omega, Sr.out, Gr.out⟩

theorem SS.lens_le {w : World} {bo bi n c : Nat} {A : Option Addr} {us : List SV} {xss : List (List Int)} (_h : SS w bo bi A n c us xss) {N : Nat} (hl : ∀ i, i < n → (us.getD i sd0).2.1 = N) (hN : N ≤ 21) : ∀ i, i < n → (us.getD i sd0).2.1 ≤ 21 := fun i hi => by rw [hl i hi]; exact hN

set_option maxHeartbeats 4000000 in
set_option maxRecDepth 100000 in
/-- drawGroup. -/
theorem drawGroupT (g : Nat) (w : World) (hs : Src w g) :
    Calls Try.prog 103 #[.pointer (some ⟨g, 0, none⟩)] w fun e w' => ∃ (z : Int) (A : Option Addr) (m c : Nat) (vs : List SV) (xss : List (List Int)), e = .returned (.tuple #[.int .i64 z, .slice A m c]) ∧ B64 z ∧ RR w' w'.heap.size A m vs xss ∧ m ≤ 9 ∧ (∀ i, i < m → (vs.getD i sd0).2.1 ≤ 21) ∧ Src w' g ∧ w.grownBy w' (some g) := by
  have hg := hs.lt
  go_enter Try.func103, Try.ntmps103
  go_wp2_with fail
  refine (srcBetween g 2 5 w hs (by omega) (by omega)).mono ?_
  rintro e w1 ⟨n1, h11, h12, rfl, s1, g1⟩
  have Sr1 := Lib.hid s1
  have G1 := Lib.hid g1
  clear s1 g1 hs
  go_wp2_with fail
  refine (srcOne g _ 6 w1 Sr1.out rfl (by omega) (by omega)).mono ?_
  rintro e w2 ⟨b, rfl, s2, g2⟩
  have Sr2 := Lib.hid s2
  have G2 : Hid (w.grownBy w2 (some g)) := Lib.hid (grown_trans' G1.out g2)
  clear s2 g2
  go_upto_if 9 with fail
  go_cut [4] from 6 to 48 (fun nn wx => ∃ n : Nat, 1 ≤ n ∧ n ≤ 7 ∧ nn = .int .i64 (n : Nat) ∧ Src wx g ∧ w.grownBy wx (some g))
  case first =>
    cases b
    · go_wp2_with fail
      go_meet
      exact ⟨n1, by omega, by omega, rfl, Sr2.out, G2.out⟩
    · go_wp2_with fail
      refine (srcBetween g 1 7 w2 Sr2.out (by omega) (by omega)).mono ?_
      rintro e w3 ⟨n3, h31, h32, rfl, s3, g3⟩
      have Sr3 := Lib.hid s3
      have G3 : Hid (w.grownBy w3 (some g)) := Lib.hid (grown_trans' G2.out g3)
      clear s3 g3
      go_wp2_with fail
      go_meet
      exact ⟨n3, by omega, by omega, rfl, Sr3.out, G3.out⟩
  case rest =>
    obtain ⟨n, hn1, hn7, rfl, src, grc⟩ := hcut
    have Sr3 := Lib.hid src
    have G3 := Lib.hid grc
    clear src grc Sr2 G2 Sr1 G1
    go_wp2_with fail
    refine (drawGens g n wc Sr3.out hn1 (by omega)).mono ?_
    rintro e w4 ⟨A, m, c, us, xss, rfl, ss4, ln4, hm4, s4, g4⟩
    have Ss4 := Lib.hid ss4
    have Ln4 := Lib.hid ln4
    have Sr4 := Lib.hid s4
    have G4 : Hid (w.grownBy w4 (some g)) := Lib.hid (grown_trans' G3.out g4)
    have hgc : g < wc.heap.size := Sr3.out.lt
    have hz4 := G4.out.size
    have LA : Hid (∀ j, (Value.slice A m c).ownBlock = some j → wc.heap.size ≤ j ∧ j < w4.heap.size) := Lib.hid ss4.lt_
    have LI : Hid (∀ t, t < m → ∀ j, (sval (us.getD t sd0)).ownBlock = some j → wc.heap.size ≤ j ∧ j < w4.heap.size) := Lib.hid fun t ht => (ss4.row t ht).lt_
    have hzc4 := g4.size
    clear ss4 ln4 s4 g4
    go_wp2_with fail
    refine (srcOne g _ 20 w4 Sr4.out rfl (by omega) (by omega)).mono ?_
    rintro e w5 ⟨b5, rfl, s5, g5⟩
    have Sr5 := Lib.hid s5
    have Ss5 := Lib.hid (Ss4.out.farR g5 LA.out LI.out (.inl hgc))
    have G5 : Hid (w.grownBy w5 (some g)) := Lib.hid (grown_trans' G4.out g5)
    have hz5 := g5.size
    clear s5 g5
    cases b5
    · go_wp2_with fail
      go_ret2
      exact ⟨_, _, _, _, us, xss, rfl, by unfold B64; omega, Ss5.out.rr, by omega, Ss5.out.lens_le Ln4.out (by omega), Sr5.out, G5.out⟩
    · go_wp2_with fail
      refine (srcBelow g _ 4 w5 Sr5.out rfl (by omega) (by omega)).mono ?_
      rintro e w6 ⟨r6, hr6, rfl, s6, g6⟩
      have Sr6 := Lib.hid s6
      have Ss6 := Lib.hid (Ss5.out.farR g6 LA.out LI.out (.inl hgc))
      have G6 : Hid (w.grownBy w6 (some g)) := Lib.hid (grown_trans' G5.out g6)
      have hz6 := g6.size
      clear s6 g6
      obtain rfl | rfl | rfl | rfl : r6 = 0 ∨ r6 = 1 ∨ r6 = 2 ∨ r6 = 3 := by omega
      · go_wp2_with fail
        refine (srcNumberB g 20 w6 Sr6.out (by omega) (by omega)).mono ?_
        rintro e w7 ⟨z7, rfl, hB7, s7, g7⟩
        have Sr7 := Lib.hid s7
        have Ss7 := Lib.hid (Ss6.out.farR g7 LA.out LI.out (.inl hgc))
        have G7 : Hid (w.grownBy w7 (some g)) := Lib.hid (grown_trans' G6.out g7)
        have HB7 := Lib.hid hB7
        clear s7 g7 hB7
        go_wp2_with fail
        go_ret2
        exact ⟨_, _, _, _, us, xss, rfl, HB7.out, Ss7.out.rr, by omega, Ss7.out.lens_le Ln4.out (by omega), Sr7.out, G7.out⟩
      · go_wp2_with fail
        refine (drawAny g n w6 Sr6.out (by omega) (by omega)).mono ?_
        rintro e w7 ⟨A7, m7, c7, ys, rfl, p7, hm7, s7, g7⟩
        have Sr7 := Lib.hid s7
        have Ss7 := Lib.hid (Ss6.out.farR g7 LA.out LI.out (.inl hgc))
        have G7 : Hid (w.grownBy w7 (some g)) := Lib.hid (grown_trans' G6.out g7)
        have P7 : Hid (Pm (w7.alloc (.cells #[.slice A7 m7 c7] 48)) w6.heap.size A7 m7 c7 ys) := Lib.hid (p7.up ((Below.refl w7.heap.size w7).alloc (Nat.le_refl _) _))
        have hz7 := G7.out.size
        have hz67 := g7.size
        have hlt7 : Hid (∀ j, (Value.slice A m c).ownBlock = some j → j < w6.heap.size) := Lib.hid fun j hj => by have := (LA.out j hj).2; omega
        clear s7 g7 p7
        go_wp2_with (first
          | (at_builtin
             refine wpList_app2R rfl _ _ rfl rfl (Ss7.out.alloc _) w7.heap.size A7 m7 c7 w6.heap.size ys rfl (by rw [World.cell?_alloc_at _ _ _ _ rfl]; rfl) P7.out hlt7.out (by omega) (by simp; omega) ?_
             intro A8 c8 w8 rr8 g8))
        have R8 := Lib.hid rr8
        have Sr8 : Hid (Src w8 g) := Lib.hid ((Sr7.out.below ((Below.refl w7.heap.size w7).alloc (Nat.le_refl _) (.cells #[.slice A7 m7 c7] 48)) Sr7.out.lt).gro2 g8 (fun j hj => by have := (LA.out j hj).1; omega))
        have G8 : Hid (w.grownBy w8 (some g)) := Lib.hid (grown_new2 (grown_alloc2 G7.out (.cells #[.slice A7 m7 c7] 48)) g8 (fun j hj => by have := (LA.out j hj).1; have := G3.out.size; omega))
        have Ln8 : Hid (∀ i, i < m + 1 → ((us ++ [((A7, m7, c7) : SV)]).getD i sd0).2.1 ≤ 21) := Lib.hid fun i hi => by
          by_cases e9 : i < m
          · rw [getD_app _ _ _ _ (by rw [Ss7.out.lv]; exact e9), Ln4.out i e9]; omega
          · rw [getD_snoc _ _ _ _ (by rw [Ss7.out.lv]; omega)]; exact hm7
        clear rr8 g8
        go_wp2_with fail
        go_ret2
        exact ⟨_, _, _, _, _, _, rfl, by unfold B64; omega, R8.out, by omega, Ln8.out, Sr8.out, G8.out⟩
      · have hw6 := G6.out.size
        have Sr7 : Hid (Src (w6.alloc (.cells #[] 48)) g) := Lib.hid (Sr6.out.below ((Below.refl w6.heap.size w6).alloc (Nat.le_refl _) _) Sr6.out.lt)
        have G7 : Hid (w.grownBy (w6.alloc (.cells #[] 48)) (some g)) := Lib.hid (grown_alloc2 G6.out _)
        go_wp2_with fail
        go_ret2
        exact ⟨_, _, 0, _, [], [], rfl, by unfold B64; omega, RR.nil_, by omega, fun i hi => absurd hi (by omega), Sr7.out, G7.out⟩
      · go_wp2_with fail
        go_loopg [5] 10 (fun gg v wr => ∃ (A : Option Addr) (m c : Nat) (us : List SV) (xss : List (List Int)), m ≤ 9 ∧ 9 - m ≤ gg ∧ v = .slice A m c ∧ SS wr wc.heap.size wc.heap.size A m c us xss ∧ (∀ i, i < m → (us.getD i sd0).2.1 = n) ∧ Src wr g ∧ w.grownBy wr (some g) ∧ wc.heap.size ≤ wr.heap.size)
        case atStart => exact ⟨_, m, _, _, _, by omega, by omega, rfl, Ss6.out, Ln4.out, Sr6.out, G6.out, by omega⟩
        case round =>
          clear LA LI Ss4 Ss5 Ss6
          obtain ⟨A, m, c, us, xss, hm9, hgm, rfl, ss, ln, sr, gr, hzc⟩ := hrel
          have Ss := Lib.hid ss
          have Ln := Lib.hid ln
          have Sr := Lib.hid sr
          have Gr := Lib.hid gr
          have LA : Hid (∀ j, (Value.slice A m c).ownBlock = some j → wc.heap.size ≤ j ∧ j < wr.heap.size) := Lib.hid ss.lt_
          have LI : Hid (∀ t, t < m → ∀ j, (sval (us.getD t sd0)).ownBlock = some j → wc.heap.size ≤ j ∧ j < wr.heap.size) := Lib.hid fun t ht => (ss.row t ht).lt_
          clear ss ln sr gr
          go_wp2_with fail
          refine (srcBelow g _ 2 wr Sr.out rfl (by omega) (by omega)).mono ?_
          rintro e w7 ⟨r7, hr7, rfl, s7, g7⟩
          have Sr7 := Lib.hid s7
          have Ss7 := Lib.hid (Ss.out.farR g7 LA.out LI.out (.inl hgc))
          have G7 : Hid (w.grownBy w7 (some g)) := Lib.hid (grown_trans' Gr.out g7)
          have hz7 := g7.size
          have w88 : IntKind.i64.wrap (8 + (r7 : Int)) = 8 + (r7 : Int) := by rw [IntKind.wrap_i64]; omega
          have w89 : IntKind.i64.wrap (r7 : Int) = (r7 : Int) := by rw [IntKind.wrap_i64]; omega
          clear s7 g7
          by_cases hlt : (m : Int) < 8 + (r7 : Int)
          · have d7 : decide ((m : Int) < 8 + (r7 : Int)) = true := decide_eq_true hlt
            have hm8 : m ≤ 8 := by omega
            go_wp2_with fail
            refine (specIdent n w7 (by omega)).mono ?_
            rintro e w8 ⟨A8, c8, rfl, s8, b8⟩
            have Sr8 := Lib.hid (Sr7.out.below b8 Sr7.out.lt)
            have Ss8 := Lib.hid (Ss7.out.up b8)
            have G8 : Hid (w.grownBy w8 (some g)) := Lib.hid (grown_below2 G7.out b8)
            have D8 := Lib.hid (lies_dis Ss7.out s8.lies (Nat.le_refl _))
            have hz8 := b8.size
            have Sl8 := Lib.hid (s8.mono (show wc.heap.size ≤ w7.heap.size by omega))
            clear s8 b8
            go_wp2_with (first
              | (at_builtin
                 refine wpList_app2 rfl _ _ rfl rfl (Ss8.out.alloc _) w8.heap.size A8 n c8 (idL n) rfl (by rw [World.cell?_alloc_at _ _ _ _ rfl]; rfl) (Sl8.out.alloc _) D8.out (by omega) (by simp; omega) ?_
                 intro A9 c9 w9 ss9 g9))
            have Ss9 : Hid (SS w9 wc.heap.size wc.heap.size A9 (m + 1) c9 (us ++ [(A8, n, c8)]) (xss ++ [idL n])) := Lib.hid ss9
            have Sr9 : Hid (Src w9 g) := Lib.hid ((Sr8.out.below ((Below.refl w8.heap.size w8).alloc (Nat.le_refl _) (.cells #[.slice A8 n c8] 48)) Sr8.out.lt).gro2 g9 (fun j hj => by have := (LA.out j hj).1; omega))
            have G9 : Hid (w.grownBy w9 (some g)) := Lib.hid (grown_new2 (grown_alloc2 G8.out (.cells #[.slice A8 n c8] 48)) g9 (fun j hj => by have := (LA.out j hj).1; have := G3.out.size; omega))
            have hz9 : wc.heap.size ≤ w9.heap.size := by have := g9.size; simp at this; omega
            have Ln9 : Hid (∀ i, i < m + 1 → ((us ++ [((A8, n, c8) : SV)]).getD i sd0).2.1 = n) := Lib.hid fun i hi => by
              by_cases e9 : i < m
              · rw [getD_app _ _ _ _ (by rw [Ss8.out.lv]; exact e9)]; exact Ln.out i e9
              · rw [getD_snoc _ _ _ _ (by rw [Ss8.out.lv]; omega)]
            clear ss9 g9
            go_wp2_with fail
            go_roundg (9 - (m + 1))
            case rel => exact ⟨A9, m + 1, c9, _, _, by omega, by omega, rfl, Ss9.out, Ln9.out, Sr9.out, G9.out, hz9⟩
            case measure => omega
          · have d7 : decide ((m : Int) < 8 + (r7 : Int)) = false := decide_eq_false hlt
            go_wp2_with fail
            go_ret2
            exact ⟨_, _, _, _, us, xss, rfl, by unfold B64; omega, Ss7.out.rr, by omega, Ss7.out.lens_le Ln.out (by omega), Sr7.out, G7.out⟩
end Go.Proofs.Ytedfcljikgmpgaa

/- A draw of a group, with where its slices lie. Condition: at most 4096 bytes. -/
namespace Go.Proofs.Ytedfcljikgmpgaa
open Go.RowKit

/-- Slices of numbers that can be read, all in blocks from lo on. -/
structure RX (w : World) (lo : Nat) (A : Option Addr) (n : Nat) (vs : List SV) (xss : List (List Int)) : Prop where
  rr : RR w w.heap.size A n vs xss
  outer : 0 < n → ∀ b off, A = some ⟨b, off, none⟩ → lo ≤ b
  inner : ∀ j, j < n → ∀ b off, (vs.getD j sd0).1 = some ⟨b, off, none⟩ → 0 < (xss.getD j []).length → lo ≤ b
section
variable {w w' : World} {lo g n : Nat} {A : Option Addr} {vs : List SV} {xss : List (List Int)}
theorem RX.nil_ {c : Option Addr} : RX w lo c 0 [] [] := ⟨RR.nil_, fun h => absurd h (Nat.lt_irrefl _), fun j h => absurd h (Nat.not_lt_zero _)⟩
theorem RX.of_ss {bo bi c : Nat} (h : SS w bo bi A n c vs xss) (h1 : lo ≤ bo) (h2 : lo ≤ bi) : RX w lo A n vs xss :=
  ⟨h.rr, fun _ b off e => by have := (h.lt_ b (by subst e; rfl)).1; omega, fun j hj b off e _ => by have := ((h.row j hj).lt_ b (by rw [e]; rfl)).1; omega⟩
theorem RX.gro (h : RX w lo A n vs xss) (hg : w.grownBy w' (some g)) (hl : g < lo) : RX w' lo A n vs xss :=
  ⟨⟨h.rr.lv, h.rr.lx, fun hn => by
      obtain ⟨b, off, e, hb, hc⟩ := h.rr.cells hn
      have := h.outer hn b off e
      exact ⟨b, off, e, Nat.lt_of_lt_of_le hb hg.size, fun j hj => (World.cell?_of_block (a := ⟨b, off + j, none⟩) (hg.block b hb (by intro e2; injection e2 with e2; omega))).trans (hc j hj)⟩,
    fun j hj hp => by
      obtain ⟨b, off, e, hb, hc⟩ := h.rr.rows j hj hp
      have := h.inner j hj b off e hp
      exact ⟨b, off, e, Nat.lt_of_lt_of_le hb hg.size, fun t ht => (World.cell?_of_block (a := ⟨b, off + t, none⟩) (hg.block b hb (by intro e2; injection e2 with e2; omega))).trans (hc t ht)⟩, h.rr.lens, h.rr.caps⟩, h.outer, h.inner⟩
theorem RX.up (h : RX w lo A n vs xss) (hb : Below w.heap.size w w') : RX w' lo A n vs xss := ⟨h.rr.up hb, h.outer, h.inner⟩
end
section
variable {w w' : World} {base n c : Nat} {A : Option Addr} {vs : List SV} {xss : List (List Int)}
/-- A slice that can be read, appended onto a slice of slices of the call's own. -/
theorem wpList_app2X {ops : Array Oper} {rest : List Oper} {o : Oper} {a : Act} {Q : Exit → Act → World → Prop} (hgd : o.guard = none) (s x : Operand)
    (ho : o.op = .call { callee := .builtin .append, args := #[s, x], argTypes := #[22, 22] })
    (hs : a.eval s = .slice A n c) (hss : SS w base base A n c vs xss) (g : Nat) (dA : Option Addr) (dn dc lo : Nat) (ys : List Int) (hx : a.eval x = .slice (some ⟨g, 0, none⟩) 1 1)
    (hcell : w.cell? ⟨g, 0, none⟩ = some (.slice dA dn dc)) (hys : Pm w lo dA dn dc ys) (hlo : ∀ k, (Value.slice A n c).ownBlock = some k → k < lo) (hn : n ≤ 1000000000) (hbase : base ≤ w.heap.size) (l0 : Nat) (hl0 : l0 ≤ base) (hl1 : l0 ≤ lo)
    (h : ∀ A' c' w', RX w' l0 A' (n + 1) (vs ++ [(dA, dn, dc)]) (xss ++ [ys]) → w.grownBy w' (Value.slice A n c).ownBlock → wpList Try.prog ops Q rest (a.put o.dst (.slice A' (n + 1) c')) w') : wpList Try.prog ops Q (o :: rest) a w := by
  obtain ⟨i0, hi, hz0, hz1, hz2⟩ := info_parts infoS
  refine wpList_append_own (w := w) hgd s x 22 ho base 48 i0 (.slice none 0 0) 1 24 Try.underlying22 hi hz0 hz1 hz2 rfl (by decide) _ n _ hs hss.own ⟨g, 0, none⟩ 1 1 [.slice dA dn dc] hx rfl ?_ ?_ ?_ (by omega) hbase ?_
  · intro j v hj
    match j, hj with
    | 0, hj => simp at hj; subst hj; simpa [Addr.add] using hcell
    | j + 1, hj => simp at hj
  · intro v hv; simp at hv; subst hv; rfl
  · unfold maxLen; omega
  · intro v' w' hown' hg _
    rcases hown'.2 with ⟨rfl, h0⟩ | ⟨g', cap, cur, rfl, hb', hg', hnc, _⟩
    · omega
    · refine h (some ⟨g', 0, none⟩) cap w' ⟨⟨by simp [hss.lv], by simp [hss.lx], fun _ => ⟨g', 0, rfl, (Array.getElem?_eq_some_iff.1 hg').1, fun j hj => ?_⟩, fun j hj => ?_, fun j hj => ?_, fun j hj => ?_⟩, fun _ b off e => ?_, fun j hj b off e hp => ?_⟩ hg
      · rw [Nat.zero_add, hown'.cellAt j (by omega)]
        by_cases e : j < n
        · rw [List.getElem?_append_left (by rw [List.length_map, hss.lv]; exact e), List.getElem?_map, getD_app _ _ _ _ (by rw [hss.lv]; exact e), List.getD_eq_getElem?_getD, List.getElem?_eq_getElem (by rw [hss.lv]; exact e)]; rfl
        · obtain rfl : j = n := by omega
          rw [List.getElem?_append_right (by rw [List.length_map, hss.lv]; exact Nat.le_refl _), List.length_map, hss.lv, Nat.sub_self, getD_snoc _ _ _ _ hss.lv.symm]; rfl
      · by_cases e : j < n
        · rw [getD_app _ _ _ _ (by rw [hss.lv]; exact e), getD_app _ _ _ _ (by rw [hss.lx]; exact e)]
          exact ((hss.row j e).kept hg (apart_types (hss.row j e) hss.own)).ri_
        · obtain rfl : j = n := by omega
          rw [getD_snoc _ _ _ _ hss.lv.symm, getD_snoc _ _ _ _ hss.lx.symm]
          intro hp
          obtain ⟨b, off, e1, h1, h2, hc⟩ := hys.2.2 (by rw [← hys.1]; exact hp)
          refine ⟨b, off, e1, Nat.lt_of_lt_of_le h2 hg.size, fun t ht => (World.cell?_of_block (a := ⟨b, off + t, none⟩) (hg.block b h2 fun e2 => ?_)).trans (hc t (by rw [← hys.1]; exact ht))⟩
          have := hlo b e2.symm
          omega
      · by_cases e : j < n
        · rw [getD_app _ _ _ _ (by rw [hss.lx]; exact e), getD_app _ _ _ _ (by rw [hss.lv]; exact e)]; exact (hss.row j e).1
        · obtain rfl : j = n := by omega
          rw [getD_snoc _ _ _ _ hss.lx.symm, getD_snoc _ _ _ _ hss.lv.symm]; exact hys.1
      · by_cases e : j < n
        · rw [getD_app _ _ _ _ (by rw [hss.lv]; exact e)]; exact (hss.row j e).le.1
        · obtain rfl : j = n := by omega
          rw [getD_snoc _ _ _ _ hss.lv.symm]; exact hys.2.1
      · injection e with e; injection e with e; omega
      · by_cases e9 : j < n
        · rw [getD_app _ _ _ _ (by rw [hss.lv]; exact e9)] at e
          have := ((hss.row j e9).lt_ b (by rw [e]; rfl)).1
          omega
        · obtain rfl : j = n := by omega
          rw [getD_snoc _ _ _ _ hss.lv.symm] at e
          rw [getD_snoc _ _ _ _ hss.lx.symm] at hp
          obtain ⟨b2, off2, e1, h1, _⟩ := hys.2.2 (by rw [← hys.1]; exact hp)
          have e3 : (some ⟨b, off, none⟩ : Option Addr) = some ⟨b2, off2, none⟩ := e.symm.trans e1
          injection e3 with e3; injection e3 with e3; omega
end

set_option maxHeartbeats 4000000 in
set_option maxRecDepth 100000 in
/-- drawGroup. -/
theorem drawGroupX (g : Nat) (w : World) (hs : Src w g) :
    Calls Try.prog 103 #[.pointer (some ⟨g, 0, none⟩)] w fun e w' => ∃ (z : Int) (A : Option Addr) (m c : Nat) (vs : List SV) (xss : List (List Int)), e = .returned (.tuple #[.int .i64 z, .slice A m c]) ∧ B64 z ∧ RX w' w.heap.size A m vs xss ∧ m ≤ 9 ∧ (∀ i, i < m → (vs.getD i sd0).2.1 ≤ 21) ∧ Src w' g ∧ w.grownBy w' (some g) := by
  have hg := hs.lt
  go_enter Try.func103, Try.ntmps103
  go_wp2_with fail
  refine (srcBetween g 2 5 w hs (by omega) (by omega)).mono ?_
  rintro e w1 ⟨n1, h11, h12, rfl, s1, g1⟩
  have Sr1 := Lib.hid s1
  have G1 := Lib.hid g1
  clear s1 g1 hs
  go_wp2_with fail
  refine (srcOne g _ 6 w1 Sr1.out rfl (by omega) (by omega)).mono ?_
  rintro e w2 ⟨b, rfl, s2, g2⟩
  have Sr2 := Lib.hid s2
  have G2 : Hid (w.grownBy w2 (some g)) := Lib.hid (grown_trans' G1.out g2)
  clear s2 g2
  go_upto_if 9 with fail
  go_cut [4] from 6 to 48 (fun nn wx => ∃ n : Nat, 1 ≤ n ∧ n ≤ 7 ∧ nn = .int .i64 (n : Nat) ∧ Src wx g ∧ w.grownBy wx (some g))
  case first =>
    cases b
    · go_wp2_with fail
      go_meet
      exact ⟨n1, by omega, by omega, rfl, Sr2.out, G2.out⟩
    · go_wp2_with fail
      refine (srcBetween g 1 7 w2 Sr2.out (by omega) (by omega)).mono ?_
      rintro e w3 ⟨n3, h31, h32, rfl, s3, g3⟩
      have Sr3 := Lib.hid s3
      have G3 : Hid (w.grownBy w3 (some g)) := Lib.hid (grown_trans' G2.out g3)
      clear s3 g3
      go_wp2_with fail
      go_meet
      exact ⟨n3, by omega, by omega, rfl, Sr3.out, G3.out⟩
  case rest =>
    obtain ⟨n, hn1, hn7, rfl, src, grc⟩ := hcut
    have Sr3 := Lib.hid src
    have G3 := Lib.hid grc
    clear src grc Sr2 G2 Sr1 G1
    have hwc := G3.out.size
    go_wp2_with fail
    refine (drawGens g n wc Sr3.out hn1 (by omega)).mono ?_
    rintro e w4 ⟨A, m, c, us, xss, rfl, ss4, ln4, hm4, s4, g4⟩
    have Ss4 := Lib.hid ss4
    have Ln4 := Lib.hid ln4
    have Sr4 := Lib.hid s4
    have G4 : Hid (w.grownBy w4 (some g)) := Lib.hid (grown_trans' G3.out g4)
    have hgc : g < wc.heap.size := Sr3.out.lt
    have hz4 := G4.out.size
    have LA : Hid (∀ j, (Value.slice A m c).ownBlock = some j → wc.heap.size ≤ j ∧ j < w4.heap.size) := Lib.hid ss4.lt_
    have LI : Hid (∀ t, t < m → ∀ j, (sval (us.getD t sd0)).ownBlock = some j → wc.heap.size ≤ j ∧ j < w4.heap.size) := Lib.hid fun t ht => (ss4.row t ht).lt_
    have hzc4 := g4.size
    clear ss4 ln4 s4 g4
    go_wp2_with fail
    refine (srcOne g _ 20 w4 Sr4.out rfl (by omega) (by omega)).mono ?_
    rintro e w5 ⟨b5, rfl, s5, g5⟩
    have Sr5 := Lib.hid s5
    have Ss5 := Lib.hid (Ss4.out.farR g5 LA.out LI.out (.inl hgc))
    have G5 : Hid (w.grownBy w5 (some g)) := Lib.hid (grown_trans' G4.out g5)
    have hz5 := g5.size
    clear s5 g5
    cases b5
    · go_wp2_with fail
      go_ret2
      exact ⟨_, _, _, _, us, xss, rfl, by unfold B64; omega, (RX.of_ss Ss5.out (by omega) (by omega)), by omega, Ss5.out.lens_le Ln4.out (by omega), Sr5.out, G5.out⟩
    · go_wp2_with fail
      refine (srcBelow g _ 4 w5 Sr5.out rfl (by omega) (by omega)).mono ?_
      rintro e w6 ⟨r6, hr6, rfl, s6, g6⟩
      have Sr6 := Lib.hid s6
      have Ss6 := Lib.hid (Ss5.out.farR g6 LA.out LI.out (.inl hgc))
      have G6 : Hid (w.grownBy w6 (some g)) := Lib.hid (grown_trans' G5.out g6)
      have hz6 := g6.size
      clear s6 g6
      obtain rfl | rfl | rfl | rfl : r6 = 0 ∨ r6 = 1 ∨ r6 = 2 ∨ r6 = 3 := by omega
      · go_wp2_with fail
        refine (srcNumberB g 20 w6 Sr6.out (by omega) (by omega)).mono ?_
        rintro e w7 ⟨z7, rfl, hB7, s7, g7⟩
        have Sr7 := Lib.hid s7
        have Ss7 := Lib.hid (Ss6.out.farR g7 LA.out LI.out (.inl hgc))
        have G7 : Hid (w.grownBy w7 (some g)) := Lib.hid (grown_trans' G6.out g7)
        have HB7 := Lib.hid hB7
        clear s7 g7 hB7
        go_wp2_with fail
        go_ret2
        exact ⟨_, _, _, _, us, xss, rfl, HB7.out, (RX.of_ss Ss7.out (by omega) (by omega)), by omega, Ss7.out.lens_le Ln4.out (by omega), Sr7.out, G7.out⟩
      · go_wp2_with fail
        refine (drawAny g n w6 Sr6.out (by omega) (by omega)).mono ?_
        rintro e w7 ⟨A7, m7, c7, ys, rfl, p7, hm7, s7, g7⟩
        have Sr7 := Lib.hid s7
        have Ss7 := Lib.hid (Ss6.out.farR g7 LA.out LI.out (.inl hgc))
        have G7 : Hid (w.grownBy w7 (some g)) := Lib.hid (grown_trans' G6.out g7)
        have P7 : Hid (Pm (w7.alloc (.cells #[.slice A7 m7 c7] 48)) w6.heap.size A7 m7 c7 ys) := Lib.hid (p7.up ((Below.refl w7.heap.size w7).alloc (Nat.le_refl _) _))
        have hz7 := G7.out.size
        have hz67 := g7.size
        have hlt7 : Hid (∀ j, (Value.slice A m c).ownBlock = some j → j < w6.heap.size) := Lib.hid fun j hj => by have := (LA.out j hj).2; omega
        clear s7 g7 p7
        go_wp2_with (first
          | (at_builtin
             refine wpList_app2X rfl _ _ rfl rfl (Ss7.out.alloc _) w7.heap.size A7 m7 c7 w6.heap.size ys rfl (by rw [World.cell?_alloc_at _ _ _ _ rfl]; rfl) P7.out hlt7.out (by omega) (by simp; omega) w.heap.size (by omega) (by omega) ?_
             intro A8 c8 w8 rr8 g8))
        have R8 := Lib.hid rr8
        have Sr8 : Hid (Src w8 g) := Lib.hid ((Sr7.out.below ((Below.refl w7.heap.size w7).alloc (Nat.le_refl _) (.cells #[.slice A7 m7 c7] 48)) Sr7.out.lt).gro2 g8 (fun j hj => by have := (LA.out j hj).1; omega))
        have G8 : Hid (w.grownBy w8 (some g)) := Lib.hid (grown_new2 (grown_alloc2 G7.out (.cells #[.slice A7 m7 c7] 48)) g8 (fun j hj => by have := (LA.out j hj).1; have := G3.out.size; omega))
        have Ln8 : Hid (∀ i, i < m + 1 → ((us ++ [((A7, m7, c7) : SV)]).getD i sd0).2.1 ≤ 21) := Lib.hid fun i hi => by
          by_cases e9 : i < m
          · rw [getD_app _ _ _ _ (by rw [Ss7.out.lv]; exact e9), Ln4.out i e9]; omega
          · rw [getD_snoc _ _ _ _ (by rw [Ss7.out.lv]; omega)]; exact hm7
        clear rr8 g8
        go_wp2_with fail
        go_ret2
        exact ⟨_, _, _, _, _, _, rfl, by unfold B64; omega, R8.out, by omega, Ln8.out, Sr8.out, G8.out⟩
      · have hw6 := G6.out.size
        have Sr7 : Hid (Src (w6.alloc (.cells #[] 48)) g) := Lib.hid (Sr6.out.below ((Below.refl w6.heap.size w6).alloc (Nat.le_refl _) _) Sr6.out.lt)
        have G7 : Hid (w.grownBy (w6.alloc (.cells #[] 48)) (some g)) := Lib.hid (grown_alloc2 G6.out _)
        go_wp2_with fail
        go_ret2
        exact ⟨_, _, 0, _, [], [], rfl, by unfold B64; omega, RX.nil_, by omega, fun i hi => absurd hi (by omega), Sr7.out, G7.out⟩
      · go_wp2_with fail
        go_loopg [5] 10 (fun gg v wr => ∃ (A : Option Addr) (m c : Nat) (us : List SV) (xss : List (List Int)), m ≤ 9 ∧ 9 - m ≤ gg ∧ v = .slice A m c ∧ SS wr wc.heap.size wc.heap.size A m c us xss ∧ (∀ i, i < m → (us.getD i sd0).2.1 = n) ∧ Src wr g ∧ w.grownBy wr (some g) ∧ wc.heap.size ≤ wr.heap.size)
        case atStart => exact ⟨_, m, _, _, _, by omega, by omega, rfl, Ss6.out, Ln4.out, Sr6.out, G6.out, by omega⟩
        case round =>
          clear LA LI Ss4 Ss5 Ss6
          obtain ⟨A, m, c, us, xss, hm9, hgm, rfl, ss, ln, sr, gr, hzc⟩ := hrel
          have Ss := Lib.hid ss
          have Ln := Lib.hid ln
          have Sr := Lib.hid sr
          have Gr := Lib.hid gr
          have LA : Hid (∀ j, (Value.slice A m c).ownBlock = some j → wc.heap.size ≤ j ∧ j < wr.heap.size) := Lib.hid ss.lt_
          have LI : Hid (∀ t, t < m → ∀ j, (sval (us.getD t sd0)).ownBlock = some j → wc.heap.size ≤ j ∧ j < wr.heap.size) := Lib.hid fun t ht => (ss.row t ht).lt_
          clear ss ln sr gr
          go_wp2_with fail
          refine (srcBelow g _ 2 wr Sr.out rfl (by omega) (by omega)).mono ?_
          rintro e w7 ⟨r7, hr7, rfl, s7, g7⟩
          have Sr7 := Lib.hid s7
          have Ss7 := Lib.hid (Ss.out.farR g7 LA.out LI.out (.inl hgc))
          have G7 : Hid (w.grownBy w7 (some g)) := Lib.hid (grown_trans' Gr.out g7)
          have hz7 := g7.size
          have w88 : IntKind.i64.wrap (8 + (r7 : Int)) = 8 + (r7 : Int) := by rw [IntKind.wrap_i64]; omega
          have w89 : IntKind.i64.wrap (r7 : Int) = (r7 : Int) := by rw [IntKind.wrap_i64]; omega
          clear s7 g7
          by_cases hlt : (m : Int) < 8 + (r7 : Int)
          · have d7 : decide ((m : Int) < 8 + (r7 : Int)) = true := decide_eq_true hlt
            have hm8 : m ≤ 8 := by omega
            go_wp2_with fail
            refine (specIdent n w7 (by omega)).mono ?_
            rintro e w8 ⟨A8, c8, rfl, s8, b8⟩
            have Sr8 := Lib.hid (Sr7.out.below b8 Sr7.out.lt)
            have Ss8 := Lib.hid (Ss7.out.up b8)
            have G8 : Hid (w.grownBy w8 (some g)) := Lib.hid (grown_below2 G7.out b8)
            have D8 := Lib.hid (lies_dis Ss7.out s8.lies (Nat.le_refl _))
            have hz8 := b8.size
            have Sl8 := Lib.hid (s8.mono (show wc.heap.size ≤ w7.heap.size by omega))
            clear s8 b8
            go_wp2_with (first
              | (at_builtin
                 refine wpList_app2 rfl _ _ rfl rfl (Ss8.out.alloc _) w8.heap.size A8 n c8 (idL n) rfl (by rw [World.cell?_alloc_at _ _ _ _ rfl]; rfl) (Sl8.out.alloc _) D8.out (by omega) (by simp; omega) ?_
                 intro A9 c9 w9 ss9 g9))
            have Ss9 : Hid (SS w9 wc.heap.size wc.heap.size A9 (m + 1) c9 (us ++ [(A8, n, c8)]) (xss ++ [idL n])) := Lib.hid ss9
            have Sr9 : Hid (Src w9 g) := Lib.hid ((Sr8.out.below ((Below.refl w8.heap.size w8).alloc (Nat.le_refl _) (.cells #[.slice A8 n c8] 48)) Sr8.out.lt).gro2 g9 (fun j hj => by have := (LA.out j hj).1; omega))
            have G9 : Hid (w.grownBy w9 (some g)) := Lib.hid (grown_new2 (grown_alloc2 G8.out (.cells #[.slice A8 n c8] 48)) g9 (fun j hj => by have := (LA.out j hj).1; have := G3.out.size; omega))
            have hz9 : wc.heap.size ≤ w9.heap.size := by have := g9.size; simp at this; omega
            have Ln9 : Hid (∀ i, i < m + 1 → ((us ++ [((A8, n, c8) : SV)]).getD i sd0).2.1 = n) := Lib.hid fun i hi => by
              by_cases e9 : i < m
              · rw [getD_app _ _ _ _ (by rw [Ss8.out.lv]; exact e9)]; exact Ln.out i e9
              · rw [getD_snoc _ _ _ _ (by rw [Ss8.out.lv]; omega)]
            clear ss9 g9
            go_wp2_with fail
            go_roundg (9 - (m + 1))
            case rel => exact ⟨A9, m + 1, c9, _, _, by omega, by omega, rfl, Ss9.out, Ln9.out, Sr9.out, G9.out, hz9⟩
            case measure => omega
          · have d7 : decide ((m : Int) < 8 + (r7 : Int)) = false := decide_eq_false hlt
            go_wp2_with fail
            go_ret2
            exact ⟨_, _, _, _, us, xss, rfl, by unfold B64; omega, (RX.of_ss Ss7.out (by omega) (by omega)), by omega, Ss7.out.lens_le Ln.out (by omega), Sr7.out, G7.out⟩
end Go.Proofs.Ytedfcljikgmpgaa

/- The draws of chapter 4's named laws. Condition: at most 4096 bytes. -/
namespace Go.Proofs.Ytedfcljikgmpgaa
open Go.RowKit

theorem drawAnyK (g n : Nat) (N : Int) (w : World) (hs : Src w g) (hN : N = (n : Int)) (h1 : 1 ≤ n) (hn : n ≤ 20) :
    Calls Try.prog 122 #[.pointer (some ⟨g, 0, none⟩), .int .i64 N] w fun e w' => ∃ A m c xs, e = .returned (.slice A m c) ∧ Pm w' w.heap.size A m c xs ∧ m ≤ 21 ∧ Src w' g ∧ w.grownBy w' (some g) := by
  subst hN; exact drawAny g n w hs h1 hn

end Go.Proofs.Ytedfcljikgmpgaa

/- The walk of the law FnMembership: it returns true at every input, and writes nothing that was there. No condition but the program's own contracts. -/
namespace Go.Proofs.Ytedfcljikgmpgaa
open Go.RowKit

set_option maxHeartbeats 400000 in
theorem bigF4 (A : Option Addr) (len cap : Nat) (w : World) (hl : len ≤ 4096) : Calls Try.prog 37 #[.slice A len cap] w fun e w' => e = .returned (.bool false) ∧ w = w' := by
  have d : decide ((4096 : Int) < (len : Int)) = false := by simp; omega
  go_enter Try.func37, Try.ntmps37
  go_wp2
  go_ret
  exact ⟨rfl, rfl⟩
set_option maxHeartbeats 400000 in
theorem bigT4 (A : Option Addr) (len cap : Nat) (w : World) (hl : 4096 < len) : Calls Try.prog 37 #[.slice A len cap] w fun e w' => e = .returned (.bool true) ∧ w = w' := by
  have d : decide ((4096 : Int) < (len : Int)) = true := by simp; omega
  go_enter Try.func37, Try.ntmps37
  go_wp2
  go_ret
  exact ⟨rfl, rfl⟩
theorem below_gro4 {w0 w w' : World} {g : Nat} (h : Below w0.heap.size w0 w) (hg : w.grownBy w' (some g)) (hB : w0.heap.size ≤ g) : Below w0.heap.size w0 w' := h.grown hg h.size (fun k e => by injection e with e; omega)
theorem likeI_eq (A B : Option Addr) (c d n m : Nat) (xs : List Int) (w : World) (hx : RI w w.heap.size A xs) (hy : RI w w.heap.size B xs) (lx : Hid (xs.length = n)) (ly : Hid (xs.length = m)) (hn : n ≤ 2097152) :
    Calls Try.prog 80 #[.slice A n c, .slice B m d] w fun e w' => e = .returned (.bool true) ∧ Below w.heap.size w w' :=
  (quiet_below (likeI_any A B c d n m _ _ w hx hy lx ly hn (by rw [← ly.out, lx.out]; exact hn))).mono fun e w' ⟨he, hb⟩ => ⟨he.trans (ret_bool (by simp)), hb⟩


/-! ### what the answers tell of each other -/
section
variable {N k np : Nat} {gs : List (List Int)} {p m : List Int}
theorem take_at {t : Nat} (h : t < (p.take k).length) : (p.take k).getD t 0 = p.getD t 0 := by
  rw [List.length_take] at h
  rw [List.getD_eq_getElem?_getD, List.getElem?_take, if_pos (by omega), ← List.getD_eq_getElem?_getD]
theorem lmp_all (hp : Pn N p) (h1 : 1 ≤ N) (h2 : N ≤ 20) (hg : ∀ g ∈ gs, Pn N g) (h : LmpOK N gs p k) : Mb gs N p ↔ k = N := by
  obtain ⟨a, ⟨q, hq, hq2⟩, b⟩ := h
  constructor
  · intro hm
    rcases Nat.lt_or_ge k N with hl | hl
    · exact absurd ⟨p, hm, fun _ _ => rfl⟩ (b hl)
    · omega
  · rintro rfl
    have : q = p := (hq.pn hg h1 h2).ext hp fun x hx => hq2 x hx
    exact this ▸ hq
theorem lmp_pre (hp : Pn N p) (h : LmpOK N gs p k) : ¬ NoMem N gs (p.take k) := by
  obtain ⟨a, ⟨q, hq, hq2⟩, _⟩ := h
  refine fun hn => hn q hq fun t ht => ?_
  rw [take_at ht]
  rw [List.length_take] at ht
  rw [hq2 t (by omega), nx_val hp.1 (by rw [hp.2]; omega)]
theorem lmp_none (hp : Pn N p) (h : LmpOK N gs p k) (hk : k < N) : ∀ q, Mb gs N q → ¬ ∀ t, t < (p.take (k + 1)).length → (nx q t : Int) = (p.take (k + 1)).getD t 0 := fun q hq hq2 => by
  refine h.2.2 hk ⟨q, hq, fun t ht => ?_⟩
  have h3 := hq2 t (by rw [List.length_take, hp.2]; omega)
  rw [take_at (by rw [List.length_take, hp.2]; omega), nx_val hp.1 (by rw [hp.2]; omega)] at h3
  omega
theorem greedy_all (hp : Pn N p) (h1 : 1 ≤ N) (h2 : N ≤ 20) (hg : ∀ g ∈ gs, Pn N g) (h : Greedy N gs p m) : m = p :=
  (h.1.pn hg h1 h2).ext hp fun x hx => by
    have := (h.2 x hx).1 (by rw [hp.2]; exact hx)
    rw [nx_val hp.1 (by rw [hp.2]; exact hx)] at this
    omega
end

end Go.Proofs.Ytedfcljikgmpgaa

/- The draw of chapter 7's law of primitivity. Condition: at most 4096 bytes. -/
namespace Go.Proofs.Ytedfcljikgmpgaa
open Go.RowKit

end Go.Proofs.Ytedfcljikgmpgaa

/- The model's labelsToBlocks at labels of any kind. Condition: at most 20 labels. -/
namespace Go.Proofs.Ytedfcljikgmpgaa
open Go.RowKit

structure Lbl0 (N : Nat) (ls : List Int) : Prop where
  len : ls.length = N
  lo : ∀ u, u < N → 0 ≤ ls.getD u 0
theorem Lbl0.val {N u : Nat} {ls : List Int} (h : Lbl0 N ls) (hu : u < N) : ls.getD u 0 = (nx ls u : Int) := by
  have := h.lo u hu
  unfold nx; omega

set_option maxHeartbeats 4000000 in
set_option maxRecDepth 100000 in
/-- labelsToBlocks, at labels of any kind. -/
theorem specL2B0 (N c : Nat) (A : Option Addr) (ls : List Int) (w : World) (hp : RI w w.heap.size A ls) (hL : Hid (Lbl0 N ls)) (h2 : N ≤ 20) :
    Calls Try.prog 68 #[.slice A N c] w fun e w' => ∃ A' n' c' us, e = .returned (.slice A' n' c') ∧ SS w' w.heap.size w.heap.size A' n' c' us (canon N (nx ls)) ∧ Below w.heap.size w w' := by
  have HP := Lib.hid hp
  clear hp
  have S0 : Hid (SS ((w.alloc (.cells #[] 48)).alloc (.cells #[] 2)) w.heap.size w.heap.size (some ⟨w.heap.size, 0, none⟩) 0 0 [] []) := Lib.hid ((SS.lit0 w _ _ (Nat.le_refl _)).alloc _)
  have D0 : Hid (Slc ((w.alloc (.cells #[] 48)).alloc (.cells #[] 2)) w.heap.size (some ⟨w.heap.size + 1, 0, none⟩) 0 0 []) := Lib.hid (by
    have := Slc.lit0 (w.alloc (.cells #[] 48)) w.heap.size (by simp)
    simpa using this)
  have B0 : Hid (Below w.heap.size w ((w.alloc (.cells #[] 48)).alloc (.cells #[] 2))) := Lib.hid (((Below.refl _ _).alloc (Nat.le_refl _) _).alloc (by simp) _)
  go_enter Try.func68, Try.ntmps68
  go_wp2_with fail
  go_loopw [3, 4, 5] (fun ov dv xv wr => ∃ (x k c1 m c2 : Nat) (O D : Option Addr) (us : List SV) (ds : List Int), x ≤ N ∧ k ≤ 20 ∧ m ≤ x ∧ xv = .int .i64 (x : Nat) ∧ ov = .slice O k c1 ∧ dv = .slice D m c2 ∧ SS wr w.heap.size w.heap.size O k c1 us (cnB (nx ls) N x) ∧ Slc wr w.heap.size D m c2 ds ∧ (∀ t, t < k → (sval (us.getD t sd0)).ownBlock = none ∨ (sval (us.getD t sd0)).ownBlock ≠ (Value.slice D m c2).ownBlock) ∧ (∀ v, v ∈ ds ↔ ∃ h, h < x ∧ fstB (nx ls) h = true ∧ v = (nx ls h : Int)) ∧ Below w.heap.size w wr) (fun _ _ xv _ => N - (intOf xv).toNat)
  case atStart => exact ⟨0, 0, 0, 0, 0, _, _, [], [], Nat.zero_le _, by omega, Nat.le_refl _, rfl, rfl, rfl, S0.out, D0.out, fun t h => absurd h (Nat.not_lt_zero _), fun v => ⟨fun h => (by cases h), fun ⟨h, a, _⟩ => absurd a (Nat.not_lt_zero _)⟩, B0.out⟩
  case round =>
    clear S0 D0 B0
    obtain ⟨x, k, c1, m, c2, O, D, us, ds, hx, hk, hm, rfl, rfl, rfl, hss, hds, hap, hmem, bel⟩ := hrel
    have Ss := Lib.hid hss
    have Ds := Lib.hid hds
    have Ap := Lib.hid hap
    have Mem := Lib.hid hmem
    have Be := Lib.hid bel
    have hz := bel.size
    clear hss hds hap hmem bel
    by_cases hlt : x < N
    · obtain ⟨bz, oz, rfl, hbz, hc⟩ := (HP.out.up Be.out) (by rw [hL.out.len]; omega)
      have zx := hc x (by rw [hL.out.len]; exact hlt)
      rw [hL.out.val hlt] at zx
      obtain ⟨X, eX⟩ : ∃ X, nx ls x = X := ⟨_, rfl⟩
      rw [eX] at zx
      have EX := Lib.hid eX
      have q0 : (0 : Int) ≤ x := by omega
      have q1 : (x : Int) < N := by omega
      clear hc eX hbz
      rcases hf : fstB (nx ls) x with _ | _
      · have Ha : Hid (hasB ds (X : Int) = true) := Lib.hid (hasB_mem.2 ((Mem.out _).2 (by
          have : ∃ y, y < x ∧ nx ls y = nx ls x := Classical.byContradiction fun hn => by
            rw [fstB_iff.2 fun y hy e => hn ⟨y, hy, e⟩] at hf; cases hf
          obtain ⟨y, hy, e⟩ := this
          obtain ⟨h, a, b, c⟩ := fst_ex (nx ls) y
          exact ⟨h, by omega, b, by rw [c, e, EX.out]⟩)))
        have Cn := Lib.hid (cnB_no (N := N) hf)
        have Mem2 : Hid (∀ v, v ∈ ds ↔ ∃ h, h < x + 1 ∧ fstB (nx ls) h = true ∧ v = (nx ls h : Int)) := Lib.hid fun v => by
          rw [Mem.out v]
          constructor
          · rintro ⟨h, a, b⟩; exact ⟨h, by omega, b⟩
          · rintro ⟨h, a, b, c⟩
            refine ⟨h, ?_, b, c⟩
            by_cases e : h = x
            · subst e; rw [hf] at b; cases b
            · omega
        clear hf
        go_wp2_with (first
          | (go_at_call 84; refine (containsI_any D c2 m ds _ wr wr.heap.size Ds.out.ri_ (Lib.hid Ds.out.1) (by omega) true Ha).mono ?_; rintro e w' ⟨rfl, rfl⟩)
          | go_in)
        go_roundw
        case rel => exact ⟨x + 1, k, c1, m, c2, O, D, us, ds, by omega, hk, by omega, by go_num, rfl, rfl, by rw [Cn.out]; exact Ss.out, Ds.out, Ap.out, Mem2.out, Be.out⟩
        case measure => simp [intOf]; omega
      · have Ha : Hid (hasB ds (X : Int) = false) := Lib.hid (by
          rcases hq : hasB ds (X : Int) with _ | _
          · rfl
          · obtain ⟨h, a, b, c⟩ := (Mem.out _).1 (hasB_mem.1 hq)
            exact absurd (by rw [EX.out]; omega) (fstB_iff.1 hf h a))
        have Cy := Lib.hid (cnB_yes (N := N) hf)
        have Pe : Hid (ptsL (fun y => decide (nx ls y = X)) x = []) := Lib.hid (List.eq_nil_iff_forall_not_mem.2 fun v hv => by
          obtain ⟨y, hy, _, e⟩ := mem_ptsL.1 hv
          have e := of_decide_eq_true e
          exact fstB_iff.1 hf y hy (by rw [e, EX.out]))
        have Blk' : Hid (blkL (nx ls) N x = ptsL (fun y => decide (nx ls y = X)) N) := Lib.hid (by unfold blkL; rw [EX.out])
        have hk19 : Hid (k + 1 ≤ 20) := Lib.hid (by
          have h5 := cnB_len (r := nx ls) (N := N) (x + 1)
          rw [Cy.out, List.length_append, Ss.out.lx] at h5
          have h6 := List.length_filter_le (fstB (nx ls)) (List.range (x + 1))
          rw [List.length_range] at h6
          simp at h5
          omega)
        have Mem2 : Hid (∀ v, v ∈ ds ++ [(X : Int)] ↔ ∃ h, h < x + 1 ∧ fstB (nx ls) h = true ∧ v = (nx ls h : Int)) := Lib.hid fun v => by
          rw [List.mem_append, Mem.out v, List.mem_singleton]
          constructor
          · rintro (⟨h, a, b⟩ | rfl)
            · exact ⟨h, by omega, b⟩
            · exact ⟨x, by omega, hf, by rw [EX.out]⟩
          · rintro ⟨h, a, b, c⟩
            by_cases e : h = x
            · subst e; exact .inr (by rw [c, EX.out])
            · exact .inl ⟨h, by omega, b, c⟩
        clear hf
        go_wp2_with (first
          | (go_at_call 84; refine (containsI_any D c2 m ds _ wr wr.heap.size Ds.out.ri_ (Lib.hid Ds.out.1) (by omega) false Ha).mono ?_; rintro e w' ⟨rfl, rfl⟩)
          | (at_builtin; refine wpList_app1_at rfl _ _ rfl w.heap.size D m c2 ds rfl (Ds.out.alloc _) wr.heap.size X rfl (by rw [World.cell?_alloc_at _ _ _ _ rfl]; rfl) (by omega) (by simp; omega) ?_; intro D3 c3 w3 s3 g3 at3
             have At3 := Lib.hid at3
             have Gd : Hid ((wr.alloc (.cells #[.int .i64 (X : Int)] 2)).grownBy w3 (Value.slice D m c2).ownBlock) := Lib.hid g3
             have Sd := Lib.hid s3
             clear s3 g3 at3)
          | go_in)
        have B3 : Hid (Below w.heap.size w w3) := Lib.hid ((Be.out.alloc hz _).grown Gd.out (by simp; omega) (fun j hj => (Ds.out.lt_ j hj).1))
        have hz3 := B3.out.size
        have hzr3 : wr.heap.size < w3.heap.size := by have := Gd.out.size; simp at this; omega
        have Ss3 : Hid (SS w3 w.heap.size w.heap.size O k c1 us (cnB (nx ls) N x)) := Lib.hid ((Ss.out.alloc _).keptT Gd.out (apart_flip (apart_types Ds.out Ss.out.own)) Ap.out)
        have Ap3 : Hid (∀ t, t < k → (sval (us.getD t sd0)).ownBlock = none ∨ (sval (us.getD t sd0)).ownBlock ≠ (Value.slice D3 (m + 1) c3).ownBlock) := Lib.hid fun t ht => by
          rcases At3.out with e | e
          · rw [e]; exact Ap.out t ht
          · rw [e]
            rcases e2 : (sval (us.getD t sd0)).ownBlock with _ | q
            · exact .inl rfl
            · refine .inr fun e3 => ?_
              injection e3 with e3
              have := ((Ss.out.row t ht).lt_ q e2).2
              simp at e3
              omega
        have Dl : Hid (∀ q, (Value.slice D3 (m + 1) c3).ownBlock = some q → q < w3.heap.size) := Lib.hid fun q hq => (Sd.out.lt_ q hq).2
        have P0 : Hid (Slc (w3.alloc (.cells #[] 2)) w3.heap.size (some ⟨w3.heap.size, 0, none⟩) 0 0 (ptsL (fun y => decide (nx ls y = X)) x)) := Lib.hid (by rw [Pe.out]; exact Slc.lit0 w3 _ (Nat.le_refl _))
        have Bp : Hid (Below w3.heap.size w3 (w3.alloc (.cells #[] 2))) := Lib.hid ((Below.refl _ _).alloc (Nat.le_refl _) _)
        clear zx Gd Ss Ds Ap Pe
        go_loopw [6, 7] (fun pv yv wr2 => ∃ (y p cP : Nat) (P : Option Addr), x ≤ y ∧ y ≤ N ∧ p ≤ 20 ∧ yv = .int .i64 (y : Nat) ∧ pv = .slice P p cP ∧ Slc wr2 w3.heap.size P p cP (ptsL (fun y => decide (nx ls y = X)) y) ∧ Below w3.heap.size w3 wr2) (fun _ yv _ => N - (intOf yv).toNat)
        case atStart => exact ⟨x, 0, 0, _, Nat.le_refl _, by omega, by omega, rfl, rfl, P0.out, Bp.out⟩
        case round =>
          clear P0 Bp
          obtain ⟨y, p, cP, P, hxy, hyN, hp, rfl, rfl, hs, bel⟩ := hrel
          have Sp := Lib.hid hs
          have Bp := Lib.hid bel
          have Bw : Hid (Below w.heap.size w wr) := Lib.hid (btr B3.out bel)
          have hzp := bel.size
          clear hs bel
          by_cases hlt2 : y < N
          · obtain ⟨bq, oq, eq, hbq, hc⟩ := (HP.out.up Bw.out) (by rw [hL.out.len]; omega)
            injection eq with eq; injection eq with eq1 eq2
            subst eq1 eq2
            have zx := hc x (by rw [hL.out.len]; exact hlt)
            have zy := hc y (by rw [hL.out.len]; exact hlt2)
            rw [hL.out.val hlt, EX.out] at zx
            rw [hL.out.val hlt2] at zy
            obtain ⟨Y, eY⟩ : ∃ Y, nx ls y = Y := ⟨_, rfl⟩
            rw [eY] at zy
            have EY := Lib.hid eY
            have r0 : (0 : Int) ≤ y := by omega
            have r1 : (y : Int) < N := by omega
            have BpD : Hid (∀ q, Below w3.heap.size w3 (wr.drewN q)) := Lib.hid fun q => below_drewN Bp.out q
            have SpD : Hid (∀ q, Slc (wr.drewN q) w3.heap.size P p cP (ptsL (fun y => decide (nx ls y = X)) y)) := Lib.hid fun q => Sp.out.drewN q
            clear hc eY hbq
            by_cases hXY : Y = X
            · have d0 : ((Y : Int) == (X : Int)) = true := by rw [hXY]; simp
              have Py : Hid (ptsL (fun y => decide (nx ls y = X)) (y + 1) = ptsL (fun y => decide (nx ls y = X)) y ++ [(y : Int)]) := Lib.hid (ptsL_yes (by simpa using EY.out.trans hXY))
              have hp19 : p + 1 ≤ 20 := by
                have h5 := ptsL_le (fun y => decide (nx ls y = X)) (y + 1)
                rw [Py.out, List.length_append, Sp.out.1] at h5
                simp at h5
                omega
              clear hXY
              go_wp2_with fail
              go_quiet (fail)
              obtain ⟨w5, hw5⟩ : ∃ w5, wr.drewN nq = w5 := ⟨_, rfl⟩
              have S5 := SpD.out nq
              have B5 := BpD.out nq
              rw [hw5] at S5 B5 ⊢
              have Sp5 := Lib.hid S5
              have Bp5 := Lib.hid B5
              have hz5 := B5.size
              clear hw5 S5 B5
              go_wp2_with (first | (at_builtin; refine wpList_app1 rfl _ _ rfl w3.heap.size P p cP _ rfl (Sp5.out.alloc _) w5.heap.size y rfl (by rw [World.cell?_alloc_at _ _ _ _ rfl]; rfl) (by omega) (by simp; omega) ?_; intro P6 c6 w6 s6 g6) | go_in)
              have S6 : Hid (Slc w6 w3.heap.size P6 (p + 1) c6 (ptsL (fun y => decide (nx ls y = X)) (y + 1))) := Lib.hid (by rw [Py.out]; exact s6)
              have B6 : Hid (Below w3.heap.size w3 w6) := Lib.hid ((Bp5.out.alloc hz5 _).grown g6 (by simp; omega) (fun j hj => (Sp5.out.lt_ j hj).1))
              clear s6 g6
              go_wp2_with fail
              go_roundw
              case rel => exact ⟨y + 1, p + 1, c6, P6, by omega, by omega, hp19, by go_num, rfl, S6.out, B6.out⟩
              case measure => simp [intOf]; omega
            · have d0 : ((Y : Int) == (X : Int)) = false := by rw [beq_eq_false_iff_ne]; omega
              have Pn' : Hid (ptsL (fun y => decide (nx ls y = X)) (y + 1) = ptsL (fun y => decide (nx ls y = X)) y) := Lib.hid (ptsL_no (by simpa using fun e => hXY (EY.out.symm.trans e)))
              clear hXY
              go_wp2_with fail
              go_quiet (fail)
              go_wp2_with fail
              go_roundw
              case rel => exact ⟨y + 1, p, cP, P, by omega, by omega, hp, by go_num, rfl, by rw [Pn'.out]; exact SpD.out _, BpD.out _⟩
              case measure => simp [intOf]; omega
          · obtain rfl : y = N := by omega
            have Ss6 := Lib.hid (Ss3.out.up Bp.out)
            have Sd6 := Lib.hid (Sd.out.up Bp.out)
            have D6 : Hid (∀ t, t < k → (sval (us.getD t sd0)).ownBlock = none ∨ (sval (us.getD t sd0)).ownBlock ≠ (Value.slice P p cP).ownBlock) := Lib.hid (lies_dis (w := w3) Ss3.out Sp.out.lies (Nat.le_refl _))
            have hzw := Bw.out.size
            go_wp2_with (at_builtin; go_must (refine wpList_app2_at rfl _ _ rfl rfl (Ss6.out.alloc _) wr.heap.size P p cP (ptsL (fun y => decide (nx ls y = X)) y) rfl (by rw [World.cell?_alloc_at _ _ _ _ rfl]; rfl) ((Sp.out.mono hz3).alloc _) D6.out (by omega) (by simp; omega) ?_); intro A9 c9 w9 s9 g9 h9)
            have S9 : Hid (SS w9 w.heap.size w.heap.size A9 (k + 1) c9 (us ++ [(P, p, cP)]) (cnB (nx ls) y (x + 1))) := Lib.hid (by rw [Cy.out, Blk'.out]; exact s9)
            have B9 : Hid (Below w.heap.size w w9) := Lib.hid ((Bw.out.alloc hzw _).grown g9 (by simp; omega) (fun q hq => (Ss6.out.lt_ q hq).1))
            have D9 : Hid (Slc w9 w.heap.size D3 (m + 1) c3 (ds ++ [(X : Int)])) := Lib.hid ((Sd6.out.alloc _).kept g9 (apart_types Sd6.out Ss6.out.own))
            have Ap9 : Hid (∀ t, t < k + 1 → (sval ((us ++ [(P, p, cP)]).getD t sd0)).ownBlock = none ∨ (sval ((us ++ [(P, p, cP)]).getD t sd0)).ownBlock ≠ (Value.slice D3 (m + 1) c3).ownBlock) := Lib.hid fun t ht => by
              by_cases e : t < k
              · rw [getD_app us _ _ _ (by rw [Ss3.out.lv]; exact e)]; exact Ap3.out t e
              · obtain rfl : t = k := by omega
                rw [getD_snoc us _ _ _ Ss3.out.lv.symm]
                rcases e2 : (sval (P, p, cP)).ownBlock with _ | q
                · exact .inl rfl
                · refine .inr fun e3 => ?_
                  have h7 := (Sp.out.lt_ q e2).1
                  have h8 := Dl.out q e3.symm
                  omega
            clear s9 g9 h9
            go_wp2_with fail
            go_roundw
            case rel => exact ⟨x + 1, k + 1, c9, m + 1, c3, A9, D3, _, _, by omega, hk19.out, by omega, by go_num, rfl, rfl, S9.out, D9.out, Ap9.out, Mem2.out, B9.out⟩
            case measure => simp [intOf]; omega
    · obtain rfl : x = N := by omega
      go_wp2_with fail
      go_ret
      exact ⟨_, _, _, us, rfl, Ss.out, Be.out⟩
end Go.Proofs.Ytedfcljikgmpgaa

/- A draw of a group and of a list that is often of a subgroup. Condition: at most 4096 bytes. -/
namespace Go.Proofs.Ytedfcljikgmpgaa
open Go.RowKit

/-- Slices that can be read, in a slice of the call's own that none of them lies in. -/
structure RG (w : World) (lo : Nat) (A : Option Addr) (n c : Nat) (vs : List SV) (xss : List (List Int)) : Prop where
  own : w.ownsRow lo 48 1 (.slice A n c) n (vs.map sval)
  lv : vs.length = n
  lx : xss.length = n
  row : ∀ j, j < n → Pm w lo (vs.getD j sd0).1 (vs.getD j sd0).2.1 (vs.getD j sd0).2.2 (xss.getD j [])
  apt : ∀ j, j < n → ∀ b off, (vs.getD j sd0).1 = some ⟨b, off, none⟩ → 0 < (vs.getD j sd0).2.1 → (Value.slice A n c).ownBlock ≠ some b
section
variable {w w' : World} {lo g n c : Nat} {A : Option Addr} {vs : List SV} {xss : List (List Int)}
theorem RG.lit (w : World) (lo : Nat) (h : lo ≤ w.heap.size) : RG (w.alloc (.cells #[] 48)) lo (some ⟨w.heap.size, 0, none⟩) 0 0 [] [] :=
  ⟨(SS.lit0 w lo lo h).own, rfl, rfl, fun j h => absurd h (by omega), fun j h => absurd h (by omega)⟩
theorem RG.gro (h : RG w lo A n c vs xss) (hg : w.grownBy w' (some g)) (hl : g < lo) : RG w' lo A n c vs xss :=
  ⟨World.ownsRow.kept h.own hg (by
    rcases e : (Value.slice A n c).ownBlock with _ | k
    · exact .inl rfl
    · exact .inr fun e2 => by injection e2 with e2; have := (World.ownsRow.lt h.own k e).1; omega), h.lv, h.lx, fun j hj => (h.row j hj).gro hg hl, h.apt⟩
theorem RG.up (h : RG w lo A n c vs xss) (hb : Below w.heap.size w w') : RG w' lo A n c vs xss :=
  ⟨ownsRow_chg h.own (Chg.of_below (M := fun _ => False) hb) fun _ _ e => e, h.lv, h.lx, fun j hj => (h.row j hj).up hb, h.apt⟩
theorem RG.rx (h : RG w lo A n c vs xss) : RX w lo A n vs xss :=
  ⟨⟨h.lv, h.lx, fun hn => by
      rcases h.own.2 with ⟨e, h0⟩ | ⟨g', cap, cur, e, hb', hg', hnc, _⟩
      · omega
      · injection e with e _ _
        subst e
        refine ⟨g', 0, rfl, (Array.getElem?_eq_some_iff.1 hg').1, fun j hj => ?_⟩
        rw [Nat.zero_add, h.own.cellAt j (by omega), List.getElem?_map, List.getD_eq_getElem?_getD, List.getElem?_eq_getElem (by rw [h.lv]; exact hj)]; rfl,
    fun j hj => (h.row j hj).ri, fun j hj => (h.row j hj).1, fun j hj => (h.row j hj).2.1⟩,
   fun _ b off e => (World.ownsRow.lt h.own b (by rw [e]; rfl)).1, fun j hj b off e hp => by
    obtain ⟨b2, off2, e2, h1, _⟩ := (h.row j hj).2.2 (by rw [← (h.row j hj).1]; exact hp)
    rw [e] at e2; injection e2 with e2; injection e2 with e2; omega⟩
/-- With a bound on the blocks. -/
structure RXB (w : World) (lo B : Nat) (A : Option Addr) (n : Nat) (vs : List SV) (xss : List (List Int)) : Prop where
  rx : RX w lo A n vs xss
  rr : RR w B A n vs xss
  hB : B ≤ w.heap.size
theorem RXB.keep {B : Nat} (h : RXB w lo B A n vs xss) (hs : w.heap.size ≤ w'.heap.size) (hk : ∀ b, lo ≤ b → b < B → w'.heap[b]? = w.heap[b]?) : RXB w' lo B A n vs xss := by
  have hB := h.hB
  have c : 0 < n → ∃ b off, A = some ⟨b, off, none⟩ ∧ b < B ∧ ∀ j, j < n → w'.cell? ⟨b, off + j, none⟩ = some (.slice (vs.getD j sd0).1 (vs.getD j sd0).2.1 (vs.getD j sd0).2.2) := fun hn => by
    obtain ⟨b, off, e, hb, hc⟩ := h.rr.cells hn
    exact ⟨b, off, e, hb, fun j hj => (World.cell?_of_block (a := ⟨b, off + j, none⟩) (hk b (h.rx.outer hn b off e) hb)).trans (hc j hj)⟩
  have r : ∀ j, j < n → RI w' B (vs.getD j sd0).1 (xss.getD j []) := fun j hj hp => by
    obtain ⟨b, off, e, hb, hc⟩ := h.rr.rows j hj hp
    exact ⟨b, off, e, hb, fun t ht => (World.cell?_of_block (a := ⟨b, off + t, none⟩) (hk b (h.rx.inner j hj b off e hp) hb)).trans (hc t ht)⟩
  refine ⟨⟨⟨h.rr.lv, h.rr.lx, fun hn => ?_, fun j hj hp => ?_, h.rr.lens, h.rr.caps⟩, h.rx.outer, h.rx.inner⟩, ⟨h.rr.lv, h.rr.lx, c, r, h.rr.lens, h.rr.caps⟩, by omega⟩
  · obtain ⟨b, off, e, hb, hc⟩ := c hn
    exact ⟨b, off, e, by omega, hc⟩
  · obtain ⟨b, off, e, hb, hc⟩ := r j hj hp
    exact ⟨b, off, e, by omega, hc⟩
theorem RXB.up {B : Nat} (h : RXB w lo B A n vs xss) (hb : Below w.heap.size w w') : RXB w' lo B A n vs xss := h.keep hb.size fun b _ h2 => hb.block b (by have := h.hB; omega)
theorem RXB.gro {B : Nat} (h : RXB w lo B A n vs xss) (hg : w.grownBy w' (some g)) (hl : g < lo) : RXB w' lo B A n vs xss := h.keep hg.size fun b h1 h2 => hg.block b (by have := h.hB; omega) (by intro e; injection e with e; omega)
theorem RXB.app {B : Nat} {row : Option Nat} (h : RXB w lo B A n vs xss) (hg : w.grownBy w' row) (hr : ∀ r, row = some r → B ≤ r) : RXB w' lo B A n vs xss := h.keep hg.size fun b h1 h2 => hg.block b (by have := h.hB; omega) fun e => by have := hr b e.symm; omega
theorem RX.lower {lo' : Nat} (h : RX w lo A n vs xss) (hl : lo' ≤ lo) : RX w lo' A n vs xss := ⟨h.rr, fun hn b off e => Nat.le_trans hl (h.outer hn b off e), fun j hj b off e hp => Nat.le_trans hl (h.inner j hj b off e hp)⟩
/-- A slice that can be read, appended. -/
theorem wpList_app2G {ops : Array Oper} {rest : List Oper} {o : Oper} {a : Act} {Q : Exit → Act → World → Prop} (hgd : o.guard = none) (s x : Operand)
    (ho : o.op = .call { callee := .builtin .append, args := #[s, x], argTypes := #[22, 22] })
    (hs : a.eval s = .slice A n c) (hss : RG w lo A n c vs xss) (g : Nat) (dA : Option Addr) (dn dc : Nat) (ys : List Int) (hx : a.eval x = .slice (some ⟨g, 0, none⟩) 1 1)
    (hcell : w.cell? ⟨g, 0, none⟩ = some (.slice dA dn dc)) (hys : Pm w lo dA dn dc ys) (hap : ∀ b off, dA = some ⟨b, off, none⟩ → 0 < dn → (Value.slice A n c).ownBlock ≠ some b) (hn : n ≤ 1000000000) (hbase : lo ≤ w.heap.size)
    (h : ∀ A' c' w', RG w' lo A' (n + 1) c' (vs ++ [(dA, dn, dc)]) (xss ++ [ys]) → w.grownBy w' (Value.slice A n c).ownBlock → wpList Try.prog ops Q rest (a.put o.dst (.slice A' (n + 1) c')) w') : wpList Try.prog ops Q (o :: rest) a w := by
  obtain ⟨i0, hi, hz0, hz1, hz2⟩ := info_parts infoS
  refine wpList_append_own_at w hgd s x 22 ho lo 48 i0 (.slice none 0 0) 1 24 Try.underlying22 hi hz0 hz1 hz2 rfl (by decide) _ n _ hs hss.own ⟨g, 0, none⟩ 1 1 [.slice dA dn dc] hx rfl ?_ ?_ ?_ (by omega) hbase ?_
  · intro j v hj
    match j, hj with
    | 0, hj => simp at hj; subst hj; simpa [Addr.add] using hcell
    | j + 1, hj => simp at hj
  · intro v hv; simp at hv; subst hv; rfl
  · unfold maxLen; omega
  · intro v' w' hown' hg _ hat
    have hform : ∃ A' c', v' = .slice A' (n + 1) c' := by
      rcases hown'.2 with ⟨rfl, h0⟩ | ⟨g', cap, cur, rfl, _⟩
      · omega
      · exact ⟨_, _, rfl⟩
    obtain ⟨A', c', rfl⟩ := hform
    have keep : ∀ {eA : Option Addr} {en ec : Nat} {zs : List Int}, Pm w lo eA en ec zs → (∀ b off, eA = some ⟨b, off, none⟩ → 0 < en → (Value.slice A n c).ownBlock ≠ some b) → Pm w' lo eA en ec zs := fun hp ha => ⟨hp.1, hp.2.1, fun h0 => by
      obtain ⟨b, off, e, h1, h2, hc⟩ := hp.2.2 h0
      exact ⟨b, off, e, h1, Nat.lt_of_lt_of_le h2 hg.size, fun j hj => (World.cell?_of_block (a := ⟨b, off + j, none⟩) (hg.block b h2 fun e2 => ha b off e h0 e2.symm)).trans (hc j hj)⟩⟩
    have newb : ∀ {eA : Option Addr} {en ec : Nat} {zs : List Int}, Pm w lo eA en ec zs → (∀ b off, eA = some ⟨b, off, none⟩ → 0 < en → (Value.slice A n c).ownBlock ≠ some b) → ∀ b off, eA = some ⟨b, off, none⟩ → 0 < en → (Value.slice A' (n + 1) c').ownBlock ≠ some b := fun hp ha b off e h0 e2 => by
      rcases hat with e3 | e3
      · exact ha b off e h0 (e3.symm.trans e2)
      · obtain ⟨b2, off2, e4, _, h2, _⟩ := hp.2.2 h0
        rw [e] at e4; injection e4 with e4; injection e4 with e4
        rw [e3] at e2; injection e2 with e2; omega
    refine h A' c' w' ⟨?_, by simp [hss.lv], by simp [hss.lx], fun i hi' => ?_, fun i hi' => ?_⟩ hg
    · rw [List.map_append]; exact hown'
    · by_cases e : i < n
      · rw [getD_app _ _ _ _ (by rw [hss.lv]; exact e), getD_app _ _ _ _ (by rw [hss.lx]; exact e)]
        exact keep (hss.row i e) (hss.apt i e)
      · obtain rfl : i = n := by omega
        rw [getD_snoc _ _ _ _ hss.lv.symm, getD_snoc _ _ _ _ hss.lx.symm]
        exact keep hys hap
    · by_cases e : i < n
      · rw [getD_app _ _ _ _ (by rw [hss.lv]; exact e)]
        exact newb (hss.row i e) (hss.apt i e)
      · obtain rfl : i = n := by omega
        rw [getD_snoc _ _ _ _ hss.lv.symm]
        exact newb hys hap
end

end Go.Proofs.Ytedfcljikgmpgaa

/- The draws of chapter 7's laws of block systems. Condition: at most 4096 bytes. -/
namespace Go.Proofs.Ytedfcljikgmpgaa
open Go.RowKit

section
variable {w w1 : World} {lo gb n c j l' c' : Nat} {A A' : Option Addr} {vs : List SV} {xss : List (List Int)} {ys : List Int}
/-- Row j grown or laid anew and stored again: all can be read. -/
theorem SS.rx_put (h : SS w lo lo (some ⟨gb, 0, none⟩) n c vs xss) (hj : j < n) (hg : w.grownBy w1 (sval (vs.getD j sd0)).ownBlock) (hs : Slc w1 lo A' l' c' ys) :
    RX (w1.setCell ⟨gb, j, none⟩ (.slice A' l' c')) lo (some ⟨gb, 0, none⟩) n (vs.set j (A', l', c')) (xss.set j ys) ∧ w1.grownBy (w1.setCell ⟨gb, j, none⟩ (.slice A' l' c')) (some gb) := by
  have own1 : w1.ownsRow lo 48 1 (.slice (some ⟨gb, 0, none⟩) n c) n (vs.map sval) := World.ownsRow.kept h.own hg (apart_flip (apart_types (h.row j hj) h.own))
  obtain ⟨hown, hgr⟩ := own1.stored j (.slice A' l' c')
  have hrow : ∀ i, i < n → Slc (w1.setCell ⟨gb, j, none⟩ (.slice A' l' c')) lo ((vs.set j (A', l', c')).getD i sd0).1 ((vs.set j (A', l', c')).getD i sd0).2.1 ((vs.set j (A', l', c')).getD i sd0).2.2 ((xss.set j ys).getD i []) := fun i hi => by
    by_cases e : j = i
    · subst e
      rw [getD_set_eq (by rw [h.lv]; exact hj), getD_set_eq (by rw [h.lx]; exact hj)]
      exact hs.kept hgr (apart_types hs own1)
    · rw [getD_set_ne e, getD_set_ne e]
      have h1 : Slc w1 lo (vs.getD i sd0).1 (vs.getD i sd0).2.1 (vs.getD i sd0).2.2 (xss.getD i []) := (h.row i hi).kept hg (by
        rcases Nat.lt_or_gt_of_ne e with hlt | hgt
        · exact apart_flip (h.dis j i hlt hi)
        · exact h.dis i j hgt hj)
      exact h1.kept hgr (apart_types h1 own1)
  have hlv : (vs.set j (A', l', c')).length = n := by rw [List.length_set]; exact h.lv
  have hown2 : (w1.setCell ⟨gb, j, none⟩ (.slice A' l' c')).ownsRow lo 48 1 (.slice (some ⟨gb, 0, none⟩) n c) n ((vs.set j (A', l', c')).map sval) := by rw [List.map_set]; exact hown
  have hlt := World.ownsRow.lt hown2 gb rfl
  refine ⟨⟨⟨hlv, by rw [List.length_set]; exact h.lx, fun hn => ⟨gb, 0, rfl, hlt.2, fun i hi => ?_⟩, fun i hi => (hrow i hi).ri_, fun i hi => (hrow i hi).1, fun i hi => (hrow i hi).le.1⟩, fun _ b off e => ?_, fun i hi b off e _ => ?_⟩, hgr⟩
  · rw [Nat.zero_add, hown2.cellAt i (by omega), List.getElem?_map, List.getD_eq_getElem?_getD, List.getElem?_eq_getElem (by rw [hlv]; exact hi)]
    rfl
  · injection e with e; injection e with e1 e2; omega
  · exact ((hrow i hi).lt_ b (by rw [e]; rfl)).1
/-- All but the first. -/
theorem RX.tail (h : RX w lo (some ⟨gb, 0, none⟩) n vs xss) (hn : 0 < n) : RX w lo (some ⟨gb, 1, none⟩) (n - 1) vs.tail xss.tail := by
  have gv : ∀ i, vs.tail.getD i sd0 = vs.getD (i + 1) sd0 := fun i => by cases vs <;> simp [List.getD_eq_getElem?_getD]
  have gx : ∀ i, xss.tail.getD i [] = xss.getD (i + 1) [] := fun i => by cases xss <;> simp [List.getD_eq_getElem?_getD]
  obtain ⟨b, off, e, hb, hc⟩ := h.rr.cells hn
  injection e with e; injection e with e1 e2
  subst e1 e2
  refine ⟨⟨by rw [List.length_tail, h.rr.lv], by rw [List.length_tail, h.rr.lx], fun _ => ⟨gb, 1, rfl, hb, fun i hi => ?_⟩, fun i hi => ?_, fun i hi => ?_, fun i hi => ?_⟩, fun _ b off e => ?_, fun i hi b off e hp => ?_⟩
  · rw [gv, show 1 + i = 0 + (i + 1) by omega]; exact hc (i + 1) (by omega)
  · rw [gv, gx]; exact h.rr.rows (i + 1) (by omega)
  · rw [gv, gx]; exact h.rr.lens (i + 1) (by omega)
  · rw [gv]; exact h.rr.caps (i + 1) (by omega)
  · injection e with e; injection e with e1 e2
    subst e1
    exact h.outer hn gb 0 rfl
  · rw [gv] at e; rw [gx] at hp; exact h.inner (i + 1) (by omega) b off e hp
end

set_option maxHeartbeats 4000000 in
set_option maxRecDepth 100000 in
/-- drawPartition. -/
theorem drawPart (g : Nat) (z : Int) (w : World) (hs : Src w g) (hz : B64 z) :
    Calls Try.prog 106 #[.pointer (some ⟨g, 0, none⟩), .int .i64 z] w fun e w' => ∃ (A : Option Addr) (m c : Nat) (us : List SV) (yss : List (List Int)), e = .returned (.slice A m c) ∧ RX w' w.heap.size A m us yss ∧ m ≤ 20 ∧ (∀ i, i < m → (us.getD i sd0).2.1 ≤ 21) ∧ Src w' g ∧ w.grownBy w' (some g) := by
  have hg := hs.lt
  obtain ⟨NN, hNN, hN20⟩ : ∃ NN : Nat, (∀ x : Nat, ((x : Int) < min z 20) ↔ x < NN) ∧ NN ≤ 20 := by
    refine ⟨(min z 20).toNat, fun x => ?_, ?_⟩ <;> omega
  have Sr0 : Hid (Src (w.alloc (.cells #[] 2)) g) := Lib.hid (hs.below ((Below.refl w.heap.size w).alloc (Nat.le_refl _) _) hg)
  have D0 : Hid (Slc (w.alloc (.cells #[] 2)) w.heap.size (some ⟨w.heap.size, 0, none⟩) 0 0 []) := Lib.hid (Slc.lit0 w _ (Nat.le_refl _))
  have G0 : Hid (w.grownBy (w.alloc (.cells #[] 2)) (some g)) := Lib.hid (grown_alloc2 (grown_refl _ _) _)
  have HN := Lib.hid hNN
  clear hs hNN
  go_enter Try.func106, Try.ntmps106
  go_wp2_with fail
  go_loopw [5, 6] (fun lv iv wr => ∃ (x c : Nat) (D : Option Addr) (ls : List Int), x ≤ NN ∧ iv = .int .i64 (x : Nat) ∧ lv = .slice D x c ∧ Slc wr w.heap.size D x c ls ∧ (∀ u, u < x → 0 ≤ ls.getD u 0) ∧ Src wr g ∧ w.grownBy wr (some g)) (fun _ iv _ => NN - (intOf iv).toNat)
  case atStart => exact ⟨0, 0, _, [], Nat.zero_le _, rfl, rfl, D0.out, fun u h => absurd h (Nat.not_lt_zero _), Sr0.out, G0.out⟩
  case round =>
    clear Sr0 D0 G0
    obtain ⟨x, c, D, ls, hx, rfl, rfl, ds, hlo, sr, gr⟩ := hrel
    have Ds := Lib.hid ds
    have Lo := Lib.hid hlo
    have Sr := Lib.hid sr
    have Gr := Lib.hid gr
    have hwz : w.heap.size ≤ wr.heap.size := gr.size
    clear ds hlo sr gr
    by_cases hlt : x < NN
    · have q0 : decide ((x : Int) < min z 20) = true := by simpa using (HN.out x).2 hlt
      go_wp2_with fail
      refine (srcBelow g 3 3 wr Sr.out rfl (by omega) (by omega)).mono ?_
      rintro e w1 ⟨r, hr, rfl, s1, g1⟩
      have Sr1 := Lib.hid s1
      have Ds1 : Hid (Slc w1 w.heap.size D x c ls) := Lib.hid (Ds.out.kept g1 (by
        rcases e : (Value.slice D x c).ownBlock with _ | k
        · exact .inl rfl
        · exact .inr fun e2 => by injection e2 with e2; have := (Ds.out.lt_ k e).1; omega))
      have Gr1 : Hid (w.grownBy w1 (some g)) := Lib.hid (grown_trans' Gr.out g1)
      have hz1 := g1.size
      clear s1 g1
      go_wp2_with (first | (at_builtin; refine wpList_app1 rfl _ _ rfl w.heap.size D x c ls rfl (Ds1.out.alloc _) w1.heap.size r rfl (by rw [World.cell?_alloc_at _ _ _ _ rfl]; rfl) (by omega) (by simp; omega) ?_; intro D2 c2 w2 s2 g2) | go_in)
      have Ds2 := Lib.hid s2
      have Sr2 : Hid (Src w2 g) := Lib.hid ((Sr1.out.below ((Below.refl w1.heap.size w1).alloc (Nat.le_refl _) (.cells #[.int .i64 (r : Int)] 2)) Sr1.out.lt).gro2 g2 (fun k hk => by have := (Ds1.out.lt_ k hk).1; omega))
      have Gr2 : Hid (w.grownBy w2 (some g)) := Lib.hid (grown_new2 (grown_alloc2 Gr1.out (.cells #[.int .i64 (r : Int)] 2)) g2 (fun k hk => (Ds1.out.lt_ k hk).1))
      have Lo2 : Hid (∀ u, u < x + 1 → 0 ≤ (ls ++ [(r : Int)]).getD u 0) := Lib.hid fun u hu => by
        by_cases e : u < x
        · rw [getD_app _ _ _ _ (by rw [Ds1.out.1]; exact e)]; exact Lo.out u e
        · rw [getD_snoc _ _ _ _ (by rw [Ds1.out.1]; omega)]; omega
      clear s2 g2
      go_wp2_with fail
      go_roundw
      case rel => exact ⟨x + 1, c2, D2, _, by omega, by go_num, rfl, Ds2.out, Lo2.out, Sr2.out, Gr2.out⟩
      case measure => simp [intOf]; omega
    · have q0 : decide ((x : Int) < min z 20) = false := by have := mt (HN.out x).1 hlt; simp only [decide_eq_false_iff_not]; exact this
      go_wp2_with fail
      refine (specL2B0 x c D ls wr Ds.out.ri_ (Lib.hid ⟨Ds.out.1, Lo.out⟩) (by omega)).mono ?_
      rintro e w2 ⟨A2, n2, c2, us2, rfl, s2, b2⟩
      have Pb := Lib.hid (prt_bound (canon_prt x (nx ls)) (by omega))
      obtain ⟨yss, hyss⟩ : ∃ yss, canon x (nx ls) = yss := ⟨_, rfl⟩
      rw [hyss] at s2 Pb
      have hn2 : n2 ≤ 20 := by rw [← s2.lx]; exact Pb.out.1
      have Ln : Hid (∀ i, i < n2 → (us2.getD i sd0).2.1 ≤ 20) := Lib.hid fun i hi => by
        rw [← (s2.row i hi).1]
        refine Pb.out.2 _ ?_
        rw [List.getD_eq_getElem?_getD, List.getElem?_eq_getElem (by rw [s2.lx]; exact hi)]; exact List.getElem_mem _
      have S2 : Hid (SS w2 w.heap.size w.heap.size A2 n2 c2 us2 yss) := Lib.hid (s2.mono hwz hwz)
      have Sr2 := Lib.hid (Sr.out.below b2 Sr.out.lt)
      have Gr2 : Hid (w.grownBy w2 (some g)) := Lib.hid (grown_below2 Gr.out b2)
      have KS : Hid (∀ W, w2.grownBy W (some g) → SS W w.heap.size w.heap.size A2 n2 c2 us2 yss ∧ w.grownBy W (some g)) := Lib.hid fun W gW =>
        ⟨S2.out.farR gW S2.out.lt_ (fun t ht => (S2.out.row t ht).lt_) (.inl hg), grown_trans' Gr2.out gW⟩
      have KR : Hid (∀ W, w2.grownBy W (some g) → RX W w.heap.size A2 n2 us2 yss) := Lib.hid fun W gW => RX.of_ss (KS.out W gW).1 (Nat.le_refl _) (Nat.le_refl _)
      have Ln21 : Hid (∀ i, i < n2 → (us2.getD i sd0).2.1 ≤ 21) := Lib.hid fun i hi => by have := Ln.out i hi; omega
      clear s2 b2 hyss Pb HN
      go_wp2_with fail
      refine (srcOne g _ 12 w2 Sr2.out rfl (by omega) (by omega)).mono ?_
      rintro e w3 ⟨b, rfl, s3, g3⟩
      have Sr3 := Lib.hid s3
      have G3 := Lib.hid g3
      clear s3 g3
      rcases b with _ | _
      · go_wp2_with fail
        go_ret
        exact ⟨_, _, _, us2, yss, rfl, KR.out _ G3.out, hn2, Ln21.out, Sr3.out, (KS.out _ G3.out).2⟩
      · by_cases hn0 : 0 < n2
        · have dn0 : decide ((0 : Int) < (n2 : Int)) = true := by simp; omega
          go_wp2_with fail
          refine (srcBelow g _ n2 w3 Sr3.out rfl (by omega) (by omega)).mono ?_
          rintro e w4 ⟨k, hk, rfl, s4, g4⟩
          have Sr4 := Lib.hid s4
          have G4 : Hid (w2.grownBy w4 (some g)) := Lib.hid (grown_trans' G3.out g4)
          clear s4 g4
          go_wp2_with fail
          refine (srcBelow g _ 3 w4 Sr4.out rfl (by omega) (by omega)).mono ?_
          rintro e w5 ⟨r, hr, rfl, s5, g5⟩
          have Sr5 := Lib.hid s5
          have G5 : Hid (w2.grownBy w5 (some g)) := Lib.hid (grown_trans' G4.out g5)
          have S5 := Lib.hid (KS.out _ G5.out).1
          have Gw5 := Lib.hid (KS.out _ G5.out).2
          have hz5 : w.heap.size ≤ w5.heap.size := (KS.out _ G5.out).2.size
          clear s5 g5
          have p0 : (0 : Int) ≤ k := by omega
          have p1 : (k : Int) < n2 := by omega
          obtain ⟨gb, rfl, hgb, hgb2, hc⟩ := S5.out.at_ hn0
          have ck := hc k hk
          have rk := S5.out.row k hk
          have lk := Ln.out k hk
          obtain ⟨Ak, eAk⟩ : ∃ a, (us2.getD k sd0).1 = a := ⟨_, rfl⟩
          obtain ⟨lk', elk⟩ : ∃ a, (us2.getD k sd0).2.1 = a := ⟨_, rfl⟩
          obtain ⟨ck', eck⟩ : ∃ a, (us2.getD k sd0).2.2 = a := ⟨_, rfl⟩
          have Eow : Hid (sval (us2.getD k sd0) = .slice Ak lk' ck') := Lib.hid (by rw [← eAk, ← elk, ← eck]; rfl)
          rw [eAk, elk, eck] at ck rk
          rw [elk] at lk
          have Rk := Lib.hid rk
          clear hc rk eAk elk eck
          have FIN : Hid (∀ (W W1 : World) (A' : Option Addr) (l' c' : Nat) (ys : List Int), SS W w.heap.size w.heap.size (some ⟨gb, 0, none⟩) n2 c2 us2 yss → Src W1 g → w.grownBy W1 (some g) → W.grownBy W1 (Value.slice Ak lk' ck').ownBlock → Slc W1 w.heap.size A' l' c' ys → l' ≤ 21 →
              ∃ us yss', RX (W1.setCell ⟨gb, k, none⟩ (.slice A' l' c')) w.heap.size (some ⟨gb, 0, none⟩) n2 us yss' ∧ (∀ i, i < n2 → (us.getD i sd0).2.1 ≤ 21) ∧ Src (W1.setCell ⟨gb, k, none⟩ (.slice A' l' c')) g ∧ w.grownBy (W1.setCell ⟨gb, k, none⟩ (.slice A' l' c')) (some g)) := Lib.hid fun W W1 A' l' c' ys hS hR hG h1 hs hl => by
            obtain ⟨r1, r2⟩ := hS.rx_put hk (by rw [Eow.out]; exact h1) hs
            refine ⟨_, _, r1, fun i hi => ?_, hR.gro2 r2 (fun j hj => by injection hj with hj; omega), grown_new2 hG r2 (fun j hj => by injection hj with hj; omega)⟩
            by_cases e : k = i
            · subst e; rw [getD_set_eq (by rw [hS.lv]; exact hk)]; exact hl
            · rw [getD_set_ne e]; exact Ln21.out i hi
          have fz := S5.out.own.frozenAt k
          obtain rfl | rfl | rfl : r = 0 ∨ r = 1 ∨ r = 2 := by omega
          · go_wp2_with fail
            have K7 : Hid (∀ W : World, w5.grownBy W (some g) → SS W w.heap.size w.heap.size (some ⟨gb, 0, none⟩) n2 c2 us2 yss ∧ Slc W w.heap.size Ak lk' ck' (yss.getD k []) ∧ W.cell? ⟨gb, k, none⟩ = some (.slice Ak lk' ck') ∧ w.grownBy W (some g) ∧ ∀ o : Obj, (W.alloc o).cell? ⟨gb, k, none⟩ = some (.slice Ak lk' ck')) := Lib.hid fun W gW => by
              have hS := (KS.out W (grown_trans' G5.out gW)).1
              have hr := hS.row k hk
              have e1 := Eow.out
              have e2 : (us2.getD k sd0).1 = Ak ∧ (us2.getD k sd0).2.1 = lk' ∧ (us2.getD k sd0).2.2 = ck' := by
                unfold sval at e1; injection e1 with a b c; exact ⟨a, b, c⟩
              rw [e2.1, e2.2.1, e2.2.2] at hr
              have hx : W.cell? ⟨gb, k, none⟩ = some (.slice Ak lk' ck') := (World.cell?_of_block (a := ⟨gb, k, none⟩) (gW.block gb hgb2 (by intro e; injection e with e; omega))).trans ck
              exact ⟨hS, hr, hx, (KS.out W (grown_trans' G5.out gW)).2, fun o => (World.cell?_of_block (a := ⟨gb, k, none⟩) (Below.heap_alloc W o gb (Nat.lt_of_lt_of_le hgb2 gW.size))).trans hx⟩
            have K8 : Hid (∀ (W W1 : World) (o : Obj), w5.grownBy W (some g) → (W.alloc o).grownBy W1 (Value.slice Ak lk' ck').ownBlock → W1.frozen? ⟨gb, k, none⟩ = false ∧ W1.cell? ⟨gb, k, none⟩ = some (.slice Ak lk' ck')) := Lib.hid fun W W1 o gW g1 => by
              obtain ⟨hS, hr, hx, _, _⟩ := K7.out W gW
              have hS' := hS.alloc o
              have hne := apart_flip (apart_types (hr.alloc o) hS'.own)
              have own7 := World.ownsRow.kept hS'.own g1 hne
              refine ⟨own7.frozenAt k, ?_⟩
              have hlt : gb < W.heap.size := Nat.lt_of_lt_of_le hgb2 gW.size
              have b1 : (W.alloc o).heap[gb]? = W.heap[gb]? := Below.heap_alloc W o gb hlt
              have b2 : W1.heap[gb]? = (W.alloc o).heap[gb]? := g1.block gb (by simp; omega) (by
                rcases hne with e | e
                · cases e
                · exact fun e2 => e e2)
              exact (World.cell?_of_block (a := ⟨gb, k, none⟩) (b2.trans b1)).trans hx
            go_region_law (first
              | (refine step_appN rfl (.tmp 43) (.tmp 46) rfl w.heap.size Ak lk' ck' (yss.getD k []) ?_ ((K7.out w6 G6.out).2.1.alloc _) w6.heap.size 0 1 1 [z'] ?_ (litRI w6 z') rfl ?_ ?_ (lk' + 1) rfl ?_; (simp [Act.eval, Act.put]); (simp [Act.eval, Act.put]); (omega); (have := G6.out.size; simp; omega); (intro A7 c7 w7 s7 g7; have x7 := (K8.out w6 w7 _ G6.out g7).2; have fz7 := (K8.out w6 w7 _ G6.out g7).1))
              | (go_simp; go_wp2_with (first
                | (go_at_call 121; (first | refine (srcNumberB g 20 w5 Sr5.out (by omega) (by omega)).mono ?_ | refine (srcNumberB g 20 w5.drew (Sr5.out.below (below_quiet w5 1) Sr5.out.lt) (by omega) (by omega)).mono ?_); rintro e w6 ⟨z', rfl, _, s6, g6⟩
                   have G6 : Hid (w5.grownBy w6 (some g)) := Lib.hid ⟨g6.os, g6.tape, g6.output, g6.size, g6.block⟩
                   have Sr6 := Lib.hid s6
                   have h6lt : gb < w6.heap.size := Nat.lt_of_lt_of_le hgb2 G6.out.size
                   have x6 := (K7.out w6 G6.out).2.2.1
                   have x6a := (K7.out w6 G6.out).2.2.2.2 (.cells #[.int .i64 z'] 2)
                   clear s6 g6))))
            all_goals
              obtain ⟨us', yss', hx, hl, hsr, hgr⟩ := FIN.out (w6.alloc (.cells #[.int .i64 z'] 2)) w7 A7 (lk' + 1) c7 _ ((K7.out w6 G6.out).1.alloc _) ((Sr6.out.below ((Below.refl w6.heap.size w6).alloc (Nat.le_refl _) (.cells #[.int .i64 z'] 2)) Sr6.out.lt).gro2 g7 (fun j hj => by have := ((K7.out w6 G6.out).2.1.lt_ j hj).1; omega)) (grown_new2 (grown_alloc2 (K7.out w6 G6.out).2.2.2.1 (.cells #[.int .i64 z'] 2)) g7 (fun j hj => ((K7.out w6 G6.out).2.1.lt_ j hj).1)) g7 s7 (by omega)
              go_wp2_with fail
              go_ret
              exact ⟨_, _, _, us', yss', rfl, hx, hn2, hl, hsr, hgr⟩
            all_goals
              obtain ⟨us', yss', hx, hl, hsr, hgr⟩ := FIN.out (w6.alloc (.cells #[.int .i64 z'] 2)) w7 A7 (lk' + 1) c7 _ ((K7.out w6 G6.out).1.alloc _) ((Sr6.out.below ((Below.refl w6.heap.size w6).alloc (Nat.le_refl _) (.cells #[.int .i64 z'] 2)) Sr6.out.lt).gro2 g7 (fun j hj => by have := ((K7.out w6 G6.out).2.1.lt_ j hj).1; omega)) (grown_new2 (grown_alloc2 (K7.out w6 G6.out).2.2.2.1 (.cells #[.int .i64 z'] 2)) g7 (fun j hj => ((K7.out w6 G6.out).2.1.lt_ j hj).1)) g7 s7 (by omega)
              go_wp2_with fail
              go_ret
              exact ⟨_, _, _, us', yss', rfl, hx, hn2, hl, hsr, hgr⟩
          · go_wp2_with fail
            go_ret
            obtain ⟨us', yss', hx, hl, hsr, hgr⟩ := FIN.out (w5.alloc (.cells #[] 2)) (w5.alloc (.cells #[] 2)) (some ⟨w5.heap.size, 0, none⟩) 0 0 [] (S5.out.alloc _) (Sr5.out.below ((Below.refl w5.heap.size w5).alloc (Nat.le_refl _) _) Sr5.out.lt) (grown_alloc2 Gw5.out _) (grown_refl _ _) ((Slc.lit0 w5 w5.heap.size (Nat.le_refl _)).mono hz5) (by omega)
            rw [World.setCell_alloc_past _ _ _ _ hgb2] at hx hsr hgr
            exact ⟨_, _, _, us', yss', rfl, hx, hn2, hl, hsr, hgr⟩
          · go_wp2_with fail
            · go_ret
              obtain rfl : n2 = 1 := by have := S5.out.own.2; rcases this with ⟨e, _⟩ | ⟨_, _, _, e, _, _, h, _⟩ <;> cases e <;> omega
              exact ⟨_, 0, ⟨_, rfl⟩, [], ⟨[], RX.nil_⟩, by omega, fun i hi => absurd hi (by omega), Sr5.out, Gw5.out⟩
            · go_ret
              refine ⟨_, n2 - 1, ⟨_, rfl⟩, us2.tail, ⟨yss.tail, (RX.of_ss S5.out (Nat.le_refl _) (Nat.le_refl _)).tail hn0⟩, by omega, fun i hi => ?_, Sr5.out, Gw5.out⟩
              have gv : us2.tail.getD i sd0 = us2.getD (i + 1) sd0 := by cases us2 <;> simp [List.getD_eq_getElem?_getD]
              rw [← List.getD_eq_getElem?_getD, gv]; exact Ln21.out (i + 1) (by omega)
        · have dn0 : decide ((0 : Int) < (n2 : Int)) = false := by simp; omega
          go_wp2_with fail
          go_ret
          exact ⟨_, _, _, us2, yss, rfl, KR.out _ G3.out, hn2, Ln21.out, Sr3.out, (KS.out _ G3.out).2⟩

set_option maxHeartbeats 4000000 in
set_option maxRecDepth 100000 in
/-- drawBlocks. -/
theorem drawBlk (g : Nat) (w : World) (hs : Src w g) :
    Calls Try.prog 78 #[.pointer (some ⟨g, 0, none⟩)] w fun e w' => ∃ (z : Int) (A : Option Addr) (m c : Nat) (vs : List SV) (xss : List (List Int)) (B : Option Addr) (k d : Nat) (us : List SV) (yss : List (List Int)), e = .returned (.tuple #[.int .i64 z, .slice A m c, .slice B k d]) ∧ B64 z ∧ RX w' w.heap.size A m vs xss ∧ m ≤ 9 ∧ (∀ i, i < m → (vs.getD i sd0).2.1 ≤ 21) ∧ RX w' w.heap.size B k us yss ∧ k ≤ 20 ∧ (∀ i, i < k → (us.getD i sd0).2.1 ≤ 21) ∧ Src w' g ∧ w.grownBy w' (some g) := by
  have Hs := Lib.hid hs
  have hgw := hs.lt
  clear hs
  go_enter Try.func78, Try.ntmps78
  go_wp2_with fail
  refine (drawGroupX g w Hs.out).mono ?_
  rintro e w1 ⟨z, A1, m, c, vs, xss, rfl, hB, rx, hm, hln, s1, g1⟩
  have HB := Lib.hid hB
  have Rx1 := Lib.hid rx
  have Ln := Lib.hid hln
  have Sr1 := Lib.hid s1
  have G1 := Lib.hid g1
  have Ln2 : Hid (∀ i, i < m → (vs.getD i sd0).2.1 ≤ 1048576) := Lib.hid fun i hi => by have := hln i hi; omega
  have hlx : Hid (xss.length = m) := Lib.hid rx.rr.lx
  clear hB rx hln s1 g1
  go_wp2_with fail
  refine (specGS z A1 m c vs xss w1 Rx1.out.rr (by omega) Ln2 HB.out).mono ?_
  rintro e w2 ⟨rfl, b2⟩
  have Sr2 := Lib.hid (Sr1.out.below b2 Sr1.out.lt)
  have Rx2 := Lib.hid (Rx1.out.up b2)
  have G2 : Hid (w.grownBy w2 (some g)) := Lib.hid (grown_below2 G1.out b2)
  clear b2 Sr1 Rx1 G1
  have KP : Hid (∀ W, Src W g → w.grownBy W (some g) → RX W w.heap.size A1 m vs xss → Calls Try.prog 106 #[.pointer (some ⟨g, 0, none⟩), .int .i64 z] W fun e w' => ∃ (B : Option Addr) (k d : Nat) (us : List SV) (yss : List (List Int)), e = .returned (.slice B k d) ∧ RX w' w.heap.size A1 m vs xss ∧ RX w' w.heap.size B k us yss ∧ k ≤ 20 ∧ (∀ i, i < k → (us.getD i sd0).2.1 ≤ 21) ∧ Src w' g ∧ w.grownBy w' (some g)) := Lib.hid fun W hW hG hR =>
    (drawPart g z W hW HB.out).mono fun e w' ⟨B, k, d, us, yss, he, r, hk, hl, hs, hg⟩ => ⟨B, k, d, us, yss, he, hR.gro hg hgw, r.lower hG.size, hk, hl, hs, grown_trans' hG hg⟩
  rcases hq : gB z xss with _ | _
  · clear hq
    go_wp2_with fail
    refine (KP.out w2 Sr2.out G2.out Rx2.out).mono ?_
    rintro e w3 ⟨B, k, d, us, yss, rfl, ra, rb, hk, hl, s3, g3⟩
    have Ra := Lib.hid ra
    have Rb := Lib.hid rb
    have Hl := Lib.hid hl
    have S3 := Lib.hid s3
    have G3 := Lib.hid g3
    clear ra rb hl s3 g3
    go_wp2_with fail
    go_ret3
    exact ⟨_, _, _, _, vs, xss, _, _, _, us, yss, rfl, HB.out, Ra.out, hm, Ln.out, Rb.out, hk, Hl.out, S3.out, G3.out⟩
  · obtain ⟨N, rfl, hN1, hN2, hg8, hpm, hok⟩ := gB_pm hq
    have Ok : Hid (∀ g ∈ xss, Pn N g) := Lib.hid hok
    have hm8 : m ≤ 8 := by rw [← hlx.out]; exact hg8
    clear hq hpm hok
    go_wp2_with fail
    refine (srcOne g _ 3 w2 Sr2.out rfl (by omega) (by omega)).mono ?_
    rintro e w3 ⟨b, rfl, s3, g3⟩
    have Sr3 := Lib.hid s3
    have Rx3 := Lib.hid (Rx2.out.gro g3 hgw)
    have G3 : Hid (w.grownBy w3 (some g)) := Lib.hid (grown_trans' G2.out g3)
    clear s3 g3 Sr2 Rx2 G2
    rcases b with _ | _
    · go_wp2_with fail
      refine (srcBelow g _ N w3 Sr3.out rfl (by omega) (by omega)).mono ?_
      rintro e w4 ⟨X, hX, rfl, s4, g4⟩
      have Sr4 := Lib.hid s4
      have Rx4 := Lib.hid (Rx3.out.gro g4 hgw)
      have G4 : Hid (w.grownBy w4 (some g)) := Lib.hid (grown_trans' G3.out g4)
      clear s4 g4 Sr3 Rx3 G3
      go_wp2_with fail
      refine (srcBelow g _ N w4 Sr4.out rfl (by omega) (by omega)).mono ?_
      rintro e w5 ⟨Y, hY, rfl, s5, g5⟩
      have Sr5 := Lib.hid s5
      have Rx5 := Lib.hid (Rx4.out.gro g5 hgw)
      have G5 : Hid (w.grownBy w5 (some g)) := Lib.hid (grown_trans' G4.out g5)
      clear s5 g5 Sr4 Rx4 G4
      go_wp2_with fail
      refine (specMinB N m c X Y A1 vs xss w5 Rx5.out.rr Ok hm8 hN1 hN2 hX hY).mono ?_
      rintro e w6 ⟨B, k, d, us, r, rfl, _, s6, b6⟩
      have Pb := prt_bound (canon_prt N r) hN2
      have hk : k ≤ 20 := by rw [← s6.lx]; exact Pb.1
      have Hl : Hid (∀ i, i < k → (us.getD i sd0).2.1 ≤ 21) := Lib.hid fun i hi => by
        rw [← (s6.row i hi).1]
        refine Nat.le_trans (Pb.2 _ ?_) (by decide)
        rw [List.getD_eq_getElem?_getD, List.getElem?_eq_getElem (by rw [s6.lx]; exact hi)]; exact List.getElem_mem _
      have Sr6 := Lib.hid (Sr5.out.below b6 Sr5.out.lt)
      have Ra := Lib.hid (Rx5.out.up b6)
      have Rb : Hid (RX w6 w.heap.size B k us (canon N r)) := Lib.hid (RX.of_ss s6 G5.out.size G5.out.size)
      have G6 : Hid (w.grownBy w6 (some g)) := Lib.hid (grown_below2 G5.out b6)
      clear s6 b6 Pb Sr5 Rx5 G5
      go_wp2_with fail
      go_ret3
      exact ⟨_, _, _, _, vs, xss, _, _, _, us, _, rfl, HB.out, Ra.out, hm, Ln.out, Rb.out, hk, Hl.out, Sr6.out, G6.out⟩
    · go_wp2_with fail
      refine (KP.out w3 Sr3.out G3.out Rx3.out).mono ?_
      rintro e w4 ⟨B, k, d, us, yss, rfl, ra, rb, hk, hl, s3, g3⟩
      have Ra := Lib.hid ra
      have Rb := Lib.hid rb
      have Hl := Lib.hid hl
      have S3 := Lib.hid s3
      have G3 := Lib.hid g3
      clear ra rb hl s3 g3
      go_wp2_with fail
      go_ret3
      exact ⟨_, _, _, _, vs, xss, _, _, _, us, yss, rfl, HB.out, Ra.out, hm, Ln.out, Rb.out, hk, Hl.out, S3.out, G3.out⟩

set_option maxHeartbeats 1000000 in
theorem drawBS (len cap : Nat) (A : Option Addr) (w : World) (hb : SB w w.heap.size A len) (hl : len ≤ 4096) :
    Calls Try.prog 38 #[.slice A len cap] w fun e w' => ∃ (z : Int) (A : Option Addr) (m c : Nat) (vs : List SV) (xss : List (List Int)) (B : Option Addr) (k d : Nat) (us : List SV) (yss : List (List Int)), e = .returned (.tuple #[.int .i64 z, .slice A m c, .slice B k d]) ∧ I64 z ∧ GIn w' A m vs xss ∧ GIn w' B k us yss ∧ k ≤ 20 ∧ (∀ i, i < k → (us.getD i sd0).2.1 ≤ 21) ∧ Below w.heap.size w w' := by
  go_enter Try.func38, Try.ntmps38
  go_wp2_with fail
  refine (newSrc len cap A w hb hl).mono ?_
  rintro e w1 ⟨rfl, s1, b1⟩
  have S1 := Lib.hid s1
  have B1 := Lib.hid b1
  clear s1 b1
  go_wp2_with fail
  refine (drawBlk w.heap.size w1 S1.out).mono ?_
  rintro e w2 ⟨z, A2, m, c, vs, xss, A3, k, d, us, yss, rfl, hB, rx, hm, hln, ry, hk, hln2, s2, g2⟩
  have HB := Lib.hid hB
  have Gi : Hid (GIn w2 A2 m vs xss) := Lib.hid ⟨rx.rr, by omega, fun i hi => by have := hln i hi; omega⟩
  have Gj : Hid (GIn w2 A3 k us yss) := Lib.hid ⟨ry.rr, by omega, fun i hi => by have := hln2 i hi; omega⟩
  have Hl := Lib.hid hln2
  have B2 : Hid (Below w.heap.size w w2) := Lib.hid (below_gro4 B1.out g2 (Nat.le_refl _))
  clear hB rx hln ry hln2 s2 g2
  go_wp2_with fail
  go_ret3
  exact ⟨_, _, _, _, vs, xss, _, _, _, us, yss, rfl, HB.out, Gi.out, Gj.out, hk, Hl.out, B2.out⟩

set_option maxHeartbeats 1000000 in
theorem drawBA (len cap : Nat) (A : Option Addr) (w : World) (hb : SB w w.heap.size A len) (hl : len ≤ 4096) :
    Calls Try.prog 43 #[.slice A len cap] w fun e w' => ∃ (z : Int) (A : Option Addr) (m c : Nat) (vs : List SV) (xss : List (List Int)) (B : Option Addr) (k d : Nat) (us : List SV) (yss : List (List Int)), e = .returned (.tuple #[.int .i64 z, .slice A m c, .slice B k d]) ∧ I64 z ∧ GIn w' A m vs xss ∧ GIn w' B k us yss ∧ k ≤ 20 ∧ (∀ i, i < k → (us.getD i sd0).2.1 ≤ 21) ∧ Below w.heap.size w w' := by
  go_enter Try.func43, Try.ntmps43
  go_wp2_with fail
  refine (newSrc len cap A w hb hl).mono ?_
  rintro e w1 ⟨rfl, s1, b1⟩
  have S1 := Lib.hid s1
  have B1 := Lib.hid b1
  clear s1 b1
  go_wp2_with fail
  refine (drawBlk w.heap.size w1 S1.out).mono ?_
  rintro e w2 ⟨z, A2, m, c, vs, xss, A3, k, d, us, yss, rfl, hB, rx, hm, hln, ry, hk, hln2, s2, g2⟩
  have HB := Lib.hid hB
  have Gi : Hid (GIn w2 A2 m vs xss) := Lib.hid ⟨rx.rr, by omega, fun i hi => by have := hln i hi; omega⟩
  have Gj : Hid (GIn w2 A3 k us yss) := Lib.hid ⟨ry.rr, by omega, fun i hi => by have := hln2 i hi; omega⟩
  have Hl := Lib.hid hln2
  have B2 : Hid (Below w.heap.size w w2) := Lib.hid (below_gro4 B1.out g2 (Nat.le_refl _))
  clear hB rx hln ry hln2 s2 g2
  go_wp2_with fail
  go_ret3
  exact ⟨_, _, _, _, vs, xss, _, _, _, us, yss, rfl, HB.out, Gi.out, Gj.out, hk, Hl.out, B2.out⟩
end Go.Proofs.Ytedfcljikgmpgaa

/- The laws' dice and the permutations drawn by them. Conditions: at most 4096 bytes; degrees from 1 to 20. -/
namespace Go.Proofs.Ytedfcljikgmpgaa
open Go.RowKit

/-- The bytes at A can be read: len of them, in blocks below B. -/
def RB (w : World) (B : Nat) (A : Option Addr) (len : Nat) : Prop :=
  0 < len → ∃ b off, A = some ⟨b, off, none⟩ ∧ b < B ∧ ∀ j, j < len → ∃ z : Nat, z ≤ 255 ∧ w.cell? ⟨b, off + j, none⟩ = some (.int .u8 z)
theorem RB.keep {w w' : World} {B len : Nat} {A : Option Addr} (h : RB w B A len) (hk : ∀ p : Addr, p.block < B → w'.cell? p = w.cell? p) : RB w' B A len := fun hn => by
  obtain ⟨b, off, e, hb, hc⟩ := h hn
  exact ⟨b, off, e, hb, fun j hj => by obtain ⟨z, hz, c⟩ := hc j hj; exact ⟨z, hz, (hk ⟨b, off + j, none⟩ hb).trans c⟩⟩
theorem RB.below {w w' : World} {B B' len : Nat} {A : Option Addr} (h : RB w B A len) (hb : Below B' w w') (hB : B ≤ B') : RB w' B A len := h.keep fun _ hp => hb.cell (by omega)

/-- Block g is a dice over those bytes. -/
def Dice (w : World) (g : Nat) (A : Option Addr) (len cap : Nat) : Prop :=
  ∃ (i : Nat) (h : Int), i ≤ len ∧ 0 ≤ h ∧ h < 18446744073709551616 ∧ Blk w g 72 #[.slice A len cap, .int .i64 i, .int .u64 h]

theorem wrap_range (n : Int) : 0 ≤ IntKind.u64.wrap n ∧ IntKind.u64.wrap n < 18446744073709551616 := by
  have e : IntKind.u64.wrap n = n % 18446744073709551616 := by simp [IntKind.wrap, IntKind.bits, IntKind.signed]
  rw [e]
  exact ⟨Int.emod_nonneg _ (by decide), Int.emod_lt_of_pos _ (by decide)⟩
theorem and_small (a : Int) (h0 : 0 ≤ a) (h1 : a < 18446744073709551616) : ∃ X : Nat, X ≤ 16777215 ∧ bits BinOp.and IntKind.u64 a 16777215 = (X : Int) := by
  refine ⟨a.toNat &&& 16777215, Nat.and_le_right, ?_⟩
  have h := bits_and_u64_nat a.toNat 16777215 (by omega) (by omega)
  rw [Int.toNat_of_nonneg h0] at h
  exact h

set_option maxHeartbeats 400000 in
theorem diceBelow (g len cap N : Nat) (A : Option Addr) (B : Nat) (w : World) (hd : Dice w g A len cap) (hb : RB w B A len) (hl : len ≤ 4096) (hN : 1 ≤ N) (hN2 : N ≤ 100) (hB : B ≤ g) :
    Calls Try.prog 41 #[.pointer (some ⟨g, 0, none⟩), .int .i64 N] w fun e w' => ∃ r : Nat, r < N ∧ e = .returned (.int .i64 r) ∧ Dice w' g A len cap ∧ w.grownBy w' (some g) := by
  obtain ⟨i, h, hi, h0, h1, blk⟩ := hd
  have c0 : w.cell? ⟨g, 0, none⟩ = some (.slice A len cap) := blk.cell 0
  have c1 : w.cell? ⟨g, 1, none⟩ = some (.int .i64 i) := blk.cell 1
  have c2 : w.cell? ⟨g, 2, none⟩ = some (.int .u64 h) := blk.cell 2
  have f1 := blk.frozen 1
  have f2 := blk.frozen 2
  obtain ⟨H, eH⟩ : ∃ H, IntKind.u64.wrap (IntKind.u64.wrap (h * 6364136223846793005) + 1442695040888963407) = H := ⟨_, rfl⟩
  have hH := wrap_range (IntKind.u64.wrap (h * 6364136223846793005) + 1442695040888963407)
  rw [eH] at hH
  obtain ⟨X, hX, eX⟩ := and_small (H / 8589934592) (by omega) (by omega)
  have HH := Lib.hid hH
  have Blk' := Lib.hid blk
  have j0 : (0 : Int) ≤ i := by omega
  by_cases hlt : i < len
  · obtain ⟨b, off, rfl, hb', hc⟩ := hb (by omega)
    obtain ⟨z, hz, cz⟩ := hc i hlt
    have cz2 : (w.setCell ⟨g, 2, none⟩ (.int .u64 H)).cell? ⟨b, off + i, none⟩ = some (.int .u8 z) := (World.cell?_setCell_other _ _ _ _ (fun e => by injection e with e1; omega)).trans cz
    have j1 : (i : Int) < len := by omega
    have j2 : decide ((i : Int) < (len : Int)) = true := by simpa using hlt
    have Hb := Lib.hid hb'
    have Blk2 := Lib.hid ((Blk'.out.set_ 2 (.int .u64 H)).set_ 1 (.int .i64 ((i : Int) + 1)))
    clear hb hc blk hH h0 h1
    go_enter Try.func41, Try.ntmps41
    go_wp2_with fail
    go_quiet (fail)
    go_wp2_with fail
    go_quiet (fail)
    go_wp2_with fail
    go_ret
    refine ⟨(X + z) % N, Nat.mod_lt _ (by omega), ret_int (by rw [Int.natCast_emod, Int.natCast_add]), ⟨i + 1, H, by omega, HH.out.1, HH.out.2, ?_⟩, ?_⟩
    · exact Blk2.out
    · exact grown_set (grown_drewN (grown_set (grown_refl w _) 2 _) _) 1 _
  · have j2 : decide ((i : Int) < (len : Int)) = false := by simp; omega
    have Blk2 := Lib.hid (Blk'.out.set_ 2 (.int .u64 H))
    clear hb blk hH h0 h1
    go_enter Try.func41, Try.ntmps41
    go_wp2_with fail
    go_quiet (fail)
    go_wp2_with fail
    go_ret
    refine ⟨X % N, Nat.mod_lt _ (by omega), ret_int (by rw [Int.natCast_emod]), ⟨i, H, by omega, HH.out.1, HH.out.2, ?_⟩, ?_⟩
    · exact Blk2.out
    · exact grown_drewN (grown_set (grown_refl w _) 2 _) _

theorem diceBelowK (g len cap N : Nat) (K : Int) (A : Option Addr) (B : Nat) (w : World) (hd : Dice w g A len cap) (hb : RB w B A len) (hl : len ≤ 4096) (hN : 1 ≤ N) (hN2 : N ≤ 100) (hB : B ≤ g) (hK : K = (N : Int)) :
    Calls Try.prog 41 #[.pointer (some ⟨g, 0, none⟩), .int .i64 K] w fun e w' => ∃ r : Nat, r < N ∧ e = .returned (.int .i64 r) ∧ Dice w' g A len cap ∧ w.grownBy w' (some g) := by
  subst hK
  exact diceBelow g len cap N A B w hd hb hl hN hN2 hB
theorem grown_trans {a b c : World} {row : Option Nat} (h : a.grownBy b row) (k : b.grownBy c row) : a.grownBy c row :=
  ⟨k.os.trans h.os, k.tape.trans h.tape, k.output.trans h.output, Nat.le_trans h.size k.size, fun i hi hn => (k.block i (Nat.lt_of_lt_of_le hi h.size) hn).trans (h.block i hi hn)⟩
theorem RB.gro {w w' : World} {B len g : Nat} {A : Option Addr} (h : RB w B A len) (hg : w.grownBy w' (some g)) (hB : B ≤ g) (hg2 : g < w.heap.size) : RB w' B A len :=
  h.keep fun p hp => World.cell?_of_block (hg.block p.block (by omega) (by simp; omega))

set_option maxHeartbeats 800000 in
theorem rollDice (len cap : Nat) (S : Int) (A : Option Addr) (w : World) (hb : RB w w.heap.size A len) (hl : len ≤ 4096) (hS0 : 0 ≤ S) (hS1 : S ≤ 1000) :
    Calls Try.prog 40 #[.slice A len cap, .int .u64 S] w fun e w' => e = .returned (.pointer (some ⟨w.heap.size, 0, none⟩)) ∧ Dice w' w.heap.size A len cap ∧ Below w.heap.size w w' ∧ w.heap.size < w'.heap.size := by
  go_enter Try.func40, Try.ntmps40
  go_wp2_with fail
  go_loopw [6] (fun i wr => ∃ (k : Nat) (h : Int), k ≤ len ∧ i = .int .i64 (k : Nat) ∧ 0 ≤ h ∧ h < 18446744073709551616 ∧ Blk wr w.heap.size 72 #[.slice A len cap, .int .i64 0, .int .u64 h] ∧ Below w.heap.size w wr) (fun i _ => len - (intOf i).toNat)
  case atStart => exact ⟨0, _, Nat.zero_le _, rfl, by omega, by omega, Blk.new _ _ _, (Below.refl _ _).alloc (Nat.le_refl _) _⟩
  case round =>
    obtain ⟨k, h, hk, rfl, h0, h1, blk, bel⟩ := hrel
    by_cases hlt : k < len
    · obtain ⟨b, off, rfl, hb', hc⟩ := hb (by omega)
      obtain ⟨z, hz, cz0⟩ := hc k hlt
      have cz := (bel.cell (p := ⟨b, off + k, none⟩) hb').trans cz0
      have c2 : wr.cell? ⟨w.heap.size, 2, none⟩ = some (.int .u64 h) := blk.cell 2
      have f2 := blk.frozen 2
      obtain ⟨H, eH⟩ : ∃ H, IntKind.u64.wrap (IntKind.u64.wrap (IntKind.u64.wrap (h * 1099511628211) + z) + 3) = H := ⟨_, rfl⟩
      have hH := wrap_range (IntKind.u64.wrap (IntKind.u64.wrap (h * 1099511628211) + z) + 3)
      rw [eH] at hH
      have HH := Lib.hid hH
      have Blk2 := Lib.hid (blk.set_ 2 (.int .u64 H))
      have Bel2 := Lib.hid (bel.setCell (p := ⟨w.heap.size, 2, none⟩) (Nat.le_refl _) (.int .u64 H))
      have j1 : (k : Int) < len := by omega
      have j0 : (0 : Int) ≤ k := by omega
      clear blk bel hc hb cz0 hH h0 h1
      go_wp2_with fail
      go_region
      all_goals go_wp2_with fail
      all_goals go_roundw
      case rel => exact ⟨k + 1, H, by omega, by go_num, HH.out.1, HH.out.2, Blk2.out, Bel2.out.drew⟩
      case measure => simp [intOf]; omega
    · have hkn : k = len := by omega
      subst hkn
      have Blk' := Lib.hid blk
      have Bel := Lib.hid bel
      clear blk bel
      go_wp2
      go_ret
      exact ⟨rfl, ⟨0, h, Nat.zero_le _, h0, h1, Blk'.out⟩, Bel.out, Blk'.out.lt⟩

theorem isP_id {n : Nat} (h1 : 1 ≤ n) (h2 : n ≤ 20) : IsP (idL n) := by
  refine ⟨by rw [idL_length]; exact h1, by rw [idL_length]; exact h2, fun i hi => ?_, fun i hi => ?_, fun i j hi hj e => ?_⟩
  · rw [idL_length] at hi; rw [idL_getD hi]; omega
  · rw [idL_length] at hi ⊢; rw [idL_getD hi]; omega
  · rw [idL_length] at hi hj; rw [idL_getD hi, idL_getD hj] at e; omega
theorem isP_swap {p : List Int} (h : IsP p) {i k : Nat} (hi : i < p.length) (hk : k < p.length) : IsP ((p.set i (p.getD k 0)).set k (p.getD i 0)) := by
  have hl : ((p.set i (p.getD k 0)).set k (p.getD i 0)).length = p.length := by simp
  have hl1 : (p.set i (p.getD k 0)).length = p.length := by simp
  have hg : ∀ j, j < p.length → ((p.set i (p.getD k 0)).set k (p.getD i 0)).getD j 0 = if k = j then p.getD i 0 else if i = j then p.getD k 0 else p.getD j 0 := fun j hj => by
    rw [set_getD hl1 hj, set_getD rfl hj]
  refine ⟨by rw [hl]; exact h.pos, by rw [hl]; exact h.le, fun j hj => ?_, fun j hj => ?_, fun a b ha hb e => ?_⟩
  · rw [hl] at hj; rw [hg j hj]
    split
    · exact h.lo i hi
    · split
      · exact h.lo k hk
      · exact h.lo j hj
  · rw [hl] at hj ⊢; rw [hg j hj]
    split
    · exact h.hi i hi
    · split
      · exact h.hi k hk
      · exact h.hi j hj
  · rw [hl] at ha hb
    rw [hg a ha, hg b hb] at e
    have inj := h.inj
    split at e
    · split at e
      · omega
      · split at e
        · have := inj i k hi hk e; omega
        · have := inj i b hi hb e; omega
    · split at e
      · split at e
        · have := inj k i hk hi e; omega
        · split at e
          · omega
          · have := inj k b hk hb e; omega
      · split at e
        · have := inj a i ha hi e; omega
        · split at e
          · have := inj a k ha hk e; omega
          · exact inj a b ha hb e

end Go.Proofs.Ytedfcljikgmpgaa
