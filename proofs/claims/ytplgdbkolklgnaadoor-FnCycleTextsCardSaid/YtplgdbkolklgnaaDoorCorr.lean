/- The model's corrupt: some text, at most two bytes longer. Condition: at most 100 bytes, seven letters. -/
import Derived.Test.YtplgdbkolklgnaaDoorDrawP
import Derived.Deep.RegionLaw
namespace Go.Proofs.YtplgdbkolklgnaaDoor
open Go.RowKit

def RowU (w : World) (base q n c : Nat) (xs : List Int) : Prop := xs.length = n ∧ w.ownsRow base 5 1 (.slice (some ⟨q, 0, none⟩) n c) n (xs.map (Value.int .u8))
section
variable {w w' : World} {base q n c : Nat} {xs : List Int}
theorem RowU.cell (h : RowU w base q n c xs) {j : Nat} (hj : j < n) : w.cell? ⟨q, j, none⟩ = some (.int .u8 (xs.getD j 0)) := by
  have hl := h.1
  rw [h.2.cellAt j (by omega), List.getElem?_map, List.getD_eq_getElem?_getD, List.getElem?_eq_getElem (by omega)]; rfl
theorem RowU.free (h : RowU w base q n c xs) (j : Nat) : w.frozen? ⟨q, j, none⟩ = false := h.2.frozenAt j
theorem RowU.lt_ (h : RowU w base q n c xs) : base ≤ q ∧ q < w.heap.size := World.ownsRow.lt h.2 q rfl
theorem RowU.kept (h : RowU w base q n c xs) {row : Option Nat} (hg : w.grownBy w' row) (hne : some q ≠ row) : RowU w' base q n c xs := ⟨h.1, World.ownsRow.kept h.2 hg (.inr hne)⟩
theorem RowU.alloc (h : RowU w base q n c xs) (o : Obj) : RowU (w.alloc o) base q n c xs := ⟨h.1, World.ownsRow.alloc h.2 o⟩
theorem RowU.drew (h : RowU w base q n c xs) : RowU w.drew base q n c xs := h
theorem RowU.le (h : RowU w base q n c xs) : n ≤ c := by
  rcases h.2.2 with ⟨e, _⟩ | ⟨g, cap, cur, e, _, _, hc, _⟩
  · cases e
  · injection e with e1 e2 e3; omega
end
theorem RowU.lit0 (w : World) (base : Nat) (hb : base ≤ w.heap.size) : RowU (w.alloc (.cells #[] 5)) base w.heap.size 0 0 [] :=
  ⟨rfl, World.ownsRow_lit (size := 1) w #[] 0 hb (Nat.zero_le _) rfl⟩
theorem infoU : (Tryd.prog.info? 5).map (fun i => (i.zero, i.size, i.bytes)) = some (some (.int .u8 0), 1, 1) := by kernel_rfl

/-- append of readable bytes, as one step of a region that draws. -/
theorem step_appU {w : World} {ops : Array Oper} {o : Oper} {a : Act} {K : Act → World → Prop} {Q : Exit → Act → World → Prop} {E : Prop} (hgd : o.guard = none) (s x : Operand)
    (ho : o.op = .call { callee := .builtin .append, args := #[s, x], argTypes := #[22, 22] })
    (base q n c : Nat) (xs : List Int) (hs : a.eval s = .slice (some ⟨q, 0, none⟩) n c) (hown : RowU w base q n c xs) (g off m c2 : Nat) (ys : List Int) (hx : a.eval x = .slice (some ⟨g, off, none⟩) m c2)
    (hy : ∀ j, j < m → w.cell? ⟨g, off + j, none⟩ = some (.int .u8 (ys.getD j 0))) (ly : ys.length = m) (hn : n + m ≤ 1000000000) (hbase : base ≤ w.heap.size) (N : Nat) (hN : n + m = N)
    (h : ∀ q' c' w', RowU w' base q' N c' (xs ++ ys) → w.grownBy w' (some q) → K (a.put o.dst (.slice (some ⟨q', 0, none⟩) N c')) w') : if Region.wanted o (yielded ops a.tmps) = true then Oper.wp Tryd.prog o a w K Q else E := by
  have hw : Region.wanted o (yielded ops a.tmps) = true := by simp [Region.wanted, hgd]
  rw [if_pos hw]
  subst hN
  obtain ⟨i0, hi, hz0, hz1, hz2⟩ := info_parts infoU
  obtain ⟨hl, ho'⟩ := hown
  refine wp_append_own w s x 22 ho base 5 i0 (.int .u8 0) 1 1 Tryd.underlying22 hi hz0 hz1 hz2 rfl (by decide) _ n _ hs ho' ⟨g, off, none⟩ m c2 (ys.map (Value.int .u8)) hx (by simp [ly]) ?_ ?_ ?_ (by omega) hbase ?_
  · intro j v hj
    have hjl : j < ys.length := by
      have := (List.getElem?_eq_some_iff.1 hj).1
      simpa using this
    have e : (⟨g, off, none⟩ : Addr).add j = ⟨g, off + j, none⟩ := by unfold Addr.add; split <;> simp_all
    rw [e, hy j (by omega)]
    rw [List.getElem?_map, List.getElem?_eq_getElem hjl] at hj
    rw [← Option.some.inj hj, List.getD_eq_getElem?_getD, List.getElem?_eq_getElem hjl]; rfl
  · intro v hv; rw [List.mem_map] at hv; obtain ⟨u, _, rfl⟩ := hv; rfl
  · unfold maxLen; omega
  · intro v' w' hown' hg hiff
    rcases hown'.2 with ⟨e, _⟩ | ⟨q', cap, cur, e, hrest⟩
    · have := (hiff.1 e).1; cases this
    · subst e
      exact h q' cap w' ⟨by rw [List.length_append]; omega, by rw [List.map_append]; exact hown'⟩ hg

/-- The text as it stands: bytes that can be read and written. -/
def BT (w : World) (base q n c : Nat) (xs : List Int) : Prop := xs.length = n ∧ n ≤ c ∧ base ≤ q ∧ q < w.heap.size ∧ (∀ j, j < n → w.cell? ⟨q, j, none⟩ = some (.int .u8 (xs.getD j 0))) ∧ (∀ j, j < n → w.frozen? ⟨q, j, none⟩ = false)
theorem BT.of_row {w : World} {base q n c : Nat} {xs : List Int} (h : RowU w base q n c xs) : BT w base q n c xs :=
  ⟨h.1, h.le, h.lt_.1, h.lt_.2, fun _ hj => h.cell hj, fun j _ => h.free j⟩
theorem BT.gro {w w' : World} {base q n c g : Nat} {xs : List Int} (h : BT w base q n c xs) (hg : w.grownBy w' (some g)) (hb : g < base) : BT w' base q n c xs := by
  obtain ⟨h1, h2, h3, h4, h5, h6⟩ := h
  have hk := hg.block q h4 (by intro e; injection e with e; omega)
  exact ⟨h1, h2, h3, Nat.lt_of_lt_of_le h4 hg.size, fun j hj => (World.cell?_of_block (a := ⟨q, j, none⟩) hk).trans (h5 j hj), fun j hj => by rw [← h6 j hj]; unfold World.frozen?; rw [hk]⟩
theorem BT.take {w : World} {base q n c : Nat} {xs : List Int} (h : BT w base q n c xs) {i : Nat} (hi : i ≤ n) : BT w base q i c (xs.take i) := by
  obtain ⟨h1, h2, h3, h4, h5, h6⟩ := h
  refine ⟨by rw [List.length_take]; omega, by omega, h3, h4, fun j hj => ?_, fun j hj => h6 j (by omega)⟩
  rw [h5 j (by omega)]
  have : (xs.take i).getD j 0 = xs.getD j 0 := by rw [List.getD_eq_getElem?_getD, List.getElem?_take, if_pos hj, ← List.getD_eq_getElem?_getD]
  rw [this]
theorem drop_getD (xs : List Int) (i j : Nat) : (xs.drop i).getD j 0 = xs.getD (i + j) 0 := by rw [List.getD_eq_getElem?_getD, List.getElem?_drop, ← List.getD_eq_getElem?_getD]

theorem below_drew1 {B : Nat} {w w' : World} (h : Below B w w') : Below B w w'.drew := ⟨h.os, h.tape, h.output, h.size, h.block⟩
theorem grown_undrew {w w' : World} {row : Option Nat} (h : w.drew.grownBy w' row) : w.grownBy w' row := ⟨h.os, h.tape, h.output, h.size, h.block⟩
theorem BT.mono {w : World} {base base' q n c : Nat} {xs : List Int} (h : BT w base q n c xs) (hb : base' ≤ base) : BT w base' q n c xs := ⟨h.1, h.2.1, Nat.le_trans hb h.2.2.1, h.2.2.2⟩
def LB (w : World) (b z : Nat) : Prop := w.cell? ⟨b, 0, none⟩ = some (.int .u8 (z : Int)) ∧ b < w.heap.size
theorem LB.new (w : World) (z : Nat) : LB (w.alloc (.cells #[.int .u8 (z : Int)] 5)) w.heap.size z := ⟨by rw [World.cell?_alloc_at _ _ _ _ rfl]; rfl, by simp⟩
theorem LB.alloc {w : World} {b z : Nat} (h : LB w b z) (o : Obj) : LB (w.alloc o) b z := ⟨(World.cell?_alloc_lt w o ⟨b, 0, none⟩ h.2).trans h.1, by have := h.2; simp; omega⟩
theorem LB.kept {w w' : World} {b z : Nat} {row : Option Nat} (h : LB w b z) (hg : w.grownBy w' row) (hne : some b ≠ row) : LB w' b z := ⟨(World.cell?_of_block (a := ⟨b, 0, none⟩) (hg.block b h.2 hne)).trans h.1, Nat.lt_of_lt_of_le h.2 hg.size⟩
theorem LB.cells {w : World} {b z : Nat} (h : LB w b z) : ∀ j, j < 1 → w.cell? ⟨b, 0 + j, none⟩ = some (.int .u8 ([(z : Int)].getD j 0)) := fun j hj => by
  obtain rfl : j = 0 := by omega
  exact h.1
theorem BT.of_bytes (w : World) (s : ByteArray) (C : Nat) (hC : grownCap w s.size 0 5 = C) : ∃ xs, BT (Lib.bytesWorld w 5 s) w.heap.size w.heap.size s.size C xs := by
  have hge := grownCap_ge w s.size 0 5
  refine ⟨s.data.toList.map fun b => (b.toNat : Int), by rw [List.length_map, Array.length_toList]; rfl, by omega, Nat.le_refl _, by rw [Lib.bytesWorld_size]; omega, fun j hj => ?_, fun j hj => ?_⟩
  · rw [Lib.bytesWorld_cell w _ s j hj]
    have hjl : j < s.data.toList.length := by rw [Array.length_toList]; exact hj
    rw [List.getD_eq_getElem?_getD, List.getD_eq_getElem?_getD, List.getElem?_map, List.getElem?_eq_getElem hjl]; rfl
  · unfold World.frozen?
    rw [Lib.bytesWorld_at_new]
    have hsz : s.size ≤ (Lib.bytesCells w 5 s).size := by simp [Lib.bytesCells]
    have hno : ¬ (Lib.bytesCells w 5 s).size ≤ j := by omega
    simp [hno]
theorem convBT {w : World} {base q n c : Nat} {xs : List Int} (h : BT w base q n c xs) : (convert 22 9 (.slice (some ⟨q, 0, none⟩) n c)).run Tryd.prog w = .ok (.string (strOfNums xs)) w :=
  run_convert_bytes_arg _ 22 5 Tryd.underlying22 Tryd.underlying5 q 0 n c xs h.1 (fun i hi => by rw [Nat.zero_add]; exact h.2.2.2.2.1 i hi) 9 Tryd.underlying9
theorem BT.store {w : World} {base q n c : Nat} {xs : List Int} (h : BT w base q n c xs) {i : Nat} (hi : i < n) (u : Int) : ∃ ys, BT (w.setCell ⟨q, i, none⟩ (.int .u8 u)) base q n c ys := by
  obtain ⟨h1, h2, h3, h4, h5, h6⟩ := h
  refine ⟨xs.set i u, by rw [List.length_set]; exact h1, h2, h3, by simpa [World.setCell] using h4, fun j hj => ?_, fun j hj => ?_⟩
  · by_cases e : i = j
    · subst e
      rw [World.cell?_setCell_same _ _ _ (h5 i hi), set_getD rfl (by omega), if_pos rfl]
    · rw [World.cell?_setCell_other _ _ _ _ (fun e2 => by injection e2 with e3 e4; omega), h5 j hj, set_getD rfl (by omega), if_neg e]
  · rw [← h6 j hj]
    exact World.frozen?_setCell w _ _ _

set_option maxHeartbeats 8000000 in
theorem corrT (g : Nat) (s u : ByteArray) (w : World) (hs : Src w g) (hl : s.size ≤ 100) (hu : u.size = 7) :
    Calls Tryd.prog 40 #[.pointer (some ⟨g, 0, none⟩), .string s, .string u] w fun e w' => ∃ t, e = .returned (.string t) ∧ t.size ≤ 200 ∧ Src w' g ∧ w.grownBy w' (some g) := by
  have hcv := Lib.run_convert_string_bytes (P := Tryd.prog) w 9 22 5 s (u := .string) Tryd.underlying9 Tryd.underlying22 Tryd.underlying5
  obtain ⟨C, eC⟩ : ∃ C, grownCap w s.size 0 5 = C := ⟨_, rfl⟩
  have T0 := BT.of_bytes w s C eC
  obtain ⟨W1, eW⟩ : ∃ W1, Lib.bytesWorld w 5 s = W1 := ⟨_, rfl⟩
  rw [eC, eW] at hcv
  rw [eW] at T0
  have hg := hs.lt
  have B1 : Hid (Below w.heap.size w W1) := Lib.hid (by
    rw [← eW]
    exact ⟨rfl, rfl, rfl, by rw [Lib.bytesWorld_size]; omega, fun i hi => Lib.bytesWorld_at_old w _ s i hi⟩)
  have S1 : Hid (Src W1 g) := Lib.hid (hs.below B1.out hg)
  have G1 : Hid (w.grownBy W1 (some g)) := Lib.hid (grown_below2 (grown_refl _ _) B1.out)
  have T1 := Lib.hid T0
  clear eC eW T0
  go_enter Tryd.func40, Tryd.ntmps40
  go_wp2_with fail
  refine (srcBelow g _ 3 W1 S1.out rfl (by omega) (by omega)).mono ?_
  rintro e w2 ⟨k0, hk0, rfl, s2, g2⟩
  have S2 := Lib.hid s2
  have G2 : Hid (w.grownBy w2 (some g)) := Lib.hid (grown_trans' G1.out g2)
  have T2 : Hid (∃ xs, BT w2 w.heap.size w.heap.size s.size C xs) := Lib.hid (by obtain ⟨xs, h⟩ := T1.out; exact ⟨xs, h.gro g2 hg⟩)
  clear s2 g2 hcv
  go_wp2_with fail
  go_loopg [7, 8, 9] 2 (fun gg v kk _ wr => ∃ k q n c xs, k ≤ 2 ∧ k ≤ gg ∧ kk = .int .i64 (k : Nat) ∧ v = .slice (some ⟨q, 0, none⟩) n c ∧ n + k ≤ s.size + 2 ∧ BT wr w.heap.size q n c xs ∧ Src wr g ∧ w.grownBy wr (some g))
  case atStart =>
    obtain ⟨xs, h⟩ := T2.out
    exact ⟨k0, w.heap.size, s.size, C, xs, by omega, by omega, rfl, rfl, by omega, h, S2.out, G2.out⟩
  case round =>
    obtain ⟨k, q, n, c, xs, hk, hgg, rfl, rfl, hnk, bt, src, gro⟩ := hrel
    have T := Lib.hid bt
    have S := Lib.hid src
    have G := Lib.hid gro
    have hnc := bt.2.1
    have hq := bt.2.2.1
    clear bt src gro
    by_cases hgo : 0 < k ∧ 0 < n
    · obtain ⟨hk0', hn0⟩ := hgo
      go_wp2_with fail
      refine (srcBelow g _ n wr S.out rfl (by omega) (by omega)).mono ?_
      rintro e w3 ⟨i, hi, rfl, s3, g3⟩
      have S3 := Lib.hid s3
      have G3 : Hid (w.grownBy w3 (some g)) := Lib.hid (grown_trans' G.out g3)
      have T3 := Lib.hid (T.out.gro g3 hg)
      clear s3 g3
      go_wp2_with fail
      refine (srcBelow g _ 4 w3 S3.out rfl (by omega) (by omega)).mono ?_
      rintro e w5 ⟨r4, hr4, rfl, s5, g5⟩
      have S5 := Lib.hid s5
      have G5 : Hid (w.grownBy w5 (some g)) := Lib.hid (grown_trans' G3.out g5)
      have T5 := Lib.hid (T3.out.gro g5 hg)
      have hz5 : w.heap.size ≤ w5.heap.size := G5.out.size
      have p0 : (0 : Int) ≤ i := by omega
      have p1 : (i : Int) < n := by omega
      have p2 : (i : Int) ≤ n := by omega
      have p3 : (i : Int) ≤ c := by omega
      have p4 : i ≤ c := by omega
      clear s5 g5
      obtain rfl | rfl | rfl | rfl : r4 = 0 ∨ r4 = 1 ∨ r4 = 2 ∨ r4 = 3 := by omega
      · go_wp2_with fail
        refine (srcBelow g _ 7 w5 S5.out (by omega) (by omega) (by omega)).mono ?_
        rintro e w6 ⟨r7, hr7, rfl, s6, g6⟩
        have S6 := Lib.hid s6
        have G6 : Hid (w.grownBy w6 (some g)) := Lib.hid (grown_trans' G5.out g6)
        have t6 := T5.out.gro g6 hg
        have T6 := Lib.hid t6
        have c6 := t6.2.2.2.2.1 i hi
        have f6 := t6.2.2.2.2.2 i hi
        have u1 : (r7 : Int) < u.size := by omega
        have u2 : r7 < u.size := by omega
        have u0 : (0 : Int) ≤ r7 := by omega
        have T7 := Lib.hid (t6.store hi (u[r7]'(by omega)).toNat)
        have S7 : Hid (Src (w6.setCell ⟨q, i, none⟩ (.int .u8 ((u[r7]'(by omega)).toNat : Nat))) g) := Lib.hid (s6.below ((Below.refl (g + 1) w6).setCell (by show g + 1 ≤ q; omega) _) (by omega))
        have G7 : Hid (w.grownBy (w6.setCell ⟨q, i, none⟩ (.int .u8 ((u[r7]'(by omega)).toNat : Nat))) (some g)) := Lib.hid (grown_far G6.out hq _ _)
        clear s6 g6 t6
        go_wp2_with fail
        go_roundg (k - 1)
        case rel =>
          obtain ⟨ys, h⟩ := T7.out
          exact ⟨k - 1, q, n, c, ys, by omega, by omega, by go_num, rfl, by omega, h, S7.out, G7.out⟩
        case measure => omega
      · go_wp2_with fail
        go_roundg (k - 1)
        case rel => exact ⟨k - 1, q, i, c, xs.take i, by omega, by omega, by go_num, rfl, by omega, T5.out.take (by omega), S5.out, G5.out⟩
        case measure => omega
      · have DrX : Hid (∀ W : World, w5.grownBy W (some g) → ∀ j, j < n → W.cell? ⟨q, j, none⟩ = some (.int .u8 (xs.getD j 0))) := Lib.hid fun W h j hj => (T5.out.gro h hg).2.2.2.2.1 j hj
        have L5 : Hid (RowU (w5.alloc (.cells #[] 5)) w5.heap.size w5.heap.size 0 0 []) := Lib.hid (RowU.lit0 w5 _ (Nat.le_refl _))
        have ltk : Hid ((xs.take i).length = i) := Lib.hid (by rw [List.length_take, T5.out.1]; omega)
        have ldr : Hid ((xs.drop (i + 1)).length = n - (i + 1)) := Lib.hid (by rw [List.length_drop, T5.out.1])
        have Tk : Hid (∀ W : World, w5.grownBy W (some g) → ∀ j, j < i → W.cell? ⟨q, 0 + j, none⟩ = some (.int .u8 ((xs.take i).getD j 0))) := Lib.hid fun W h j hj => by rw [Nat.zero_add, DrX.out W h j (by omega), take_getD hj]
        have Td : Hid (∀ W : World, w5.grownBy W (some g) → ∀ j, j < n - (i + 1) → W.cell? ⟨q, i + 1 + j, none⟩ = some (.int .u8 ((xs.drop (i + 1)).getD j 0))) := Lib.hid fun W h j hj => by rw [DrX.out W h _ (by omega), drop_getD]
        have Ga : Hid (w5.grownBy (w5.alloc (.cells #[] 5)).drew (some g)) := Lib.hid (grown_drew1 (grown_alloc2 (grown_refl _ _) _))
        have q0 : (0 : Int) ≤ (i : Int) + 1 := by omega
        have q1 : (i : Int) + 1 ≤ n := by omega
        have q2 : (i : Int) + 1 ≤ c := by omega
        have q3 : i + 1 ≤ n := by omega
        have q4 : i + 1 ≤ c := by omega
        have hwr : IntKind.i64.wrap ((i : Int) + 1) = (i : Int) + 1 := by rw [IntKind.wrap_i64]; omega
        have hp2 : ((i : Int) + 1).toNat = i + 1 := by omega
        by_cases hci : c = i + 1
        · obtain rfl : n = i + 1 := by omega
          subst hci
          have r1 : (i : Int) ≤ (i : Int) + 1 := by omega
          have r2 : i ≤ i + 1 := by omega
          go_wp2_with fail
          go_region_law (first
            | (refine step_appU rfl (.tmp 47) (.tmp 50) rfl w5.heap.size w5.heap.size 0 0 [] ?_ L5.out.drew q 0 i (i + 1) (xs.take i) ?_ (Tk.out _ Ga.out) ltk.out ?_ ?_ i ?_ ?_; (simp [Act.eval, Act.put]); (simp [Act.eval, Act.put]); (omega); (simp); (omega); (intro q7 c7 w7 s7 g7; have h7 := grown_past Ga.out g7 (by intro k e; injection e with e; omega)))
            | (refine step_appU rfl (.tmp 51) (.tmp 55) rfl w5.heap.size q7 i c7 _ ?_ s7 q 0 0 0 [] ?_ (fun j hj => absurd hj (Nat.not_lt_zero j)) rfl ?_ ?_ i ?_ ?_; (simp [Act.eval, Act.put]); (simp [Act.eval, Act.put]); (omega); (have hz := h7.size; omega); (omega); (intro q8 c8 w8 s8 g8)))
          have b7 : Below w5.heap.size w5 w7 := (below_drew1 ((Below.refl w5.heap.size w5).alloc (Nat.le_refl _) _)).grown g7 (by simp) (by intro k e; injection e with e; omega)
          have b8 : Below w5.heap.size w5 w8 := b7.grown g8 b7.size (by intro k e; injection e with e; have := s7.lt_.1; omega)
          have S8 : Hid (Src w8 g) := Lib.hid (S5.out.below b8 (by omega))
          have G8 : Hid (w.grownBy w8 (some g)) := Lib.hid (grown_below2 G5.out b8)
          have T8 := Lib.hid ((BT.of_row s8).mono hz5)
          clear b7 b8 s8 g8 s7 g7 h7
          go_wp2_with fail
          go_roundg (k - 1)
          case rel => exact ⟨k - 1, q8, i, c8, _, by omega, by omega, by go_num, rfl, by omega, T8.out, S8.out, G8.out⟩
          case measure => omega
        · go_wp2_with fail
          go_region_law (first
            | (refine step_appU rfl (.tmp 47) (.tmp 50) rfl w5.heap.size w5.heap.size 0 0 [] ?_ L5.out.drew q 0 i c (xs.take i) ?_ (Tk.out _ Ga.out) ltk.out ?_ ?_ i ?_ ?_; (simp [Act.eval, Act.put]); (simp [Act.eval, Act.put]); (omega); (simp); (omega); (intro q7 c7 w7 s7 g7; have h7 := grown_past Ga.out g7 (by intro k e; injection e with e; omega)))
            | (refine step_appU rfl (.tmp 51) (.tmp 55) rfl w5.heap.size q7 i c7 _ ?_ s7 q (i + 1) (n - (i + 1)) (c - (i + 1)) (xs.drop (i + 1)) ?_ (Td.out _ h7) ldr.out ?_ ?_ (n - 1) ?_ ?_; (simp [Act.eval, Act.put]); (simp [Act.eval, Act.put]); (omega); (have hz := h7.size; omega); (omega); (intro q8 c8 w8 s8 g8)))
          have b7 : Below w5.heap.size w5 w7 := (below_drew1 ((Below.refl w5.heap.size w5).alloc (Nat.le_refl _) _)).grown g7 (by simp) (by intro k e; injection e with e; omega)
          have b8 : Below w5.heap.size w5 w8 := b7.grown g8 b7.size (by intro k e; injection e with e; have := s7.lt_.1; omega)
          have S8 : Hid (Src w8 g) := Lib.hid (S5.out.below b8 (by omega))
          have G8 : Hid (w.grownBy w8 (some g)) := Lib.hid (grown_below2 G5.out b8)
          have T8 := Lib.hid ((BT.of_row s8).mono hz5)
          clear b7 b8 s8 g8 s7 g7 h7
          go_wp2_with fail
          go_roundg (k - 1)
          case rel => exact ⟨k - 1, q8, n - 1, c8, _, by omega, by omega, by go_num, rfl, by omega, T8.out, S8.out, G8.out⟩
          case measure => omega
      · have DrX : Hid (∀ W : World, w5.grownBy W (some g) → ∀ j, j < n → W.cell? ⟨q, j, none⟩ = some (.int .u8 (xs.getD j 0))) := Lib.hid fun W h j hj => (T5.out.gro h hg).2.2.2.2.1 j hj
        have L5 : Hid (RowU (w5.alloc (.cells #[] 5)) w5.heap.size w5.heap.size 0 0 []) := Lib.hid (RowU.lit0 w5 _ (Nat.le_refl _))
        have ltk : Hid ((xs.take i).length = i) := Lib.hid (by rw [List.length_take, T5.out.1]; omega)
        have ldr : Hid ((xs.drop i).length = n - i) := Lib.hid (by rw [List.length_drop, T5.out.1])
        have Tk : Hid (∀ W : World, w5.grownBy W (some g) → ∀ j, j < i → W.cell? ⟨q, 0 + j, none⟩ = some (.int .u8 ((xs.take i).getD j 0))) := Lib.hid fun W h j hj => by rw [Nat.zero_add, DrX.out W h j (by omega), take_getD hj]
        have Td : Hid (∀ W : World, w5.grownBy W (some g) → ∀ j, j < n - i → W.cell? ⟨q, i + j, none⟩ = some (.int .u8 ((xs.drop i).getD j 0))) := Lib.hid fun W h j hj => by rw [DrX.out W h _ (by omega), drop_getD]
        have Ga : Hid (w5.grownBy (w5.alloc (.cells #[] 5)).drew (some g)) := Lib.hid (grown_drew1 (grown_alloc2 (grown_refl _ _) _))
        have Sa : Hid (Src (w5.alloc (.cells #[] 5)).drew g) := Lib.hid (S5.out.below (below_drew1 ((Below.refl w5.heap.size w5).alloc (Nat.le_refl _) _)) (by omega))
        have Sd : Hid (Src w5.drew g) := Lib.hid (S5.out.below (below_drew1 (Below.refl w5.heap.size w5)) (by omega))
        have hg5 : g < w5.heap.size := by omega
        have ne5 : some w5.heap.size ≠ some g := by intro e; injection e with e; omega
        have hci : ¬ c = i := by omega
        have q4 : i ≤ n := by omega
        go_wp2_with fail
        go_region_law (first
          | (refine step_appU rfl (.tmp 59) (.tmp 62) rfl w5.heap.size w5.heap.size 0 0 [] ?_ L5.out.drew q 0 i c (xs.take i) ?_ (Tk.out _ Ga.out) ltk.out ?_ ?_ i ?_ ?_; (simp [Act.eval, Act.put]); (simp [Act.eval, Act.put]); (omega); (focus (first | (simp; done) | (simp; omega) | omega)); (omega); (intro q7 c7 w7 s7 g7; have h7 := grown_past Ga.out g7 (by intro k e; injection e with e; (first | omega | (simp at e; omega))); have ne7 : some q7 ≠ some g := (by intro e; injection e with e; have := s7.lt_.1; omega); have hq7 := s7.lt_.1; have B7 : Below w5.heap.size w5 w7 := (below_drew1 ((Below.refl w5.heap.size w5).alloc (Nat.le_refl _) _)).grown g7 (by simp) (by intro k e; injection e with e; omega)))
          | (refine step_appU rfl (.tmp 59) (.tmp 62) rfl w5.heap.size w5.heap.size 0 0 [] ?_ (L5.out.kept g8a ne5) q 0 i c (xs.take i) ?_ (Tk.out _ h8) ltk.out ?_ ?_ i ?_ ?_; (simp [Act.eval, Act.put]); (simp [Act.eval, Act.put]); (omega); (focus (first | (simp; done) | (simp; omega) | omega)); (omega); (intro q7 c7 w7 s7 g7; have h7 := grown_past h8 g7 (by intro k e; injection e with e; (first | omega | (simp at e; omega))); have ne7 : some q7 ≠ some g := (by intro e; injection e with e; have := s7.lt_.1; omega); have hq7 := s7.lt_.1; have S7 := Src.gro s8 g7 (by omega)))
          | (refine step_appU rfl (.tmp 59) (.tmp 62) rfl w5.heap.size w5.heap.size 0 0 [] ?_ ((L5.out.kept g8a ne5).alloc _) q 0 i c (xs.take i) ?_ (Tk.out _ (grown_alloc2 h8 _)) ltk.out ?_ ?_ i ?_ ?_; (simp [Act.eval, Act.put]); (simp [Act.eval, Act.put]); (omega); (focus (first | (simp; done) | (simp; omega) | omega)); (omega); (intro q7 c7 w7 s7 g7; have h7 := grown_past (grown_alloc2 h8 _) g7 (by intro k e; injection e with e; (first | omega | (simp at e; omega))); have ne7 : some q7 ≠ some g := (by intro e; injection e with e; have := s7.lt_.1; omega); have hq7 := s7.lt_.1; have S7 := Src.gro (S8B) g7 (by omega)))
          | (refine step_appU rfl (.tmp 59) (.tmp 62) rfl w5.heap.size w8.heap.size 0 0 [] ?_ (RowU.lit0 w8 _ hz8) q 0 i c (xs.take i) ?_ (Tk.out _ (grown_alloc2 h8 _)) ltk.out ?_ ?_ i ?_ ?_; (simp [Act.eval, Act.put]); (simp [Act.eval, Act.put]); (omega); (focus (first | (simp; done) | (simp; omega) | omega)); (omega); (intro q7 c7 w7 s7 g7; have h7 := grown_past (grown_alloc2 h8 _) g7 (by intro k e; injection e with e; (first | omega | (simp at e; omega))); have ne7 : some q7 ≠ some g := (by intro e; injection e with e; have := s7.lt_.1; omega); have hq7 := s7.lt_.1; have S7 := Src.gro (S8E) g7 (by omega)))
          | (refine step_appU rfl (.tmp 59) (.tmp 62) rfl w5.heap.size w8.heap.size 0 0 [] ?_ ((RowU.lit0 w8 _ hz8).alloc _) q 0 i c (xs.take i) ?_ (Tk.out _ (grown_alloc2 (grown_alloc2 h8 _) _)) ltk.out ?_ ?_ i ?_ ?_; (simp [Act.eval, Act.put]); (simp [Act.eval, Act.put]); (omega); (focus (first | (simp; done) | (simp; omega) | omega)); (omega); (intro q7 c7 w7 s7 g7; have h7 := grown_past (grown_alloc2 (grown_alloc2 h8 _) _) g7 (by intro k e; injection e with e; (first | omega | (simp at e; omega))); have ne7 : some q7 ≠ some g := (by intro e; injection e with e; have := s7.lt_.1; omega); have hq7 := s7.lt_.1; have S7 := Src.gro (S8EB) g7 (by omega)))
          | (refine step_appU rfl (.tmp 59) (.tmp 62) rfl w5.heap.size (w8.alloc (.cells #[.int .u8 (z : Int)] 5)).heap.size 0 0 [] ?_ (RowU.lit0 (w8.alloc (.cells #[.int .u8 (z : Int)] 5)) _ hz8B) q 0 i c (xs.take i) ?_ (Tk.out _ (grown_alloc2 (grown_alloc2 h8 _) _)) ltk.out ?_ ?_ i ?_ ?_; (simp [Act.eval, Act.put]); (simp [Act.eval, Act.put]); (omega); (focus (first | (simp; done) | (simp; omega) | omega)); (omega); (intro q7 c7 w7 s7 g7; have h7 := grown_past (grown_alloc2 (grown_alloc2 h8 _) _) g7 (by intro k e; injection e with e; (first | omega | (simp at e; omega))); have ne7 : some q7 ≠ some g := (by intro e; injection e with e; have := s7.lt_.1; omega); have hq7 := s7.lt_.1; have S7 := Src.gro (S8BE) g7 (by simp; omega)))
          | (refine step_appU rfl (.tmp 63) (.tmp 70) rfl w5.heap.size q7 i c7 (xs.take i) ?_ ((s7.kept g8 ne7).alloc _) w8.heap.size 0 1 1 [(z : Int)] ?_ (LB.cells (LB.new w8 z)) rfl ?_ ?_ (i + 1) ?_ ?_; (simp [Act.eval, Act.put]); (simp [Act.eval, Act.put]); (omega); (exact ((grown_alloc2 h8 _)).size); (omega); (intro q9 c9 w9 s9 g9; have h9 := grown_past (grown_alloc2 h8 _) g9 (by intro k e; injection e with e; omega); have hq9 := s9.lt_.1; have S9 := Src.gro S8B g9 (by omega)))
          | (refine step_appU rfl (.tmp 63) (.tmp 70) rfl w5.heap.size q7 i c7 (xs.take i) ?_ (s7.alloc _) w7.heap.size 0 1 1 [(z : Int)] ?_ (LB.cells (LB.new w7 z)) rfl ?_ ?_ (i + 1) ?_ ?_; (simp [Act.eval, Act.put]); (simp [Act.eval, Act.put]); (omega); (exact ((grown_alloc2 h7 _)).size); (omega); (intro q9 c9 w9 s9 g9; have h9 := grown_past (grown_alloc2 h7 _) g9 (by intro k e; injection e with e; omega); have hq9 := s9.lt_.1; have S9 := Src.gro (S7.below ((Below.refl w7.heap.size w7).alloc (Nat.le_refl _) (.cells #[.int .u8 (z : Int)] 5)) S7.lt) g9 (by omega)))
          | (refine step_appU rfl (.tmp 63) (.tmp 70) rfl w5.heap.size q7 i c7 (xs.take i) ?_ s7 w8.heap.size 0 1 1 [(z : Int)] ?_ (LB.cells ((LB.new w8 z).kept g7 (by intro e; injection e with e; omega))) rfl ?_ ?_ (i + 1) ?_ ?_; (simp [Act.eval, Act.put]); (simp [Act.eval, Act.put]); (omega); (exact (h7).size); (omega); (intro q9 c9 w9 s9 g9; have h9 := grown_past h7 g9 (by intro k e; injection e with e; omega); have hq9 := s9.lt_.1; have S9 := Src.gro S7 g9 (by omega)))
          | (refine step_appU rfl (.tmp 63) (.tmp 70) rfl w5.heap.size q7 i c7 (xs.take i) ?_ s7 (w8.alloc (.cells #[] 5)).heap.size 0 1 1 [(z : Int)] ?_ (LB.cells ((LB.new (w8.alloc (.cells #[] 5)) z).kept g7 (by intro e; injection e with e; simp at e))) rfl ?_ ?_ (i + 1) ?_ ?_; (simp [Act.eval, Act.put]); (simp [Act.eval, Act.put]); (omega); (exact (h7).size); (omega); (intro q9 c9 w9 s9 g9; have h9 := grown_past h7 g9 (by intro k e; injection e with e; omega); have hq9 := s9.lt_.1; have S9 := Src.gro S7 g9 (by omega)))
          | (refine step_appU rfl (.tmp 63) (.tmp 70) rfl w5.heap.size q7 i c7 (xs.take i) ?_ s7 w8.heap.size 0 1 1 [(z : Int)] ?_ (LB.cells (((LB.new w8 z).alloc (.cells #[] 5)).kept g7 (by intro e; injection e with e; simp at e))) rfl ?_ ?_ (i + 1) ?_ ?_; (simp [Act.eval, Act.put]); (simp [Act.eval, Act.put]); (omega); (exact (h7).size); (omega); (intro q9 c9 w9 s9 g9; have h9 := grown_past h7 g9 (by intro k e; injection e with e; omega); have hq9 := s9.lt_.1; have S9 := Src.gro S7 g9 (by omega)))
          | (refine step_appU rfl (.tmp 71) (.tmp 74) rfl w5.heap.size q9 (i + 1) c9 _ ?_ s9 q i (n - i) (c - i) (xs.drop i) ?_ (Td.out _ h9) ldr.out ?_ ?_ (n + 1) ?_ ?_; (simp [Act.eval, Act.put]); (simp [Act.eval, Act.put]); (omega); (have hz := h9.size; omega); (omega); (intro q10 c10 w10 s10 g10; have h10 := grown_past h9 g10 (by intro k e; injection e with e; omega); have S10 := Src.gro S9 g10 (by omega)))
          | (go_simp; go_wp2_with (go_at_call 46; (first
              | (refine (srcBelow g _ 7 w5.drew Sd.out (by omega) (by omega) (by omega)).mono ?_; rintro e w8 ⟨r, hr, rfl, s8, g80⟩; have g8 := grown_undrew g80; have h8 := g8; obtain ⟨z, hz⟩ : ∃ z : Nat, (u[r]'(by omega)).toNat = z := ⟨_, rfl⟩; have hru : r < u.size := (by omega); have hru1 : (r : Int) < u.size := (by omega); have hru0 : (0 : Int) ≤ r := (by omega); have hru7 : (r : Int) < 7 := (by omega); have hz8 : w5.heap.size ≤ w8.heap.size := h8.size; have hz8B : w5.heap.size ≤ (w8.alloc (.cells #[.int .u8 (z : Int)] 5)).heap.size := (by simp; omega); have hl8 := s8.lt; have S8B : Src (w8.alloc (.cells #[.int .u8 (z : Int)] 5)) g := s8.below ((Below.refl w8.heap.size w8).alloc (Nat.le_refl _) _) hl8; have S8E : Src (w8.alloc (.cells #[] 5)) g := s8.below ((Below.refl w8.heap.size w8).alloc (Nat.le_refl _) _) hl8; have S8EB : Src ((w8.alloc (.cells #[] 5)).alloc (.cells #[.int .u8 (z : Int)] 5)) g := S8E.below ((Below.refl _ _).alloc (Nat.le_refl _) _) S8E.lt; have S8BE : Src ((w8.alloc (.cells #[.int .u8 (z : Int)] 5)).alloc (.cells #[] 5)) g := S8B.below ((Below.refl _ _).alloc (Nat.le_refl _) _) S8B.lt)
              | (refine (srcBelow g _ 7 (w5.alloc (.cells #[] 5)).drew Sa.out (by omega) (by omega) (by omega)).mono ?_; rintro e w8 ⟨r, hr, rfl, s8, g80⟩; have g8a := grown_undrew g80; have h8 := grown_trans' Ga.out g80; obtain ⟨z, hz⟩ : ∃ z : Nat, (u[r]'(by omega)).toNat = z := ⟨_, rfl⟩; have hru : r < u.size := (by omega); have hru1 : (r : Int) < u.size := (by omega); have hru0 : (0 : Int) ≤ r := (by omega); have hru7 : (r : Int) < 7 := (by omega); have hz8 : w5.heap.size ≤ w8.heap.size := h8.size; have hz8B : w5.heap.size ≤ (w8.alloc (.cells #[.int .u8 (z : Int)] 5)).heap.size := (by simp; omega); have hl8 := s8.lt; have S8B : Src (w8.alloc (.cells #[.int .u8 (z : Int)] 5)) g := s8.below ((Below.refl w8.heap.size w8).alloc (Nat.le_refl _) _) hl8; have S8E : Src (w8.alloc (.cells #[] 5)) g := s8.below ((Below.refl w8.heap.size w8).alloc (Nat.le_refl _) _) hl8; have S8EB : Src ((w8.alloc (.cells #[] 5)).alloc (.cells #[.int .u8 (z : Int)] 5)) g := S8E.below ((Below.refl _ _).alloc (Nat.le_refl _) _) S8E.lt; have S8BE : Src ((w8.alloc (.cells #[.int .u8 (z : Int)] 5)).alloc (.cells #[] 5)) g := S8B.below ((Below.refl _ _).alloc (Nat.le_refl _) _) S8B.lt)
              | (refine (srcBelow g _ 7 w7 (S5.out.below B7 (by omega)) (by omega) (by omega) (by omega)).mono ?_; rintro e w8 ⟨r, hr, rfl, s8, g8⟩; have h8 := grown_trans' h7 g8; obtain ⟨z, hz⟩ : ∃ z : Nat, (u[r]'(by omega)).toNat = z := ⟨_, rfl⟩; have hru : r < u.size := (by omega); have hru1 : (r : Int) < u.size := (by omega); have hru0 : (0 : Int) ≤ r := (by omega); have hru7 : (r : Int) < 7 := (by omega); have hz8 : w5.heap.size ≤ w8.heap.size := h8.size; have hz8B : w5.heap.size ≤ (w8.alloc (.cells #[.int .u8 (z : Int)] 5)).heap.size := (by simp; omega); have hl8 := s8.lt; have S8B : Src (w8.alloc (.cells #[.int .u8 (z : Int)] 5)) g := s8.below ((Below.refl w8.heap.size w8).alloc (Nat.le_refl _) _) hl8; have S8E : Src (w8.alloc (.cells #[] 5)) g := s8.below ((Below.refl w8.heap.size w8).alloc (Nat.le_refl _) _) hl8; have S8EB : Src ((w8.alloc (.cells #[] 5)).alloc (.cells #[.int .u8 (z : Int)] 5)) g := S8E.below ((Below.refl _ _).alloc (Nat.le_refl _) _) S8E.lt; have S8BE : Src ((w8.alloc (.cells #[.int .u8 (z : Int)] 5)).alloc (.cells #[] 5)) g := S8B.below ((Below.refl _ _).alloc (Nat.le_refl _) _) S8B.lt)))))
        all_goals
          have G10 : Hid (w.grownBy w10 (some g)) := Lib.hid (grown_trans' G5.out h10)
          have SX := Lib.hid S10
          have TX := Lib.hid ((BT.of_row s10).mono hz5)
          clear s10 g10 h10 S10
          go_wp2_with fail
          go_roundg (k - 1)
          case rel => exact ⟨k - 1, q10, n + 1, c10, _, by omega, by omega, by go_num, rfl, by omega, TX.out, SX.out, G10.out⟩
          case measure => omega
    · have hcv2 := convBT T.out
      have hsz : (strOfNums xs).size ≤ 200 := by
        have h1 := T.out.1
        have h2 : (strOfNums xs).size = xs.length := by unfold strOfNums; show (Array.size _) = _; simp
        omega
      have key : ¬ 0 < k ∨ (0 < k ∧ ¬ 0 < n) := by omega
      clear hgo
      rcases key with d1 | ⟨d1, d2⟩
      · go_wp2_with fail
        go_ret
        exact ⟨_, rfl, hsz, S.out, G.out⟩
      · go_wp2_with fail
        go_ret
        exact ⟨_, rfl, hsz, S.out, G.out⟩
end Go.Proofs.YtplgdbkolklgnaaDoor
