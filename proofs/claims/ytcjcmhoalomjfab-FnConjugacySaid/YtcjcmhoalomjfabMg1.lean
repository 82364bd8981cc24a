/- Part 1 of the texts: Base, Help, Math, Perm, Ident, Comp, Inv, GrpM, Conj, WalkN, Src, SrcP. No condition of its own: each text tells its own. -/
import Derived.WalkKit
import Derived.Test.YtcjcmhoalomjfabProg
import Derived.Maps.AppendAt
import Derived.Deep.Draws
import Derived.Lib.Hide
import Derived.Deep.QuietTactic
import Derived.BigQuiet
import Derived.WalkSpells
import Derived.RegionTactic
import Derived.Deep.LoopGhost
import Derived.Deep.RegionLaw
set_option linter.unusedVariables false
set_option linter.unusedSimpArgs false

/- Words for the walks of this seat: a slice of int64 that reads as a list; a row of the call's own; how both are kept. No condition. -/
namespace Go.Proofs.Ytcjcmhoalomjfab
open Go.RowKit

/-- The slice at A reads as the numbers xs, in blocks below B. -/
def RI (w : World) (B : Nat) (A : Option Addr) (xs : List Int) : Prop :=
  0 < xs.length → ∃ b off, A = some ⟨b, off, none⟩ ∧ b < B ∧ ∀ j, j < xs.length → w.cell? ⟨b, off + j, none⟩ = some (.int .i64 (xs.getD j 0))

section
variable {w w' : World} {B B' : Nat} {A : Option Addr} {xs : List Int}
theorem RI.nil_ : RI w B A [] := fun h => absurd h (by simp)
theorem RI.keep (h : RI w B A xs) (hk : ∀ p : Addr, p.block < B → w'.cell? p = w.cell? p) : RI w' B A xs := fun hn => by
  obtain ⟨b, off, e, hb, hc⟩ := h hn
  exact ⟨b, off, e, hb, fun j hj => (hk ⟨b, off + j, none⟩ hb).trans (hc j hj)⟩
theorem RI.more (h : RI w B A xs) (hB : B ≤ B') : RI w B' A xs := fun hn => by
  obtain ⟨b, off, e, hb, hc⟩ := h hn
  exact ⟨b, off, e, by omega, hc⟩
theorem RI.below (h : RI w B A xs) {B' : Nat} (hb : Below B' w w') (hB : B ≤ B') : RI w' B A xs := h.keep fun _ hp => hb.cell (by omega)
theorem RI.drew (h : RI w B A xs) : RI w.drew B A xs := h
theorem RI.drewN (h : RI w B A xs) (k : Nat) : RI (w.drewN k) B A xs := h
theorem RI.alloc (h : RI w B A xs) (hB : B ≤ w.heap.size) (o : Obj) : RI (w.alloc o) B A xs := h.keep fun p hp => World.cell?_alloc_lt w o p (by omega)
theorem RI.setCell (h : RI w B A xs) {p : Addr} (hB : B ≤ p.block) (u : Value) : RI (w.setCell p u) B A xs :=
  h.keep fun q hq => World.cell?_setCell_other w p q u (fun e => by subst e; omega)
theorem RI.grown (h : RI w B A xs) {row : Option Nat} (hg : w.grownBy w' row) (hB : B ≤ w.heap.size) (hr : ∀ g, row = some g → B ≤ g) : RI w' B A xs :=
  h.keep fun p hp => World.cell?_of_block (hg.block p.block (by omega) (fun e => by have := hr _ e.symm; omega))
end

/-- v is a row of the call's own, from block base on, that holds the numbers xs. -/
def Own (w : World) (base : Nat) (v : Value) (xs : List Int) : Prop := w.ownsRow base 2 1 v xs.length (xs.map (Value.int .i64))

section
variable {w w' : World} {base B : Nat} {v : Value} {xs : List Int}
/-- The value written out: its address, its capacity; it reads as xs. -/
theorem Own.form (h : Own w base v xs) : ∃ A c, v = .slice A xs.length c ∧ RI w w.heap.size A xs ∧ (∀ b off, A = some ⟨b, off, none⟩ → base ≤ b ∧ b < w.heap.size ∧ off = 0) ∧ (A = none → xs = [] ∧ c = 0) ∧ xs.length ≤ maxLen := by
  rcases h.2 with ⟨rfl, h0⟩ | ⟨g, cap, cur, rfl, hb, hg, hn, hm, hcs, htake⟩
  · obtain rfl : xs = [] := List.eq_nil_of_length_eq_zero h0
    exact ⟨none, 0, rfl, RI.nil_, fun _ _ e => (nomatch e), fun _ => ⟨rfl, rfl⟩, Nat.zero_le _⟩
  · have hlt : g < w.heap.size := (Array.getElem?_eq_some_iff.1 hg).1
    refine ⟨some ⟨g, 0, none⟩, cap, rfl, fun _ => ⟨g, 0, rfl, hlt, fun j hj => ?_⟩, fun b off e => (by injection e with e; injection e with e1 e2; subst e1; subst e2; exact ⟨hb, hlt, rfl⟩), fun e => (nomatch e), Nat.le_trans hn hm⟩
    have := h.cells (g := g) rfl j (.int .i64 (xs.getD j 0)) (by rw [List.getElem?_map, List.getD_eq_getElem?_getD, List.getElem?_eq_getElem hj]; rfl)
    rw [← this]
    unfold Addr.add
    split <;> simp_all
theorem Own.kept (h : Own w base v xs) {row : Option Nat} (hg : w.grownBy w' row) (hne : v.ownBlock = none ∨ v.ownBlock ≠ row) : Own w' base v xs := World.ownsRow.kept h hg hne
theorem Own.alloc (h : Own w base v xs) (o : Obj) : Own (w.alloc o) base v xs := World.ownsRow.alloc h o
theorem Own.below (h : Own w base v xs) (hb : Below B w w') (hv : ∀ k, v.ownBlock = some k → k < B) : Own w' base v xs := by
  refine ⟨h.1, ?_⟩
  rcases h.2 with hn | ⟨g, cap, cur, rfl, hb', hg, rest⟩
  · exact .inl hn
  · exact .inr ⟨g, cap, cur, rfl, hb', by rw [hb.block g (hv g rfl)]; exact hg, rest⟩
theorem Own.drewN (h : Own w base v xs) (n : Nat) : Own (w.drewN n) base v xs := h
theorem Own.mono (h : Own w base v xs) {base' : Nat} (hb : base' ≤ base) : Own w base' v xs := by
  refine ⟨h.1, ?_⟩
  rcases h.2 with hn | ⟨g, cap, cur, rfl, hb', rest⟩
  · exact .inl hn
  · exact .inr ⟨g, cap, cur, rfl, by omega, rest⟩
theorem Own.lt_ (h : Own w base v xs) : ∀ k, v.ownBlock = some k → base ≤ k ∧ k < w.heap.size := World.ownsRow.lt h
end

/-- The slice value '.slice A n c' is a row of the call's own, from block base on; it holds the numbers xs. -/
def Slc (w : World) (base : Nat) (A : Option Addr) (n c : Nat) (xs : List Int) : Prop := xs.length = n ∧ Own w base (.slice A n c) xs
section
variable {w w' : World} {base n c B : Nat} {A : Option Addr} {xs : List Int}
theorem Slc.hid (h : Slc w base A n c xs) : Hid (xs.length = n) := Lib.hid h.1
theorem Slc.of_own {v : Value} (h : Own w base v xs) (hn : xs.length = n) : ∃ A c, v = .slice A n c ∧ Slc w base A n c xs := by
  subst hn
  obtain ⟨A, c, rfl, _⟩ := h.form
  exact ⟨A, c, rfl, rfl, h⟩
theorem Slc.ri (h : Slc w base A n c xs) (hB : w.heap.size ≤ B) : RI w B A xs := by
  obtain ⟨A', c', e, r, _⟩ := h.2.form
  injection e with e1 e2 e3
  subst e1
  exact r.more hB
theorem Slc.le (h : Slc w base A n c xs) : n ≤ c ∧ n ≤ maxLen := by
  rcases h.2.2 with ⟨e, h0⟩ | ⟨g, cap, cur, e, hb, hg, hn, hm, hcs, htake⟩
  · injection e with e1 e2 e3; subst e2; subst e3; exact ⟨Nat.zero_le _, Nat.zero_le _⟩
  · injection e with e1 e2 e3; subst e2; subst e3; exact ⟨hn, Nat.le_trans hn hm⟩
theorem Slc.at_ (h : Slc w base A n c xs) : (A = none ∧ xs = [] ∧ n = 0 ∧ c = 0) ∨ ∃ g, A = some ⟨g, 0, none⟩ ∧ base ≤ g ∧ g < w.heap.size := by
  rcases h.2.2 with ⟨e, h0⟩ | ⟨g, cap, cur, e, hb, hg, hn, hm, hcs, htake⟩
  · injection e with e1 e2 e3; exact .inl ⟨e1, List.eq_nil_of_length_eq_zero h0, e2, e3⟩
  · injection e with e1 e2 e3; exact .inr ⟨g, e1, hb, (Array.getElem?_eq_some_iff.1 hg).1⟩
theorem Slc.lt_ (h : Slc w base A n c xs) : ∀ k, (Value.slice A n c).ownBlock = some k → base ≤ k ∧ k < w.heap.size := h.2.lt_
theorem Slc.kept (h : Slc w base A n c xs) {row : Option Nat} (hg : w.grownBy w' row) (hne : (Value.slice A n c).ownBlock = none ∨ (Value.slice A n c).ownBlock ≠ row) : Slc w' base A n c xs := ⟨h.1, h.2.kept hg hne⟩
theorem Slc.below (h : Slc w base A n c xs) (hb : Below B w w') (hB : w.heap.size ≤ B) : Slc w' base A n c xs := ⟨h.1, h.2.below hb fun k e => by have := (h.lt_ k e).2; omega⟩
theorem Slc.below_lt (h : Slc w base A n c xs) (hb : Below B w w') (hB : ∀ k, (Value.slice A n c).ownBlock = some k → k < B) : Slc w' base A n c xs := ⟨h.1, h.2.below hb hB⟩
theorem Slc.mono (h : Slc w base A n c xs) {base' : Nat} (hb : base' ≤ base) : Slc w base' A n c xs := ⟨h.1, h.2.mono hb⟩
theorem Slc.alloc (h : Slc w base A n c xs) (o : Obj) : Slc (w.alloc o) base A n c xs := ⟨h.1, h.2.alloc o⟩
theorem Slc.drewN (h : Slc w base A n c xs) (k : Nat) : Slc (w.drewN k) base A n c xs := h
theorem Slc.nil_ : Slc w base none 0 0 [] := ⟨rfl, World.ownsRow_nil _ _ _ _⟩
end

/-- What the frame of a proof knows of a slice of int64 that came in, as RI. -/
theorem RI.of_row {w : World} {a : Option Addr} {len cap : Nat} {zs : List Int}
    (h : (a = none ∧ len = 0 ∧ cap = 0 ∧ zs = []) ∨ ∃ x, a = some x ∧ len ≤ cap ∧ cap ≤ maxLen ∧ zs.length = cap ∧ (∀ i, i < zs.length → w.cell? (x.add i) = some (.int .i64 (zs.getD i 0))) ∧ ∀ n ∈ zs, (Lit.int .i64 n).wf = true) :
    ∃ xs : List Int, Hid (xs.length = len) ∧ RI w w.heap.size a xs := by
  rcases h with ⟨rfl, rfl, rfl, rfl⟩ | ⟨⟨b, off, spot⟩, rfl, hl, hm, hz, hc, hw⟩
  · exact ⟨[], Lib.hid rfl, RI.nil_⟩
  · refine ⟨zs.take len, Lib.hid (by rw [List.length_take]; omega), fun hp => ?_⟩
    rw [List.length_take] at hp
    have h0 := hc 0 (by omega)
    have hspot : spot = none := by simpa [Addr.add] using World.cell?_spot h0
    subst hspot
    refine ⟨b, off, rfl, ?_, fun j hj => ?_⟩
    · have := World.block_lt_of_cell? w _ h0
      simpa [Addr.add] using this
    · rw [List.length_take] at hj
      rw [List.getD_eq_getElem?_getD, List.getElem?_take, if_pos (by omega), ← List.getD_eq_getElem?_getD, ← hc j (by omega)]
      unfold Addr.add
      split <;> simp_all

/-- A row at the head of block g, of length n, that holds the numbers xs. -/
def Row (w : World) (base g n c : Nat) (xs : List Int) : Prop := xs.length = n ∧ w.ownsRow base 2 1 (.slice (some ⟨g, 0, none⟩) n c) n (xs.map (Value.int .i64))
section
variable {w w' : World} {base g n c B : Nat} {xs : List Int}
theorem Row.own (h : Row w base g n c xs) : Own w base (.slice (some ⟨g, 0, none⟩) n c) xs := by
  obtain ⟨rfl, h⟩ := h; exact h
theorem Row.slc (h : Row w base g n c xs) : Slc w base (some ⟨g, 0, none⟩) n c xs := ⟨h.1, by obtain ⟨rfl, h⟩ := h; exact h⟩
theorem Row.of_own (h : Own w base (.slice (some ⟨g, 0, none⟩) n c) xs) : Row w base g n c xs := by
  obtain ⟨A, c', e, _⟩ := h.form
  injection e with _ e1
  subst e1
  exact ⟨rfl, h⟩
theorem Row.cell (h : Row w base g n c xs) {j : Nat} (hj : j < n) : w.cell? ⟨g, j, none⟩ = some (.int .i64 (xs.getD j 0)) := by
  have hl := h.1
  rw [h.2.cellAt j (by omega), List.getElem?_map, List.getD_eq_getElem?_getD, List.getElem?_eq_getElem (by omega)]; rfl
theorem Row.free (h : Row w base g n c xs) (j : Nat) : w.frozen? ⟨g, j, none⟩ = false := h.2.frozenAt j
theorem Row.store (h : Row w base g n c xs) (j : Nat) (u : Int) : Row (w.setCell ⟨g, j, none⟩ (.int .i64 u)) base g n c (xs.set j u) := by
  refine ⟨by rw [List.length_set]; exact h.1, ?_⟩
  rw [List.map_set]
  exact (h.2.stored j _).1
theorem Row.lt_ (h : Row w base g n c xs) : base ≤ g ∧ g < w.heap.size := World.ownsRow.lt h.2 g rfl
theorem Row.ri (h : Row w base g n c xs) (hB : g < B) : RI w B (some ⟨g, 0, none⟩) xs := fun _ => ⟨g, 0, rfl, hB, fun j hj => by rw [Nat.zero_add]; exact h.cell (by have := h.1; omega)⟩
theorem Row.kept (h : Row w base g n c xs) {row : Option Nat} (hg : w.grownBy w' row) (hne : some g ≠ row) : Row w' base g n c xs := ⟨h.1, World.ownsRow.kept h.2 hg (.inr hne)⟩
theorem Row.alloc (h : Row w base g n c xs) (o : Obj) : Row (w.alloc o) base g n c xs := ⟨h.1, World.ownsRow.alloc h.2 o⟩
theorem Row.drew (h : Row w base g n c xs) : Row w.drew base g n c xs := h
theorem Row.drewN (h : Row w base g n c xs) (k : Nat) : Row (w.drewN k) base g n c xs := h
theorem Row.below (h : Row w base g n c xs) (hb : Below B w w') (hg : g < B) : Row w' base g n c xs :=
  Row.of_own (h.own.below hb fun k e => by simp [Value.ownBlock] at e; omega)
theorem Row.mono (h : Row w base g n c xs) {base' : Nat} (hb : base' ≤ base) : Row w base' g n c xs := ⟨h.1, (Own.mono h.own hb).1.trans (by rw [h.1]), by have := (Own.mono h.own hb).2; rw [h.1] at this; exact this⟩
theorem Row.made (h : w.ownsRow base 2 1 (.slice (some ⟨g, 0, none⟩) n c) n (madeCells (Value.int .i64 0).cells (n * 1)).toList) : Row w base g n c (List.replicate n 0) := by
  refine ⟨by simp, ?_⟩
  have e : (madeCells (Value.int .i64 0).cells (n * 1)).toList = (List.replicate n (0 : Int)).map (Value.int .i64) := by
    show (madeCells #[Value.int .i64 0] (n * 1)).toList = _
    rw [toList_madeCells_one]; simp
  rw [← e]; exact h
end

/-- Where a slice's block may lie: from lo on, below hi. -/
def Lies (A : Option Addr) (n c lo hi : Nat) : Prop := ∀ k, (Value.slice A n c).ownBlock = some k → lo ≤ k ∧ k < hi
theorem Slc.lies {w : World} {base n c : Nat} {A : Option Addr} {xs : List Int} (h : Slc w base A n c xs) : Lies A n c base w.heap.size := h.lt_
theorem Lies.apart {A A' : Option Addr} {n c n' c' lo hi lo' hi' : Nat} (h : Lies A n c lo hi) (h' : Lies A' n' c' lo' hi') (hb : hi ≤ lo' ∨ hi' ≤ lo) :
    (Value.slice A n c).ownBlock = none ∨ (Value.slice A n c).ownBlock ≠ (Value.slice A' n' c').ownBlock := by
  rcases e : (Value.slice A n c).ownBlock with _ | k
  · exact .inl rfl
  · right
    intro e'
    have := h k e
    have := h' k e'.symm
    omega
theorem Slc.far {w w' : World} {base n c lo hi n' c' lo' hi' : Nat} {A A' : Option Addr} {xs : List Int} (h : Slc w base A n c xs) (hg : w.grownBy w' (Value.slice A' n' c').ownBlock)
    (l : Lies A n c lo hi) (l' : Lies A' n' c' lo' hi') (hb : hi ≤ lo' ∨ hi' ≤ lo) : Slc w' base A n c xs := h.kept hg (l.apart l' hb)
theorem below_mark {B : Nat} {w w' : World} {n c lo hi : Nat} {A : Option Addr} (hg : w.grownBy w' (Value.slice A n c).ownBlock) (l : Lies A n c lo hi) (hB : B ≤ lo) (hw : B ≤ w.heap.size) : Below B w w' :=
  (Below.refl B w).grown hg hw (fun k e => by have := l k e; omega)

/-- Block g is just the cells cs of type t, none frozen. -/
def Blk (w : World) (g : Nat) (t : TypeId) (cs : Array Value) : Prop := w.heap[g]? = some (.cells cs t (0, 0))
section
variable {w w' : World} {g : Nat} {t : TypeId} {cs : Array Value}
theorem Blk.lt (h : Blk w g t cs) : g < w.heap.size := by
  rcases Nat.lt_or_ge g w.heap.size with hlt | hge
  · exact hlt
  · unfold Blk at h; rw [Array.getElem?_eq_none hge] at h; cases h
theorem Blk.cell (h : Blk w g t cs) (i : Nat) : w.cell? ⟨g, i, none⟩ = cs[i]? := cell_of_row w g i cs t (0, 0) h
theorem Blk.frozen (h : Blk w g t cs) (i : Nat) : w.frozen? ⟨g, i, none⟩ = false := by
  unfold Blk at h
  simp [World.frozen?, h]
theorem Blk.new (w : World) (t : TypeId) (cs : Array Value) : Blk (w.alloc (.cells cs t)) w.heap.size t cs := heap_alloc_new w _
theorem Blk.drewN (h : Blk w g t cs) (n : Nat) : Blk (w.drewN n) g t cs := h
theorem Blk.alloc (h : Blk w g t cs) (o : Obj) : Blk (w.alloc o) g t cs := (Below.heap_alloc w o g h.lt).trans h
theorem Blk.set_ (h : Blk w g t cs) (i : Nat) (u : Value) : Blk (w.setCell ⟨g, i, none⟩ u) g t (cs.setIfInBounds i u) := by
  unfold Blk at h ⊢
  simp [World.setCell, Array.getElem?_modify, h]
theorem Blk.far (h : Blk w g t cs) {p : Addr} (hp : g ≠ p.block) (u : Value) : Blk (w.setCell p u) g t cs := (Below.heap_setCell w p u g hp).trans h
theorem Blk.below {B : Nat} (h : Blk w g t cs) (hb : Below B w w') (hg : g < B) : Blk w' g t cs := (hb.block g hg).trans h
theorem Blk.grown {row : Option Nat} (h : Blk w g t cs) (hb : w.grownBy w' row) (hg : some g ≠ row) : Blk w' g t cs := (hb.block g h.lt hg).trans h
end

theorem quiet_add {P : Program} {f : FuncId} {args : Array Value} {w : World} {a n : Nat} {v : Value}
    (h : Calls P f args (w.drewN (a + n)) fun e w' => e = .returned v ∧ ∃ m, w' = (w.drewN (a + n)).drewN m) :
    Calls P f args (w.drewN (a + n)) fun e w'' => e = .returned v ∧ ∃ m, w'' = w.drewN (a + m) :=
  h.mono fun _ _ ⟨he, m, hm⟩ => ⟨he, n + m, by rw [hm, World.drewN_drewN, Nat.add_assoc]⟩
theorem quiet_add_left {P : Program} {f : FuncId} {args : Array Value} {w : World} {a n : Nat} {v : Value}
    (h : Calls P f args (w.drewN (a + n)) fun e w' => e = .returned v ∧ w.drewN (a + n) = w') :
    Calls P f args (w.drewN (a + n)) fun e w'' => e = .returned v ∧ ∃ m, w'' = w.drewN (a + m) :=
  h.mono fun _ _ ⟨he, hm⟩ => ⟨he, n, hm.symm⟩
theorem quiet_left {P : Program} {f : FuncId} {args : Array Value} {w : World} {n : Nat} {v : Value}
    (h : Calls P f args (w.drewN n) fun e w' => e = .returned v ∧ w.drewN n = w') : Calls P f args (w.drewN n) fun e w'' => e = .returned v ∧ ∃ m, w'' = w.drewN m :=
  h.mono fun _ _ ⟨he, hm⟩ => ⟨he, n, hm.symm⟩
theorem btr {a b c : World} (h : Below a.heap.size a b) (k : Below b.heap.size b c) : Below a.heap.size a c := h.trans (k.mono h.size)
theorem quiet_below {P : Program} {f : FuncId} {args : Array Value} {w : World} {e0 : Ending}
    (h : Calls P f args w fun e w' => e = e0 ∧ ∃ m, w' = w.drewN m) : Calls P f args w fun e w' => e = e0 ∧ Below w.heap.size w w' :=
  h.mono fun _ _ ⟨he, m, hm⟩ => ⟨he, by rw [hm]; exact ⟨rfl, rfl, rfl, Nat.le_refl _, fun _ _ => rfl⟩⟩
/-- What came in still reads so behind the call. -/
theorem RI.up {w w' : World} {A : Option Addr} {xs : List Int} (h : RI w w.heap.size A xs) (hb : Below w.heap.size w w') : RI w' w'.heap.size A xs := (h.below hb (Nat.le_refl _)).more hb.size
theorem Slc.up {w w' : World} {base n c : Nat} {A : Option Addr} {xs : List Int} (h : Slc w base A n c xs) (hb : Below w.heap.size w w') : Slc w' base A n c xs := h.below hb (Nat.le_refl _)
theorem Slc.ri_ {w : World} {base n c : Nat} {A : Option Addr} {xs : List Int} (h : Slc w base A n c xs) : RI w w.heap.size A xs := h.ri (Nat.le_refl _)
theorem infoI : (Try.prog.info? 2).map (fun i => (i.zero, i.size, i.bytes)) = some (some (.int .i64 0), 1, 8) := by kernel_rfl

/-- append of one number onto a slice of the call's own. -/
theorem wpList_app1 {w : World} {ops : Array Oper} {rest : List Oper} {o : Oper} {a : Act} {Q : Exit → Act → World → Prop} (hgd : o.guard = none) (s x : Operand)
    (ho : o.op = .call { callee := .builtin .append, args := #[s, x], argTypes := #[22, 22] })
    (base : Nat) (A : Option Addr) (n c : Nat) (xs : List Int) (hs : a.eval s = .slice A n c) (hown : Slc w base A n c xs) (g : Nat) (u : Int) (hx : a.eval x = .slice (some ⟨g, 0, none⟩) 1 1)
    (hcell : w.cell? ⟨g, 0, none⟩ = some (.int .i64 u)) (hn : n ≤ 1000000000000) (hbase : base ≤ w.heap.size)
    (h : ∀ A' c' w', Slc w' base A' (n + 1) c' (xs ++ [u]) → w.grownBy w' (Value.slice A n c).ownBlock → wpList Try.prog ops Q rest (a.put o.dst (.slice A' (n + 1) c')) w') : wpList Try.prog ops Q (o :: rest) a w := by
  obtain ⟨i0, hi, hz0, hz1, hz2⟩ := info_parts infoI
  obtain ⟨hl, ho'⟩ := hown
  subst hl
  refine wpList_append_own w hgd s x 22 ho base 2 i0 (.int .i64 0) 1 8 Try.underlying22 hi hz0 hz1 hz2 rfl (by decide) _ xs.length _ hs ho' ⟨g, 0, none⟩ 1 1 [.int .i64 u] hx rfl ?_ ?_ ?_ (by omega) hbase ?_
  · intro j v hj
    match j, hj with
    | 0, hj => simp at hj; subst hj; simpa [Addr.add] using hcell
    | j + 1, hj => simp at hj
  · intro v hv; simp at hv; subst hv; rfl
  · unfold maxLen; omega
  · intro v' w' hown' hg _
    have hO : Own w' base v' (xs ++ [u]) := by
      unfold Own
      rw [List.length_append, List.map_append]
      exact hown'
    obtain ⟨A', c', rfl, hS⟩ := Slc.of_own (n := xs.length + 1) hO (by simp)
    exact h A' c' w' hS hg

def marks (k n : Nat) : List Int := (List.range n).map fun i => ((k + i : Nat) : Int)
theorem marks_length (k n : Nat) : (marks k n).length = n := by simp [marks]
theorem marks_getD {k n j : Nat} (h : j < n) : (marks k n).getD j 0 = ((k + j : Nat) : Int) := by
  rw [List.getD_eq_getElem?_getD, List.getElem?_eq_getElem (by simp [marks, h])]; simp [marks]
theorem ext_getD {xs ys : List Int} {n : Nat} (hx : xs.length = n) (hy : ys.length = n) (h : ∀ j, j < n → xs.getD j 0 = ys.getD j 0) : xs = ys := by
  apply List.ext_getElem (by omega)
  intro i h1 h2
  have := h i (by omega)
  simp only [List.getD_eq_getElem?_getD, List.getElem?_eq_getElem h1, List.getElem?_eq_getElem h2, Option.getD_some] at this
  exact this
theorem set_getD {xs : List Int} {n i j : Nat} (hl : xs.length = n) (hj : j < n) (u : Int) : (xs.set i u).getD j 0 = if i = j then u else xs.getD j 0 := by
  rw [List.getD_eq_getElem?_getD, List.getElem?_set]
  by_cases e : i = j
  · subst e; rw [if_pos rfl, if_pos (by omega), if_pos rfl]; rfl
  · rw [if_neg e, if_neg e, ← List.getD_eq_getElem?_getD]
theorem grown_refl (w : World) (row : Option Nat) : w.grownBy w row := ⟨rfl, rfl, rfl, Nat.le_refl _, fun _ _ _ => rfl⟩
theorem grown_set {a w : World} {g : Nat} (h : a.grownBy w (some g)) (j : Nat) (u : Value) : a.grownBy (w.setCell ⟨g, j, none⟩ u) (some g) :=
  ⟨h.os, h.tape, h.output, by simpa [World.setCell] using h.size, fun i hi hne => (Below.heap_setCell w ⟨g, j, none⟩ u i (fun e => hne (by rw [e]))).trans (h.block i hi hne)⟩
theorem grown_drewN {a w : World} {row : Option Nat} (h : a.grownBy w row) (n : Nat) : a.grownBy (w.drewN n) row := ⟨h.os, h.tape, h.output, h.size, h.block⟩
theorem below_of_grown {B : Nat} {w w' : World} {row : Option Nat} (h : w.grownBy w' row) (hB : B ≤ w.heap.size) (hr : ∀ k, row = some k → B ≤ k) : Below B w w' := (Below.refl B w).grown h hB hr

/-- '[]int64{}': a new empty row. -/
theorem Slc.lit0 (w : World) (base : Nat) (hb : base ≤ w.heap.size) : Slc (w.alloc (.cells #[] 2)) base (some ⟨w.heap.size, 0, none⟩) 0 0 [] :=
  ⟨rfl, World.ownsRow_lit (size := 1) w #[] 0 hb (Nat.zero_le _) rfl⟩
theorem Slc.lit1 (w : World) (base : Nat) (x : Int) (hb : base ≤ w.heap.size) : Slc (w.alloc (.cells #[.int .i64 x] 2)) base (some ⟨w.heap.size, 0, none⟩) 1 1 [x] :=
  ⟨rfl, World.ownsRow_lit (size := 1) w #[.int .i64 x] 1 hb (by unfold maxLen; omega) rfl⟩
theorem getD_eq {xs : List Int} {j : Nat} (hj : j < xs.length) : xs.getD j 0 = xs[j] := by rw [List.getD_eq_getElem?_getD, List.getElem?_eq_getElem hj]; rfl
theorem below_drewN {B : Nat} {a w : World} (h : Below B a w) (n : Nat) : Below B a (w.drewN n) := ⟨h.os, h.tape, h.output, h.size, h.block⟩
theorem below_quiet (w : World) (n : Nat) : Below w.heap.size w (w.drewN n) := ⟨rfl, rfl, rfl, Nat.le_refl _, fun _ _ => rfl⟩
theorem ret_int {k : IntKind} {a b : Int} (h : a = b) : Ending.returned (.int k a) = .returned (.int k b) := by rw [h]
theorem ret_bool {a b : Bool} (h : a = b) : Ending.returned (.bool a) = .returned (.bool b) := by rw [h]
end Go.Proofs.Ytcjcmhoalomjfab

/- The helpers of the laws: copy, comparison, marking. No condition but lengths. -/
namespace Go.Proofs.Ytcjcmhoalomjfab
open Go.RowKit

set_option maxHeartbeats 400000 in
theorem eqS_core (A B : Option Addr) (c d n : Nat) (xs ys : List Int) (w : World) (hx : RI w w.heap.size A xs) (hy : RI w w.heap.size B ys) (lx : Hid (xs.length = n)) (ly : Hid (ys.length = n)) (hn : n ≤ 2097152) :
    Calls Try.prog 10 #[.slice A n c, .slice B n d] w fun e w' => e = .returned (.bool (decide (xs = ys))) ∧ ∃ m, w' = w.drewN m := by
  go_enter Try.func10, Try.ntmps10
  go_wp2
  go_loopw [5] (fun i wr => ∃ k : Nat, k ≤ n ∧ i = .int .i64 k ∧ (∀ j, j < k → xs.getD j 0 = ys.getD j 0) ∧ ∃ m, wr = w.drewN m) (fun i _ => n - (intOf i).toNat)
  case atStart => exact ⟨0, Nat.zero_le _, rfl, fun j h => absurd h (by omega), 0, rfl⟩
  case round =>
    obtain ⟨k, hk, rfl, heq, m, rfl⟩ := hrel
    have Heq := Lib.hid heq
    clear heq
    by_cases hlt : k < n
    · obtain ⟨b, off, rfl, hb, hc⟩ := hx (by rw [lx.out]; omega)
      obtain ⟨b', off', rfl, hb', hc'⟩ := hy (by rw [ly.out]; omega)
      have c1 := hc k (by rw [lx.out]; omega)
      have c2 := hc' k (by rw [ly.out]; omega)
      obtain ⟨x, ex⟩ : ∃ x, xs.getD k 0 = x := ⟨_, rfl⟩
      obtain ⟨y, ey⟩ : ∃ y, ys.getD k 0 = y := ⟨_, rfl⟩
      rw [ex] at c1
      rw [ey] at c2
      have Ex := Lib.hid ex
      have Ey := Lib.hid ey
      clear ex ey hc hc' hx hy
      have p1 : (0 : Int) ≤ k := by omega
      have p2 : (k : Int) < n := by omega
      by_cases hxy : x = y
      · subst hxy
        go_wp2
        go_quiet (fail)
        go_wp2
        go_roundw
        case rel => exact ⟨k + 1, by omega, by go_num, fun j hj => by
          by_cases e : j = k
          · subst e; rw [Ex.out, Ey.out]
          · exact Heq.out j (by omega), _, rfl⟩
        case measure => simp [intOf]; omega
      · have hd : (x != y) = true := by simpa using hxy
        have hd' : (x == y) = false := by simpa using hxy
        go_wp2
        go_quiet (fail)
        go_wp2
        go_ret
        refine ⟨ret_bool (Eq.symm (decide_eq_false fun e => hxy ?_)), _, World.drewN_drewN _ _ _⟩
        rw [← Ex.out, ← Ey.out, e]
    · go_wp2
      go_ret
      have : k = n := by omega
      subst this
      exact ⟨ret_bool (Eq.symm (decide_eq_true (ext_getD lx.out ly.out Heq.out))), _, rfl⟩

/-- eqInt64S compares two lists. -/
theorem eqS_any (A B : Option Addr) (c d n m : Nat) (xs ys : List Int) (w : World) (hx : RI w w.heap.size A xs) (hy : RI w w.heap.size B ys) (lx : Hid (xs.length = n)) (ly : Hid (ys.length = m)) (hn : n ≤ 2097152) (hm : m ≤ 2097152) :
    Calls Try.prog 10 #[.slice A n c, .slice B m d] w fun e w' => e = .returned (.bool (decide (xs = ys))) ∧ ∃ m, w' = w.drewN m := by
  by_cases hl : n = m
  · subst hl
    exact eqS_core A B c d n xs ys w hx hy lx ly hn
  · have hd : ((n : Int) != (m : Int)) = true := by rw [bne_iff_ne]; omega
    have hd' : ((n : Int) == (m : Int)) = false := by rw [beq_eq_false_iff_ne]; omega
    go_enter Try.func10, Try.ntmps10
    go_wp2
    go_ret
    refine ⟨ret_bool (Eq.symm (decide_eq_false fun e => hl ?_)), 0, rfl⟩
    rw [← lx.out, ← ly.out, e]
set_option maxHeartbeats 400000 in
theorem likeI_core (A B : Option Addr) (c d n : Nat) (xs ys : List Int) (w : World) (hx : RI w w.heap.size A xs) (hy : RI w w.heap.size B ys) (lx : Hid (xs.length = n)) (ly : Hid (ys.length = n)) (hn : n ≤ 2097152) :
    Calls Try.prog 25 #[.slice A n c, .slice B n d] w fun e w' => e = .returned (.bool (decide (xs = ys))) ∧ ∃ m, w' = w.drewN m := by
  go_enter Try.func25, Try.ntmps25
  go_wp2
  go_loopw [5] (fun i wr => ∃ k : Nat, k ≤ n ∧ i = .int .i64 k ∧ (∀ j, j < k → xs.getD j 0 = ys.getD j 0) ∧ ∃ m, wr = w.drewN m) (fun i _ => n - (intOf i).toNat)
  case atStart => exact ⟨0, Nat.zero_le _, rfl, fun j h => absurd h (by omega), 0, rfl⟩
  case round =>
    obtain ⟨k, hk, rfl, heq, m, rfl⟩ := hrel
    have Heq := Lib.hid heq
    clear heq
    by_cases hlt : k < n
    · obtain ⟨b, off, rfl, hb, hc⟩ := hx (by rw [lx.out]; omega)
      obtain ⟨b', off', rfl, hb', hc'⟩ := hy (by rw [ly.out]; omega)
      have c1 := hc k (by rw [lx.out]; omega)
      have c2 := hc' k (by rw [ly.out]; omega)
      obtain ⟨x, ex⟩ : ∃ x, xs.getD k 0 = x := ⟨_, rfl⟩
      obtain ⟨y, ey⟩ : ∃ y, ys.getD k 0 = y := ⟨_, rfl⟩
      rw [ex] at c1
      rw [ey] at c2
      have Ex := Lib.hid ex
      have Ey := Lib.hid ey
      clear ex ey hc hc' hx hy
      have p1 : (0 : Int) ≤ k := by omega
      have p2 : (k : Int) < n := by omega
      by_cases hxy : x = y
      · subst hxy
        go_wp2
        go_quiet (fail)
        go_wp2
        go_roundw
        case rel => exact ⟨k + 1, by omega, by go_num, fun j hj => by
          by_cases e : j = k
          · subst e; rw [Ex.out, Ey.out]
          · exact Heq.out j (by omega), _, rfl⟩
        case measure => simp [intOf]; omega
      · have hd : (x != y) = true := by simpa using hxy
        have hd' : (x == y) = false := by simpa using hxy
        go_wp2
        go_quiet (fail)
        go_wp2
        go_ret
        refine ⟨ret_bool (Eq.symm (decide_eq_false fun e => hxy ?_)), _, World.drewN_drewN _ _ _⟩
        rw [← Ex.out, ← Ey.out, e]
    · go_wp2
      go_ret
      have : k = n := by omega
      subst this
      exact ⟨ret_bool (Eq.symm (decide_eq_true (ext_getD lx.out ly.out Heq.out))), _, rfl⟩

/-- likeInts compares two lists. -/
theorem likeI_any (A B : Option Addr) (c d n m : Nat) (xs ys : List Int) (w : World) (hx : RI w w.heap.size A xs) (hy : RI w w.heap.size B ys) (lx : Hid (xs.length = n)) (ly : Hid (ys.length = m)) (hn : n ≤ 2097152) (hm : m ≤ 2097152) :
    Calls Try.prog 25 #[.slice A n c, .slice B m d] w fun e w' => e = .returned (.bool (decide (xs = ys))) ∧ ∃ m, w' = w.drewN m := by
  by_cases hl : n = m
  · subst hl
    exact likeI_core A B c d n xs ys w hx hy lx ly hn
  · have hd : ((n : Int) != (m : Int)) = true := by rw [bne_iff_ne]; omega
    have hd' : ((n : Int) == (m : Int)) = false := by rw [beq_eq_false_iff_ne]; omega
    go_enter Try.func25, Try.ntmps25
    go_wp2
    go_ret
    refine ⟨ret_bool (Eq.symm (decide_eq_false fun e => hl ?_)), 0, rfl⟩
    rw [← lx.out, ← ly.out, e]

set_option maxHeartbeats 400000 in
/-- toInt64S copies a slice. -/
theorem toS_any (A : Option Addr) (c n : Nat) (xs : List Int) (w : World) (hx : RI w w.heap.size A xs) (lx : Hid (xs.length = n)) (hn : n ≤ 2097152) :
    Calls Try.prog 8 #[.slice A n c] w fun e w' => ∃ A' c', e = .returned (.slice A' n c') ∧ Slc w' w.heap.size A' n c' xs ∧ Below w.heap.size w w' := by
  obtain ⟨i0, hi, hz0, hz1, hz2⟩ := info_parts infoI
  go_enter Try.func8, Try.ntmps8
  go_wp2_with (first | (at_make; refine wpList_make_full _ rfl _ _ 22 rfl w.heap.size 2 i0 (.int .i64 0) 1 Try.underlying22 hi hz0 hz1 .i64 .i64 _ _ n rfl rfl rfl rfl (by rw [hz2]; omega) (by unfold maxLen; omega) (Nat.le_refl _) ?_; intro w1 hown1 hgrow1))
  have row1 := Row.made hown1
  have bel1 : Below w.heap.size w w1 := (Below.refl _ _).grown hgrow1 (Nat.le_refl _) (fun k e => nomatch e)
  clear hown1 hgrow1
  go_loopw [4] (fun i wr => ∃ k ys, k ≤ n ∧ i = .int .i64 (k : Nat) ∧ Row wr w.heap.size w.heap.size n n ys ∧ (∀ j, j < k → ys.getD j 0 = xs.getD j 0) ∧ Below w.heap.size w wr) (fun i _ => n - (intOf i).toNat)
  case atStart => exact ⟨0, _, Nat.zero_le _, rfl, row1, fun j h => absurd h (by omega), bel1⟩
  case round =>
    clear row1 bel1
    obtain ⟨k, ys, hk, rfl, row, heq, bel⟩ := hrel
    have Heq := Lib.hid heq
    clear heq
    by_cases hlt : k < n
    · obtain ⟨b, off, rfl, hb, hc⟩ := hx (by rw [lx.out]; omega)
      have c1 := (bel.cell (p := ⟨b, off + k, none⟩) hb).trans (hc k (by rw [lx.out]; omega))
      have c2 := row.cell hlt
      have f2 := row.free k
      obtain ⟨x, ex⟩ : ∃ x, xs.getD k 0 = x := ⟨_, rfl⟩
      rw [ex] at c1
      have Ex := Lib.hid ex
      clear ex hc hx
      have row2 := row.store k x
      have bel2 := bel.setCell (p := ⟨w.heap.size, k, none⟩) (Nat.le_refl _) (.int .i64 x)
      have Row2 := Lib.hid row2
      have Bel2 := Lib.hid bel2
      have hyl : Hid (ys.length = n) := Lib.hid row.1
      clear row2 bel2 row bel
      go_wp2
      go_roundw
      case rel =>
        refine ⟨k + 1, _, by omega, by go_num, Row2.out, fun j hj => ?_, Bel2.out⟩
        rw [set_getD hyl.out (by omega)]
        by_cases e : k = j
        · subst e; rw [if_pos rfl, Ex.out]
        · rw [if_neg e]; exact Heq.out j (by omega)
      case measure => simp [intOf]; omega
    · have hkn : k = n := by omega
      subst hkn
      obtain rfl : ys = xs := ext_getD row.1 lx.out Heq.out
      have Ro := Lib.hid row
      have Be := Lib.hid bel
      clear row bel
      go_wp2
      go_ret
      exact ⟨_, _, rfl, Ro.out.slc, Be.out⟩

set_option maxHeartbeats 400000 in
theorem markS_row (base g n c k0 : Nat) (xs : List Int) (w : World) (hr : Row w base g n c xs) (hn : n ≤ 2097152) (hk0 : k0 ≤ 1000000000000) :
    Calls Try.prog 11 #[.slice (some ⟨g, 0, none⟩) n c, .int .i64 k0] w fun e w' => e = .returned (.int .i64 ((k0 + n : Nat) : Int)) ∧ Row w' base g n c (marks k0 n) ∧ w.grownBy w' (some g) := by
  go_enter Try.func11, Try.ntmps11
  go_wp2
  go_loopw [1, 5] (fun v i wr => ∃ k ys, k ≤ n ∧ i = .int .i64 (k : Nat) ∧ v = .int .i64 ((k0 + k : Nat) : Int) ∧ Row wr base g n c ys ∧ (∀ j, j < k → ys.getD j 0 = ((k0 + j : Nat) : Int)) ∧ w.grownBy wr (some g)) (fun _ i _ => n - (intOf i).toNat)
  case atStart => exact ⟨0, _, Nat.zero_le _, rfl, rfl, hr, fun j h => absurd h (by omega), grown_refl _ _⟩
  case round =>
    clear hr
    obtain ⟨k, ys, hk, rfl, rfl, row, heq, gro⟩ := hrel
    have Heq := Lib.hid heq
    clear heq
    by_cases hlt : k < n
    · have c2 := row.cell hlt
      have f2 := row.free k
      have row2 := row.store k ((k0 + k : Nat) : Int)
      have gro2 := grown_set gro k (.int .i64 ((k0 + k : Nat) : Int))
      have Row2 := Lib.hid row2
      have Gro2 := Lib.hid gro2
      have hyl : Hid (ys.length = n) := Lib.hid row.1
      clear row2 gro2 row gro
      go_wp2
      go_roundw
      case rel =>
        refine ⟨k + 1, _, by omega, by go_num, by go_num, Row2.out, fun j hj => ?_, Gro2.out⟩
        rw [set_getD hyl.out (by omega)]
        by_cases e : k = j
        · subst e; rw [if_pos rfl]
        · rw [if_neg e]; exact Heq.out j (by omega)
      case measure => simp [intOf]; omega
    · have hkn : k = n := by omega
      subst hkn
      have Em : Hid (ys = marks k0 k) := Lib.hid (ext_getD row.1 (marks_length k0 k) fun j hj => by rw [Heq.out j hj, marks_getD hj])
      have Ro := Lib.hid row
      have Gr := Lib.hid gro
      clear row gro
      go_wp2
      go_ret
      exact ⟨rfl, by rw [← Em.out]; exact Ro.out, Gr.out⟩

theorem markS_nil (k0 : Nat) (w : World) : Calls Try.prog 11 #[.slice none 0 0, .int .i64 k0] w fun e w' => e = .returned (.int .i64 k0) ∧ w = w' := by
  go_enter Try.func11, Try.ntmps11
  go_wp2
  refine wp_loop_rounds 1 ?_
  rw [rounds_succ]
  go_wp2
  go_ret
  exact ⟨rfl, rfl⟩

/-- markInt64S fills a slice of the call's own with k0, k0 + 1 and so on. -/
theorem markS_any (base k0 : Nat) (A : Option Addr) (n c : Nat) (xs : List Int) (w : World) (hr : Slc w base A n c xs) (hn : n ≤ 2097152) (hk0 : k0 ≤ 1000000000000) :
    Calls Try.prog 11 #[.slice A n c, .int .i64 k0] w fun e w' => e = .returned (.int .i64 ((k0 + n : Nat) : Int)) ∧ Slc w' base A n c (marks k0 n) ∧ w.grownBy w' (Value.slice A n c).ownBlock := by
  rcases hr.at_ with ⟨rfl, rfl, rfl, rfl⟩ | ⟨g, rfl, _, _⟩
  · exact (markS_nil k0 w).mono fun e w' ⟨he, hw⟩ => by subst hw; exact ⟨by simpa using he, hr, grown_refl _ _⟩
  · have row : Row w base g n c xs := by obtain ⟨rfl, h⟩ := hr; exact Row.of_own h
    exact (markS_row base g n c k0 xs w row hn hk0).mono fun e w' ⟨he, h1, h2⟩ => ⟨he, h1.slc, h2⟩

set_option maxHeartbeats 400000 in
theorem heldS_core (A : Option Addr) (c n k0 : Nat) (xs : List Int) (w : World) (hx : RI w w.heap.size A xs) (lx : Hid (xs.length = n)) (hn : n ≤ 2097152) (hk0 : k0 ≤ 1000000000000) (hm : Hid (xs = marks k0 n)) :
    Calls Try.prog 12 #[.slice A n c, .int .i64 k0] w fun e w' => e = .returned (.int .i64 ((k0 + n : Nat) : Int)) ∧ w = w' := by
  go_enter Try.func12, Try.ntmps12
  go_wp2
  go_loop [1, 5] (fun v i => ∃ k : Nat, k ≤ n ∧ i = .int .i64 (k : Nat) ∧ v = .int .i64 ((k0 + k : Nat) : Int)) (fun _ i => n - (intOf i).toNat)
  case atStart => exact ⟨0, Nat.zero_le _, rfl, rfl⟩
  case round =>
    obtain ⟨k, hk, rfl, rfl⟩ := hrel
    by_cases hlt : k < n
    · obtain ⟨b, off, rfl, hb, hc⟩ := hx (by rw [lx.out]; omega)
      have c1 := hc k (by rw [lx.out]; omega)
      rw [show xs.getD k 0 = ((k0 + k : Nat) : Int) from by rw [hm.out, marks_getD hlt]] at c1
      clear hc hx
      go_wp2
      go_round
      case rel => exact ⟨k + 1, by omega, by go_num, by go_num⟩
      case measure => simp [intOf]; omega
    · have hkn : k = n := by omega
      subst hkn
      go_wp2
      go_ret
      exact ⟨rfl, rfl⟩

theorem markK (base k0 : Nat) (K : Int) (A : Option Addr) (n c : Nat) (xs : List Int) (w : World) (hr : Slc w base A n c xs) (hn : n ≤ 2097152) (hk0 : k0 ≤ 1000000000000) (hK : K = (k0 : Int)) :
    Calls Try.prog 11 #[.slice A n c, .int .i64 K] w fun e w' => e = .returned (.int .i64 (K + (n : Int))) ∧ Slc w' base A n c (marks k0 n) ∧ w.grownBy w' (Value.slice A n c).ownBlock := by
  subst hK
  exact (markS_any base k0 A n c xs w hr hn hk0).mono fun e w' ⟨he, h1, h2⟩ => ⟨he.trans (ret_int (by omega)), h1, h2⟩
theorem heldK (k0 : Nat) (K : Int) (A : Option Addr) (n c : Nat) (xs : List Int) (w : World) (hx : RI w w.heap.size A xs) (lx : Hid (xs.length = n)) (hn : n ≤ 2097152) (hk0 : k0 ≤ 1000000000000) (hm : Hid (xs = marks k0 n)) (hK : K = (k0 : Int)) :
    Calls Try.prog 12 #[.slice A n c, .int .i64 K] w fun e w' => e = .returned (.int .i64 (K + (n : Int))) ∧ w = w' := by
  subst hK
  exact (heldS_core A c n k0 xs w hx lx hn hk0 hm).mono fun e w' ⟨he, h1⟩ => ⟨he.trans (ret_int (by omega)), h1⟩
theorem mark1 (base : Nat) (A : Option Addr) (n c : Nat) (xs : List Int) (w : World) (hr : Slc w base A n c xs) (hn : n ≤ 2097152) :
    Calls Try.prog 11 #[.slice A n c, .int .i64 1] w fun e w' => e = .returned (.int .i64 (1 + (n : Int))) ∧ Slc w' base A n c (marks 1 n) ∧ w.grownBy w' (Value.slice A n c).ownBlock :=
  (markS_any base 1 A n c xs w hr hn (by decide)).mono fun e w' ⟨he, h1, h2⟩ => ⟨he.trans (ret_int (by omega)), h1, h2⟩
theorem held1 (base : Nat) (A : Option Addr) (n c : Nat) (w : World) (hr : Slc w base A n c (marks 1 n)) (hn : n ≤ 2097152) :
    Calls Try.prog 12 #[.slice A n c, .int .i64 1] w fun e w' => e = .returned (.int .i64 (1 + (n : Int))) ∧ w = w' :=
  (heldS_core A c n 1 _ w hr.ri_ hr.hid hn (by decide) (Lib.hid rfl)).mono fun e w' ⟨he, h1⟩ => ⟨he.trans (ret_int (by omega)), h1⟩
theorem eqS_same {xs : List Int} (base base' : Nat) (A B : Option Addr) (n c m d : Nat) (w : World) (hx : Slc w base A n c xs) (hy : Slc w base' B m d xs) (hn : n ≤ 2097152) :
    Calls Try.prog 10 #[.slice A n c, .slice B m d] w fun e w' => e = .returned (.bool true) ∧ Below w.heap.size w w' :=
  (quiet_below (eqS_any A B c d n m _ _ w hx.ri_ hy.ri_ hx.hid hy.hid hn (by rw [← hy.1, hx.1]; exact hn))).mono fun e w' ⟨he, hb⟩ => ⟨he.trans (ret_bool (by simp)), hb⟩
end Go.Proofs.Ytcjcmhoalomjfab

/- Plain facts on permutations as lists of numbers: iterates, periods, cycles, orders. No Go in it. No condition. -/
namespace Go.Proofs.Ytcjcmhoalomjfab

theorem ndlen : ∀ (n : Nat) (l : List Nat), l.Nodup → (∀ x ∈ l, x < n) → l.length ≤ n := by
  intro n
  induction n with
  | zero =>
    intro l _ h
    cases l with
    | nil => simp
    | cons a t => exact absurd (h a (by simp)) (by omega)
  | succ n ih =>
    intro l hd h
    have h1 : (l.filter (fun x => x != n)).length ≤ n := by
      refine ih _ (hd.filter _) ?_
      intro x hx
      rw [List.mem_filter] at hx
      have := h x hx.1
      have h2 : x ≠ n := by simpa using hx.2
      omega
    have h2 : l.length ≤ (l.filter (fun x => x != n)).length + 1 := by
      clear ih h h1
      induction l with
      | nil => simp
      | cons a t iht =>
        rw [List.nodup_cons] at hd
        by_cases ha : a = n
        · subst ha
          have : t.filter (fun x => x != a) = t := by
            rw [List.filter_eq_self]
            intro x hx
            have : x ≠ a := fun e => hd.1 (e ▸ hx)
            simpa using this
          simp [this]
        · have := iht hd.2
          simp [ha]; omega
    omega

/-- The point that follows i. -/
def nx (p : List Int) (i : Nat) : Nat := (p.getD i 0).toNat

structure IsP (p : List Int) : Prop where
  pos : 1 ≤ p.length
  le : p.length ≤ 20
  lo : ∀ i, i < p.length → 0 ≤ p.getD i 0
  hi : ∀ i, i < p.length → p.getD i 0 < p.length
  inj : ∀ i j, i < p.length → j < p.length → p.getD i 0 = p.getD j 0 → i = j

def it (p : List Int) : Nat → Nat → Nat
  | 0, x => x
  | k + 1, x => nx p (it p k x)

section
variable {p : List Int} (h : IsP p)
include h

theorem nx_lt {x : Nat} (hx : x < p.length) : nx p x < p.length := by
  have := h.hi x hx; have := h.lo x hx; unfold nx; omega
theorem nx_val {x : Nat} (hx : x < p.length) : p.getD x 0 = (nx p x : Int) := by
  have := h.lo x hx; unfold nx; omega
theorem nx_inj {x y : Nat} (hx : x < p.length) (hy : y < p.length) (e : nx p x = nx p y) : x = y :=
  h.inj x y hx hy (by rw [nx_val h hx, nx_val h hy, e])
theorem it_lt {x : Nat} (hx : x < p.length) (k : Nat) : it p k x < p.length := by
  induction k with
  | zero => exact hx
  | succ k ih => exact nx_lt h ih
theorem it_inj {x y : Nat} (hx : x < p.length) (hy : y < p.length) (k : Nat) (e : it p k x = it p k y) : x = y := by
  induction k with
  | zero => exact e
  | succ k ih => exact ih (nx_inj h (it_lt h hx k) (it_lt h hy k) e)
end

theorem it_add (p : List Int) (a b x : Nat) : it p (a + b) x = it p a (it p b x) := by
  induction a with
  | zero => simp [it]
  | succ a ih => rw [Nat.succ_add]; simp [it, ih]
theorem it_comm (p : List Int) (a b x : Nat) : it p a (it p b x) = it p b (it p a x) := by
  rw [← it_add, ← it_add, Nat.add_comm]

theorem ret_ex {p : List Int} (h : IsP p) {x : Nat} (hx : x < p.length) : ∃ k, 1 ≤ k ∧ k ≤ p.length ∧ it p k x = x := by
  refine Classical.byContradiction fun hne => ?_
  have hne' : ∀ k, 1 ≤ k → k ≤ p.length → it p k x ≠ x := fun k h1 h2 e => hne ⟨k, h1, h2, e⟩
  have key : ((List.range (p.length + 1)).map fun k => it p k x).Nodup := by
    rw [List.Nodup, List.pairwise_map]
    rw [List.pairwise_iff_getElem]
    intro i j hi hj hij e
    simp only [List.length_range] at hi hj
    simp only [List.getElem_range] at e
    have e2 : it p i (it p (j - i) x) = it p i x := by rw [← it_add]; rw [e]; congr 1; omega
    exact hne' (j - i) (by omega) (by omega) (it_inj h (it_lt h hx _) hx i e2)
  have := ndlen p.length _ key (by intro y hy; simp only [List.mem_map] at hy; obtain ⟨k, _, rfl⟩ := hy; exact it_lt h hx k)
  rw [List.length_map, List.length_range] at this
  omega

def per (p : List Int) (x : Nat) : Nat := ((List.range' 1 p.length).find? (fun k => it p k x == x)).getD 1

theorem per_spec {p : List Int} (h : IsP p) {x : Nat} (hx : x < p.length) :
    1 ≤ per p x ∧ per p x ≤ p.length ∧ it p (per p x) x = x ∧ ∀ k, 1 ≤ k → k < per p x → it p k x ≠ x := by
  obtain ⟨k0, h1, h2, h3⟩ := ret_ex h hx
  have hsome : ((List.range' 1 p.length).find? (fun k => it p k x == x)).isSome := by
    rw [List.find?_isSome]
    exact ⟨k0, by rw [List.mem_range'_1]; omega, by simpa using h3⟩
  obtain ⟨m, hm⟩ := Option.isSome_iff_exists.1 hsome
  have hp : per p x = m := by unfold per; rw [hm]; rfl
  rw [hp]
  have hmem := List.mem_of_find?_eq_some hm
  have hval := List.find?_some hm
  rw [List.mem_range'_1] at hmem
  refine ⟨hmem.1, by omega, by simpa using hval, ?_⟩
  intro k hk1 hk2 e
  rw [List.find?_eq_some_iff_getElem] at hm
  obtain ⟨_, i, hi, hget, hbef⟩ := hm
  rw [List.getElem_range'] at hget
  simp at hget
  have := hbef (k - 1) (by omega)
  rw [List.getElem_range'] at this
  simp at this
  apply this
  rw [show 1 + (k - 1) = k from by omega]; exact e

theorem it_mod {p : List Int} (h : IsP p) {x : Nat} (hx : x < p.length) (k : Nat) : it p k x = it p (k % per p x) x := by
  obtain ⟨h1, _, h3, _⟩ := per_spec h hx
  have hmul : ∀ q, it p (q * per p x) x = x := by
    intro q
    induction q with
    | zero => simp [it]
    | succ q ih => rw [Nat.succ_mul, it_add, h3, ih]
  have := Nat.div_add_mod k (per p x)
  rw [Nat.mul_comm] at this
  calc it p k x = it p (k % per p x + k / per p x * per p x) x := by rw [Nat.add_comm, this]
    _ = _ := by rw [it_add, hmul]

theorem it_eq_iff {p : List Int} (h : IsP p) {x : Nat} (hx : x < p.length) (k : Nat) : it p k x = x ↔ k % per p x = 0 := by
  obtain ⟨h1, _, h3, h4⟩ := per_spec h hx
  rw [it_mod h hx k]
  constructor
  · intro e
    refine Classical.byContradiction fun hne => ?_
    exact h4 (k % per p x) (by omega) (Nat.mod_lt _ (by omega)) e
  · intro e; rw [e]; rfl

/-- Points of one cycle have one period. -/
theorem per_it {p : List Int} (h : IsP p) {x : Nat} (hx : x < p.length) (k : Nat) : per p (it p k x) = per p x := by
  have hy := it_lt h hx k
  have key : ∀ m, it p m (it p k x) = it p k x ↔ it p m x = x := fun m => by
    rw [it_comm]
    exact ⟨fun e => it_inj h (it_lt h hx m) hx k e, fun e => by rw [e]⟩
  obtain ⟨a1, _, a3, a4⟩ := per_spec h hx
  obtain ⟨b1, _, b3, b4⟩ := per_spec h hy
  rcases Nat.lt_trichotomy (per p (it p k x)) (per p x) with hlt | heq | hgt
  · exact absurd ((key _).1 b3) (a4 _ b1 hlt)
  · exact heq
  · exact absurd ((key _).2 a3) (b4 _ a1 hgt)

/-- The points that follow x, x first. -/
def cyc (p : List Int) (x : Nat) : List Int := (List.range (per p x)).map fun k => (it p k x : Int)
/-- x is the smallest point of its cycle. -/
def st (p : List Int) (x : Nat) : Bool := (List.range (per p x)).all fun k => decide (x ≤ it p k x)
def cycs (p : List Int) : List (List Int) := ((List.range p.length).filter (st p)).map (cyc p)

theorem cyc_length (p : List Int) (x : Nat) : (cyc p x).length = per p x := by simp [cyc]


instance (p : List Int) : Decidable (∀ i j, i < p.length → j < p.length → p.getD i 0 = p.getD j 0 → i = j) :=
  decidable_of_iff (∀ i, i < p.length → ∀ j, j < p.length → p.getD i 0 = p.getD j 0 → i = j) ⟨fun h i j a b c => h i a j b c, fun h i a j b c => h i j a b c⟩

def isP (p : List Int) : Bool :=
  decide (1 ≤ p.length) && decide (p.length ≤ 20) && decide (∀ i, i < p.length → 0 ≤ p.getD i 0) && decide (∀ i, i < p.length → p.getD i 0 < p.length) &&
    decide (∀ i, i < p.length → ∀ j, j < p.length → p.getD i 0 = p.getD j 0 → i = j)
theorem isP_iff {p : List Int} : isP p = true ↔ IsP p := by
  unfold isP
  simp only [Bool.and_eq_true, decide_eq_true_eq]
  constructor
  · rintro ⟨⟨⟨⟨a, b⟩, c⟩, d⟩, e⟩
    exact ⟨a, b, c, d, fun i j hi hj => e i hi j hj⟩
  · rintro ⟨a, b, c, d, e⟩
    exact ⟨⟨⟨⟨a, b⟩, c⟩, d⟩, fun i hi j hj => e i j hi hj⟩

/-- The first k entries are in range and differ from one another. -/
def okTo (p : List Int) (k : Nat) : Prop :=
  (∀ i, i < k → 0 ≤ p.getD i 0 ∧ p.getD i 0 < p.length) ∧ ∀ i j, i < j → j < k → p.getD i 0 ≠ p.getD j 0
theorem okTo_zero (p : List Int) : okTo p 0 := ⟨fun i h => absurd h (by omega), fun i j _ h => absurd h (by omega)⟩
theorem okTo_succ {p : List Int} {k : Nat} (h : okTo p k) (h0 : 0 ≤ p.getD k 0) (h1 : p.getD k 0 < p.length) (h2 : ∀ i, i < k → p.getD i 0 ≠ p.getD k 0) : okTo p (k + 1) := by
  refine ⟨fun i hi => ?_, fun i j hij hj => ?_⟩
  · by_cases e : i = k
    · subst e; exact ⟨h0, h1⟩
    · exact h.1 i (by omega)
  · by_cases e : j = k
    · subst e; exact h2 i hij
    · exact h.2 i j hij (by omega)
theorem isP_of_ok {p : List Int} (a : 1 ≤ p.length) (b : p.length ≤ 20) (h : okTo p p.length) : isP p = true := by
  rw [isP_iff]
  refine ⟨a, b, fun i hi => (h.1 i hi).1, fun i hi => (h.1 i hi).2, fun i j hi hj e => ?_⟩
  rcases Nat.lt_trichotomy i j with hl | he | hg
  · exact absurd e (h.2 i j hl hj)
  · exact he
  · exact absurd e.symm (h.2 j i hg hi)
theorem isP_no_range {p : List Int} {k : Nat} (hk : k < p.length) (h : p.getD k 0 < 0 ∨ (p.length : Int) ≤ p.getD k 0) : isP p = false := by
  rw [Bool.eq_false_iff]
  intro e
  rw [isP_iff] at e
  have := e.lo k hk
  have := e.hi k hk
  omega
theorem isP_no_twice {p : List Int} {i k : Nat} (hk : k < p.length) (hi : i < k) (h : p.getD i 0 = p.getD k 0) : isP p = false := by
  rw [Bool.eq_false_iff]
  intro e
  rw [isP_iff] at e
  have := e.inj i k (by omega) hk h
  omega
theorem isP_no_len {p : List Int} (h : p.length < 1 ∨ 20 < p.length) : isP p = false := by
  rw [Bool.eq_false_iff]
  intro e
  rw [isP_iff] at e
  have := e.pos
  have := e.le
  omega

def idL (n : Nat) : List Int := (List.range n).map Int.ofNat
def compL (p q : List Int) : List Int := p.map fun x => q.getD x.toNat 0
def invL (p : List Int) : Nat → List Int
  | 0 => List.replicate p.length 0
  | k + 1 => (invL p k).set (p.getD k 0).toNat k
def powL (p : List Int) (k : Int) : List Int := (List.range p.length).map fun i => (it p (k % (per p i : Int)).toNat i : Int)
def lcmL (l : List Nat) : Nat := l.foldl Nat.lcm 1
def ordL (p : List Int) : Nat := lcmL ((List.range p.length).map (per p))
def cycl (p : List Int) : List (List Int) := (cycs p).filter fun c => decide (1 < c.length)
def sgn (p : List Int) : Int := if (p.length - (cycs p).length) % 2 = 0 then 1 else -1
def supp (p : List Int) : List Int := ((List.range p.length).filter fun i => p.getD i 0 != (i : Int)).map Int.ofNat
/-- p comes first: the first entry that differs is smaller. -/
def lessL : List Int → List Int → Bool
  | a :: p, b :: q => if a = b then lessL p q else decide (a < b)
  | _, _ => false

theorem foldl_lcm (l : List Nat) (a : Nat) : l.foldl Nat.lcm a = Nat.lcm a (lcmL l) := by
  unfold lcmL
  induction l generalizing a with
  | nil => simp
  | cons b t ih => simp only [List.foldl_cons]; rw [ih, ih (Nat.lcm 1 b), Nat.lcm_one_left, Nat.lcm_assoc]
theorem lcmL_snoc (l : List Nat) (a : Nat) : lcmL (l ++ [a]) = Nat.lcm (lcmL l) a := by simp [lcmL]
theorem dvd_lcmL {l : List Nat} {a : Nat} (h : a ∈ l) : a ∣ lcmL l := by
  induction l with
  | nil => cases h
  | cons b t ih =>
    have : lcmL (b :: t) = Nat.lcm b (lcmL t) := by unfold lcmL; simp only [List.foldl_cons]; rw [foldl_lcm, Nat.lcm_one_left]; rfl
    rw [this]
    rcases List.mem_cons.1 h with rfl | h
    · exact Nat.dvd_lcm_left _ _
    · exact Nat.dvd_trans (ih h) (Nat.dvd_lcm_right _ _)
theorem lcmL_dvd {l : List Nat} {m : Nat} (h : ∀ a ∈ l, a ∣ m) : lcmL l ∣ m := by
  induction l with
  | nil => simp [lcmL]
  | cons b t ih =>
    have : lcmL (b :: t) = Nat.lcm b (lcmL t) := by unfold lcmL; simp only [List.foldl_cons]; rw [foldl_lcm, Nat.lcm_one_left]; rfl
    rw [this]
    exact Nat.lcm_dvd (h b (by simp)) (ih fun a ha => h a (by simp [ha]))
theorem lcmL_pos {l : List Nat} (h : ∀ a ∈ l, 1 ≤ a ∧ a ≤ 20) : 1 ≤ lcmL l ∧ lcmL l ≤ 232792560 := by
  have hd : lcmL l ∣ 232792560 := lcmL_dvd fun a ha => by
    obtain ⟨h1, h2⟩ := h a ha
    have : ∀ a : Fin 21, 1 ≤ a.val → a.val ∣ 232792560 := by decide
    exact this ⟨a, by omega⟩ h1
  have hle := Nat.le_of_dvd (by decide) hd
  refine ⟨?_, hle⟩
  rcases Nat.eq_zero_or_pos (lcmL l) with e | e
  · rw [e] at hd; exact absurd (Nat.eq_zero_of_zero_dvd hd) (by decide)
  · exact e

/-- Every point lies in the cycle of a smallest point. -/
theorem min_ex {p : List Int} (h : IsP p) {x : Nat} (hx : x < p.length) : ∃ c j, c < p.length ∧ st p c = true ∧ j < per p c ∧ it p j c = x := by
  obtain ⟨h1, h2, h3, h4⟩ := per_spec h hx
  have hmin : ∀ m, 1 ≤ m → m ≤ per p x → ∃ i, i < m ∧ ∀ j, j < m → it p i x ≤ it p j x := by
    intro m
    induction m with
    | zero => omega
    | succ m ih =>
      intro _ hm
      by_cases h0 : m = 0
      · subst h0; exact ⟨0, by omega, fun j hj => by rw [show j = 0 from by omega]; exact Nat.le_refl _⟩
      · obtain ⟨i, hi, hle⟩ := ih (by omega) (by omega)
        by_cases hc : it p i x ≤ it p m x
        · exact ⟨i, by omega, fun j hj => by
            by_cases e : j = m
            · subst e; exact hc
            · exact hle j (by omega)⟩
        · exact ⟨m, by omega, fun j hj => by
            by_cases e : j = m
            · subst e; exact Nat.le_refl _
            · have := hle j (by omega); omega⟩
  obtain ⟨i, hi, hle⟩ := hmin (per p x) h1 (Nat.le_refl _)
  have hpc := per_it h hx i
  refine ⟨it p i x, per p x - i - (if i = 0 then per p x else 0), it_lt h hx i, ?_, ?_, ?_⟩
  · unfold st
    rw [List.all_eq_true]
    intro k hk
    rw [List.mem_range, hpc] at hk
    rw [decide_eq_true_eq, ← it_add, it_mod h hx (k + i)]
    exact hle _ (Nat.mod_lt _ (by omega))
  · rw [hpc]; split <;> omega
  · by_cases e : i = 0
    · subst e; simp [it]
    · rw [if_neg e, ← it_add, show per p x - i - 0 + i = per p x from by omega, h3]

theorem mem_cycs_per {p : List Int} (h : IsP p) : ordL p = lcmL ((cycs p).map List.length) := by
  have hl : (cycs p).map List.length = ((List.range p.length).filter (st p)).map (per p) := by
    unfold cycs; rw [List.map_map]; congr 1; funext x; simp [cyc_length]
  rw [hl]
  apply Nat.dvd_antisymm
  · refine lcmL_dvd fun a ha => ?_
    rw [List.mem_map] at ha
    obtain ⟨x, hx, rfl⟩ := ha
    rw [List.mem_range] at hx
    obtain ⟨c, j, hc, hst, hj, e⟩ := min_ex h hx
    rw [← e, per_it h hc]
    exact dvd_lcmL (List.mem_map.2 ⟨c, List.mem_filter.2 ⟨List.mem_range.2 hc, hst⟩, rfl⟩)
  · refine lcmL_dvd fun a ha => ?_
    rw [List.mem_map] at ha
    obtain ⟨x, hx, rfl⟩ := ha
    exact dvd_lcmL (List.mem_map.2 ⟨x, (List.mem_filter.1 hx).1, rfl⟩)

end Go.Proofs.Ytcjcmhoalomjfab

/- IsPermutation, of the program and of the model: both answer whether the list is a permutation. Condition: at most 2097152 entries. -/
namespace Go.Proofs.Ytcjcmhoalomjfab
open Go.RowKit

def seenB (xs : List Int) (k y : Nat) : Bool := (List.range k).any fun j => xs.getD j 0 == (y : Int)
theorem seenB_zero (xs : List Int) (y : Nat) : seenB xs 0 y = false := rfl
theorem seenB_succ (xs : List Int) (k y x : Nat) (h : xs.getD k 0 = (x : Int)) : seenB xs (k + 1) y = (seenB xs k y || decide (x = y)) := by
  unfold seenB
  rw [List.range_succ, List.any_append]
  simp only [List.any_cons, List.any_nil, Bool.or_false, h]
  congr 1
  rw [Bool.eq_iff_iff]; simp; omega
theorem seenB_true {xs : List Int} {k y : Nat} (h : seenB xs k y = true) : ∃ j, j < k ∧ xs.getD j 0 = (y : Int) := by
  unfold seenB at h
  rw [List.any_eq_true] at h
  obtain ⟨j, hj, e⟩ := h
  exact ⟨j, List.mem_range.1 hj, by simpa using e⟩
theorem seenB_false {xs : List Int} {k y : Nat} (h : seenB xs k y = false) : ∀ j, j < k → xs.getD j 0 ≠ (y : Int) := by
  intro j hj e
  unfold seenB at h
  rw [List.any_eq_false] at h
  exact h j (List.mem_range.2 hj) (by simpa using e)
def Seen (xs : List Int) (k : Nat) (cs : Array Value) : Prop := cs.size = 20 ∧ ∀ y, y < 20 → cs[y]? = some (.bool (seenB xs k y))
theorem Seen.start (xs : List Int) : Seen xs 0 (List.replicate 20 (Value.bool false)).toArray := ⟨by simp, fun y hy => by
  rw [seenB_zero, List.getElem?_toArray, List.getElem?_replicate, if_pos hy]⟩
theorem Seen.next {xs : List Int} {k x : Nat} {cs : Array Value} (h : Seen xs k cs) (hx : xs.getD k 0 = (x : Int)) (hlt : x < 20) : Seen xs (k + 1) (cs.setIfInBounds x (.bool true)) := by
  refine ⟨by simpa using h.1, fun y hy => ?_⟩
  rw [seenB_succ xs k y x hx, Array.getElem?_setIfInBounds]
  by_cases e : x = y
  · subst e; rw [if_pos rfl, if_pos (by rw [h.1]; exact hlt)]; simp
  · rw [if_neg e, h.2 y hy]; simp [e]

set_option maxHeartbeats 400000 in
theorem implIsP_core (A : Option Addr) (c n : Nat) (xs : List Int) (w : World) (hx : RI w w.heap.size A xs) (lx : Hid (xs.length = n)) (hn1 : 1 ≤ n) (hn : n ≤ 20) :
    Calls Try.prog 59 #[.slice A n c] w fun e w' => e = .returned (.bool (isP xs)) ∧ Below w.heap.size w w' := by
  have d1 : decide ((n : Int) < 1) = false := by simp; omega
  have d2 : decide ((20 : Int) < n) = false := by simp; omega
  go_enter Try.func59, Try.ntmps59
  go_wp2
  go_loopw [5, 16] (fun _ i wr => ∃ k cs, k ≤ n ∧ i = .int .i64 (k : Nat) ∧ Blk wr w.heap.size 88 cs ∧ Seen xs k cs ∧ okTo xs k ∧ Below w.heap.size w wr) (fun _ i _ => n - (intOf i).toNat)
  case atStart => exact ⟨0, _, Nat.zero_le _, rfl, Blk.new _ _ _, Seen.start xs, okTo_zero _, (Below.refl _ _).alloc (Nat.le_refl _) _⟩
  case round =>
    clear d1 d2
    obtain ⟨k, cs, hk, rfl, blk, seen, ok, bel⟩ := hrel
    by_cases hlt : k < n
    · obtain ⟨b, off, rfl, hb, hc⟩ := hx (by rw [lx.out]; omega)
      have c1 := (bel.cell (p := ⟨b, off + k, none⟩) hb).trans (hc k (by rw [lx.out]; omega))
      obtain ⟨x, ex⟩ : ∃ x, xs.getD k 0 = x := ⟨_, rfl⟩
      rw [ex] at c1
      have Bel := Lib.hid bel
      have Seen' := Lib.hid seen
      have Ok := Lib.hid ok
      have Ex := Lib.hid ex
      clear ex hc hx bel seen ok
      by_cases h1 : x < 0
      · have e1 : decide (x < 0) = true := by simpa using h1
        have Fin : Hid (isP xs = false) := Lib.hid (isP_no_range (by rw [lx.out]; exact hlt) (.inl (by rw [Ex.out]; exact h1)))
        clear blk
        go_wp2
        go_ret
        exact ⟨ret_bool Fin.out.symm, Bel.out⟩
      · by_cases h2 : (n : Int) ≤ x
        · have e1 : decide (x < 0) = false := by simpa using h1
          have e2 : decide ((n : Int) ≤ x) = true := by simpa using h2
          have Fin : Hid (isP xs = false) := Lib.hid (isP_no_range (by rw [lx.out]; exact hlt) (.inr (by rw [Ex.out, lx.out]; exact h2)))
          clear blk
          go_wp2
          go_ret
          exact ⟨ret_bool Fin.out.symm, Bel.out⟩
        · obtain ⟨y, rfl⟩ := Int.eq_ofNat_of_zero_le (show 0 ≤ x by omega)
          have hy : y < n := by omega
          have hy20 : y < 20 := by omega
          have c2 := (blk.cell y).trans (Seen'.out.2 y hy20)
          have f2 := blk.frozen y
          have e1 : decide ((y : Int) < 0) = false := by simp
          have e2 : decide ((n : Int) ≤ y) = false := by simp; omega
          by_cases hs : seenB xs k y = true
          · rw [hs] at c2
            have Fin : Hid (isP xs = false) := by
              obtain ⟨j, hj, e⟩ := seenB_true hs
              exact Lib.hid (isP_no_twice (by rw [lx.out]; exact hlt) hj (by rw [e, Ex.out]))
            clear blk hs
            go_wp2
            go_ret
            exact ⟨ret_bool Fin.out.symm, Bel.out⟩
          · rw [Bool.not_eq_true] at hs
            rw [hs] at c2
            have Bl2 := Lib.hid (blk.set_ y (.bool true))
            have Hs := Lib.hid hs
            clear blk hs
            go_wp2
            go_roundw
            case rel =>
              exact ⟨k + 1, _, by omega, by go_num, Bl2.out, Seen'.out.next Ex.out hy20,
                okTo_succ Ok.out (by rw [Ex.out]; omega) (by rw [Ex.out, lx.out]; omega) (fun i hi => by rw [Ex.out]; exact seenB_false Hs.out i hi), Bel.out.setCell (Nat.le_refl _) _⟩
            case measure => simp [intOf]; omega
    · have hkn : k = n := by omega
      subst hkn
      have Fin : Hid (isP xs = true) := Lib.hid (isP_of_ok (by rw [lx.out]; exact hn1) (by rw [lx.out]; exact hn) (by rw [lx.out]; exact ok))
      have Be := Lib.hid bel
      clear blk bel
      go_wp2
      go_ret
      exact ⟨ret_bool Fin.out.symm, Be.out⟩

/-- The program's IsPermutation. -/
theorem implIsP (A : Option Addr) (c n : Nat) (xs : List Int) (w : World) (hx : RI w w.heap.size A xs) (lx : Hid (xs.length = n)) (hn : n ≤ 2097152) :
    Calls Try.prog 59 #[.slice A n c] w fun e w' => e = .returned (.bool (isP xs)) ∧ Below w.heap.size w w' := by
  by_cases h1 : n < 1
  · have Fin : Hid (isP xs = false) := Lib.hid (isP_no_len (.inl (by rw [lx.out]; exact h1)))
    have d1 : decide ((n : Int) < 1) = true := by simp; omega
    go_enter Try.func59, Try.ntmps59
    go_wp2
    go_ret
    exact ⟨ret_bool Fin.out.symm, Below.refl _ _⟩
  · by_cases h2 : 20 < n
    · have Fin : Hid (isP xs = false) := Lib.hid (isP_no_len (.inr (by rw [lx.out]; exact h2)))
      have d1 : decide ((n : Int) < 1) = false := by simp; omega
      have d2 : decide ((20 : Int) < n) = true := by simp; omega
      go_enter Try.func59, Try.ntmps59
      go_wp2
      go_ret
      exact ⟨ret_bool Fin.out.symm, Below.refl _ _⟩
    · exact implIsP_core A c n xs w hx lx (by omega) (by omega)

/-! ### The model's -/
theorem inR_true (x lo hi : Int) (w : World) (h1 : lo ≤ x) (h2 : x ≤ hi) : Calls Try.prog 57 #[.int .i64 x, .int .i64 lo, .int .i64 hi] w fun e w' => e = .returned (.bool true) ∧ w = w' := by
  have d1 : decide (lo ≤ x) = true := by simpa using h1
  have d2 : decide (x ≤ hi) = true := by simpa using h2
  go_enter Try.func57, Try.ntmps57
  go_wp2
  go_ret
  exact ⟨rfl, rfl⟩
theorem inR_false (x lo hi : Int) (w : World) (h : x < lo ∨ hi < x) : Calls Try.prog 57 #[.int .i64 x, .int .i64 lo, .int .i64 hi] w fun e w' => e = .returned (.bool false) ∧ w = w' := by
  by_cases h1 : lo ≤ x
  · have d1 : decide (lo ≤ x) = true := by simpa using h1
    have d2 : decide (x ≤ hi) = false := by simp; omega
    clear h
    go_enter Try.func57, Try.ntmps57
    go_wp2
    go_ret
    exact ⟨rfl, rfl⟩
  · have d1 : decide (lo ≤ x) = false := by simpa using h1
    clear h
    go_enter Try.func57, Try.ntmps57
    go_wp2
    go_ret
    exact ⟨rfl, rfl⟩

def hasB (xs : List Int) (x : Int) : Bool := decide (∃ j, j < xs.length ∧ xs.getD j 0 = x)
set_option maxHeartbeats 400000 in
theorem containsI_any (A : Option Addr) (c n : Nat) (xs : List Int) (x : Int) (w : World) (B : Nat) (hx : RI w B A xs) (lx : Hid (xs.length = n)) (hn : n ≤ 2097152) (ans : Bool) (hans : Hid (hasB xs x = ans)) :
    Calls Try.prog 58 #[.slice A n c, .int .i64 x] w fun e w' => e = .returned (.bool ans) ∧ w = w' := by
  go_enter Try.func58, Try.ntmps58
  go_wp2
  go_loop [5] (fun i => ∃ k : Nat, k ≤ n ∧ i = .int .i64 k ∧ ∀ j, j < k → xs.getD j 0 ≠ x) (fun i => n - (intOf i).toNat)
  case atStart => exact ⟨0, Nat.zero_le _, rfl, fun j h => absurd h (by omega)⟩
  case round =>
    obtain ⟨k, hk, rfl, heq⟩ := hrel
    have Heq := Lib.hid heq
    clear heq
    by_cases hlt : k < n
    · obtain ⟨b, off, rfl, hb, hc⟩ := hx (by rw [lx.out]; omega)
      have c1 := hc k (by rw [lx.out]; omega)
      obtain ⟨y, ey⟩ : ∃ y, xs.getD k 0 = y := ⟨_, rfl⟩
      rw [ey] at c1
      have Ey := Lib.hid ey
      clear ey hc hx
      by_cases hxy : y = x
      · have hd : (y == x) = true := by simpa using hxy
        have Fin : Hid (hasB xs x = true) := Lib.hid (decide_eq_true ⟨k, by rw [lx.out]; exact hlt, by rw [Ey.out, hxy]⟩)
        subst hxy
        go_wp2
        go_ret
        exact ⟨ret_bool (by rw [← Fin.out, ← hans.out]), rfl⟩
      · have hd : (y == x) = false := by simpa using hxy
        have Hxy := Lib.hid hxy
        clear hxy
        go_wp2
        go_round
        case rel => exact ⟨k + 1, by omega, by go_num, fun j hj => by
          by_cases e : j = k
          · subst e; rw [Ey.out]; exact Hxy.out
          · exact Heq.out j (by omega)⟩
        case measure => simp [intOf]; omega
    · have Fin : Hid (hasB xs x = false) := Lib.hid (decide_eq_false fun ⟨j, hj, e⟩ => Heq.out j (by rw [lx.out] at hj; omega) e)
      go_wp2
      go_ret
      exact ⟨ret_bool (by rw [← Fin.out, ← hans.out]), rfl⟩

theorem take_getD {xs : List Int} {k j : Nat} (h : j < k) : (xs.take k).getD j 0 = xs.getD j 0 := by
  rw [List.getD_eq_getElem?_getD, List.getElem?_take, if_pos h, ← List.getD_eq_getElem?_getD]
theorem RI.take {w : World} {B b off n : Nat} {xs : List Int} (h : RI w B (some ⟨b, off, none⟩) xs) (hn : xs.length = n) (k : Nat) (hk : k ≤ n) : RI w B (some ⟨b, off, none⟩) (xs.take k) := fun hp => by
  rw [List.length_take] at hp
  obtain ⟨b', off', e, hb, hc⟩ := h (by omega)
  refine ⟨b', off', e, hb, fun j hj => ?_⟩
  rw [List.length_take] at hj
  rw [take_getD (by omega)]
  exact hc j (by omega)

set_option maxHeartbeats 400000 in
theorem specIsP_core (A : Option Addr) (c n : Nat) (xs : List Int) (w : World) (hx : RI w w.heap.size A xs) (lx : Hid (xs.length = n)) (hn1 : 1 ≤ n) (hn : n ≤ 20) (hnc : n ≤ c) :
    Calls Try.prog 24 #[.slice A n c] w fun e w' => e = .returned (.bool (isP xs)) ∧ ∃ m, w' = w.drewN m := by
  go_enter Try.func24, Try.ntmps24
  go_wp2_with (go_at_call 57; refine (inR_true _ _ _ _ (by omega) (by omega)).mono ?_; rintro e w' ⟨rfl, rfl⟩)
  go_loopw [4] (fun i wr => ∃ k : Nat, k ≤ n ∧ i = .int .i64 (k : Nat) ∧ okTo xs k ∧ ∃ m, wr = w.drewN m) (fun i _ => n - (intOf i).toNat)
  case atStart => exact ⟨0, Nat.zero_le _, rfl, okTo_zero _, 0, rfl⟩
  case round =>
    obtain ⟨k, hk, rfl, ok, m, rfl⟩ := hrel
    have Ok := Lib.hid ok
    clear ok
    by_cases hlt : k < n
    · have hx1 := hx
      obtain ⟨b, off, rfl, hb, hc⟩ := hx (by rw [lx.out]; omega)
      have hx0 : RI w w.heap.size (some ⟨b, off, none⟩) xs := hx1
      clear hx1 hx
      have c1 := hc k (by rw [lx.out]; omega)
      obtain ⟨x, ex⟩ : ∃ x, xs.getD k 0 = x := ⟨_, rfl⟩
      rw [ex] at c1
      have Ex := Lib.hid ex
      clear ex hc
      have p1 : (0 : Int) ≤ k := by omega
      have p2 : (k : Int) < n := by omega
      by_cases h1 : x < 0 ∨ (n : Int) - 1 < x
      · have Fin : Hid (isP xs = false) := Lib.hid (isP_no_range (by rw [lx.out]; exact hlt) (by rw [Ex.out, lx.out]; omega))
        have H1 := Lib.hid h1
        clear h1
        go_wp2
        go_quiet ((go_at_call 57; exact quiet_add_left (inR_false _ _ _ _ H1.out)))
        go_wp2
        go_ret
        exact ⟨ret_bool Fin.out.symm, _, World.drewN_drewN _ _ _⟩
      · have q0 : 0 ≤ x := by omega
        have q1 : x ≤ (n : Int) - 1 := by omega
        have ht := hx0.take lx.out k (by omega)
        have lt : Hid ((xs.take k).length = k) := Lib.hid (by rw [List.length_take, lx.out]; omega)
        by_cases hs : hasB (xs.take k) x = true
        · have Hs := Lib.hid hs
          have Fin : Hid (isP xs = false) := by
            obtain ⟨j, hj, e⟩ := of_decide_eq_true hs
            rw [lt.out] at hj
            exact Lib.hid (isP_no_twice (by rw [lx.out]; exact hlt) hj (by rw [← take_getD hj, e, Ex.out]))
          have HT := Lib.hid ht
          clear hs h1 ht
          go_wp2
          go_quiet ((first | (go_at_call 57; exact quiet_add_left (inR_true _ _ _ _ (by omega) (by omega))) | (go_at_call 58; exact quiet_add_left (containsI_any _ _ _ _ _ _ _ (HT.out.drewN _) lt (by omega) true Hs))))
          go_wp2
          go_ret
          exact ⟨ret_bool Fin.out.symm, _, World.drewN_drewN _ _ _⟩
        · have Hs := Lib.hid ((Bool.not_eq_true _).mp hs)
          have HT := Lib.hid ht
          have NT : Hid (∀ i, i < k → xs.getD i 0 ≠ xs.getD k 0) := Lib.hid fun i hi e => hs (decide_eq_true ⟨i, by rw [lt.out]; exact hi, by rw [take_getD hi, e, Ex.out]⟩)
          clear hs h1 ht
          go_wp2
          go_quiet ((first | (go_at_call 57; exact quiet_add_left (inR_true _ _ _ _ (by omega) (by omega))) | (go_at_call 58; exact quiet_add_left (containsI_any _ _ _ _ _ _ _ (HT.out.drewN _) lt (by omega) false Hs))))
          go_wp2
          go_roundw
          case rel => exact ⟨k + 1, by omega, by go_num, okTo_succ Ok.out (by rw [Ex.out]; omega) (by rw [Ex.out, lx.out]; omega) NT.out, _, rfl⟩
          case measure => simp [intOf]; omega
    · have hkn : k = n := by omega
      subst hkn
      have Fin : Hid (isP xs = true) := Lib.hid (isP_of_ok (by rw [lx.out]; exact hn1) (by rw [lx.out]; exact hn) (by rw [lx.out]; exact Ok.out))
      go_wp2
      go_ret
      exact ⟨ret_bool Fin.out.symm, _, rfl⟩

/-- The model's IsPermutation. -/
theorem specIsP (A : Option Addr) (c n : Nat) (xs : List Int) (w : World) (hx : RI w w.heap.size A xs) (lx : Hid (xs.length = n)) (hn : n ≤ 2097152) (hnc : n ≤ c) :
    Calls Try.prog 24 #[.slice A n c] w fun e w' => e = .returned (.bool (isP xs)) ∧ ∃ m, w' = w.drewN m := by
  by_cases h1 : n < 1 ∨ 20 < n
  · have Fin : Hid (isP xs = false) := Lib.hid (isP_no_len (by rw [lx.out]; exact h1))
    have H1 := Lib.hid h1
    clear h1
    go_enter Try.func24, Try.ntmps24
    go_wp2_with (go_at_call 57; refine (inR_false _ _ _ _ (by have := H1.out; omega)).mono ?_; rintro e w' ⟨rfl, rfl⟩)
    go_ret
    exact ⟨ret_bool Fin.out.symm, 0, rfl⟩
  · exact specIsP_core A c n xs w hx lx (by omega) (by omega) hnc
end Go.Proofs.Ytcjcmhoalomjfab

/- Identity, of the program and of the model. No condition. -/
namespace Go.Proofs.Ytcjcmhoalomjfab
open Go.RowKit

theorem idL_length (n : Nat) : (idL n).length = n := by simp [idL]
theorem idL_getD {n j : Nat} (h : j < n) : (idL n).getD j 0 = (j : Int) := by
  rw [List.getD_eq_getElem?_getD, List.getElem?_eq_getElem (by simp [idL, h])]; simp [idL]
theorem idL_succ (n : Nat) : idL (n + 1) = idL n ++ [(n : Int)] := by simp [idL, List.range_succ]

/-- What Identity answers. -/
def identL (n : Int) : List Int := if 1 ≤ n ∧ n ≤ 20 then idL n.toNat else []

set_option maxHeartbeats 400000 in
theorem implId_core (n : Nat) (w : World) (h1 : 1 ≤ n) (h2 : n ≤ 20) :
    Calls Try.prog 79 #[.int .i64 n] w fun e w' => ∃ A' c', e = .returned (.slice A' n c') ∧ Slc w' w.heap.size A' n c' (idL n) ∧ Below w.heap.size w w' := by
  obtain ⟨i0, hi, hz0, hz1, hz2⟩ := info_parts infoI
  have d1 : decide ((n : Int) < 1) = false := by simp; omega
  have d2 : decide ((20 : Int) < n) = false := by simp; omega
  go_enter Try.func79, Try.ntmps79
  go_wp2_with (first | (at_make; refine wpList_make_full _ rfl _ _ 22 rfl w.heap.size 2 i0 (.int .i64 0) 1 Try.underlying22 hi hz0 hz1 .i64 .i64 _ _ n rfl rfl rfl rfl (by rw [hz2]; omega) (by unfold maxLen; omega) (Nat.le_refl _) ?_; intro w1 hown1 hgrow1))
  have row1 := Row.made hown1
  have bel1 : Below w.heap.size w w1 := (Below.refl _ _).grown hgrow1 (Nat.le_refl _) (fun k e => nomatch e)
  clear hown1 hgrow1 d1 d2
  go_loopw [4, 15] (fun _ i wr => ∃ k ys, k ≤ n ∧ i = .int .i64 (k : Nat) ∧ Row wr w.heap.size w.heap.size n n ys ∧ (∀ j, j < k → ys.getD j 0 = (j : Int)) ∧ Below w.heap.size w wr) (fun _ i _ => n - (intOf i).toNat)
  case atStart => exact ⟨0, _, Nat.zero_le _, rfl, row1, fun j h => absurd h (by omega), bel1⟩
  case round =>
    clear row1 bel1
    obtain ⟨k, ys, hk, rfl, row, heq, bel⟩ := hrel
    have Heq := Lib.hid heq
    clear heq
    by_cases hlt : k < n
    · have c2 := row.cell hlt
      have f2 := row.free k
      have Row2 := Lib.hid (row.store k (k : Int))
      have Bel2 := Lib.hid (bel.setCell (p := ⟨w.heap.size, k, none⟩) (Nat.le_refl _) (.int .i64 (k : Int)))
      have hyl : Hid (ys.length = n) := Lib.hid row.1
      clear row bel
      go_wp2
      go_roundw
      case rel =>
        refine ⟨k + 1, _, by omega, by go_num, Row2.out, fun j hj => ?_, Bel2.out⟩
        rw [set_getD hyl.out (by omega)]
        by_cases e : k = j
        · subst e; rw [if_pos rfl]
        · rw [if_neg e]; exact Heq.out j (by omega)
      case measure => simp [intOf]; omega
    · have hkn : k = n := by omega
      subst hkn
      have Em : Hid (ys = idL k) := Lib.hid (ext_getD row.1 (idL_length k) fun j hj => by rw [Heq.out j hj, idL_getD hj])
      have Ro := Lib.hid row
      have Be := Lib.hid bel
      clear row bel
      go_wp2
      go_ret
      exact ⟨_, _, rfl, by rw [← Em.out]; exact Ro.out.slc, Be.out⟩

/-- The program's Identity. -/
theorem implId (n : Int) (w : World) :
    Calls Try.prog 79 #[.int .i64 n] w fun e w' => ∃ A' n' c', e = .returned (.slice A' n' c') ∧ Slc w' w.heap.size A' n' c' (identL n) ∧ n' ≤ 20 ∧ Below w.heap.size w w' := by
  by_cases h1 : n < 1
  · have Fin : Hid (identL n = []) := Lib.hid (if_neg (by omega))
    have d1 : decide ((n : Int) < 1) = true := by simp; omega
    go_enter Try.func79, Try.ntmps79
    go_wp2
    go_ret
    exact ⟨_, _, _, rfl, by rw [Fin.out]; exact Slc.nil_, Nat.zero_le _, Below.refl _ _⟩
  · by_cases h2 : 20 < n
    · have Fin : Hid (identL n = []) := Lib.hid (if_neg (by omega))
      have d1 : decide ((n : Int) < 1) = false := by simp; omega
      have d2 : decide ((20 : Int) < n) = true := by simp; omega
      go_enter Try.func79, Try.ntmps79
      go_wp2
      go_ret
      exact ⟨_, _, _, rfl, by rw [Fin.out]; exact Slc.nil_, Nat.zero_le _, Below.refl _ _⟩
    · obtain ⟨m, rfl⟩ := Int.eq_ofNat_of_zero_le (show 0 ≤ n by omega)
      refine (implId_core m w (by omega) (by omega)).mono fun e w' ⟨A', c', he, hs, hb⟩ => ⟨A', m, c', he, ?_, by omega, hb⟩
      rw [show identL (m : Int) = idL m from by unfold identL; rw [if_pos (by omega)]; rfl]
      exact hs

set_option maxHeartbeats 400000 in
theorem specIdent (n : Nat) (w : World) (h2 : n ≤ 1000000) :
    Calls Try.prog 66 #[.int .i64 n] w fun e w' => ∃ A' c', e = .returned (.slice A' n c') ∧ Slc w' w.heap.size A' n c' (idL n) ∧ Below w.heap.size w w' := by
  go_enter Try.func66, Try.ntmps66
  go_wp2
  go_loopw [3, 4] (fun v i wr => ∃ k A c, k ≤ n ∧ i = .int .i64 (k : Nat) ∧ v = .slice A k c ∧ Slc wr w.heap.size A k c (idL k) ∧ Below w.heap.size w wr) (fun _ i _ => n - (intOf i).toNat)
  case atStart => exact ⟨0, _, _, Nat.zero_le _, rfl, rfl, Slc.lit0 w _ (Nat.le_refl _), (Below.refl _ _).alloc (Nat.le_refl _) _⟩
  case round =>
    obtain ⟨k, A, c, hk, rfl, rfl, own, bel⟩ := hrel
    have Own' := Lib.hid own
    have Bel := Lib.hid bel
    clear own bel
    by_cases hlt : k < n
    · go_wp2_with (first | (at_builtin; refine wpList_app1 rfl _ _ rfl w.heap.size A k c (idL k) rfl (Own'.out.alloc _) wr.heap.size k rfl (by rw [World.cell?_alloc_at _ _ _ _ rfl]; rfl) (by omega) (by have := Bel.out.size; simp; omega) ?_; intro A' c' w1 own1 hg1))
      have Own1 := Lib.hid own1
      have Bel1 : Hid (Below w.heap.size w w1) := Lib.hid ((Bel.out.alloc Bel.out.size _).grown hg1 (by have := Bel.out.size; simp; omega) (fun j hj => (Own'.out.lt_ j hj).1))
      clear own1 hg1
      go_wp2
      go_roundw
      case rel => exact ⟨k + 1, A', c', by omega, by go_num, rfl, by rw [idL_succ]; exact Own1.out, Bel1.out⟩
      case measure => simp [intOf]; omega
    · have hkn : k = n := by omega
      subst hkn
      go_wp2
      go_ret
      exact ⟨_, _, rfl, Own'.out, Bel.out⟩

end Go.Proofs.Ytcjcmhoalomjfab

/- Compose and Inverse, of the program and of the model. Condition: at most 2097152 entries. -/
namespace Go.Proofs.Ytcjcmhoalomjfab
open Go.RowKit

def sameD (p q : List Int) : Bool := decide (p.length = q.length) && isP p && isP q
theorem sameD_iff {p q : List Int} : sameD p q = true ↔ p.length = q.length ∧ IsP p ∧ IsP q := by
  unfold sameD
  rw [Bool.and_eq_true, Bool.and_eq_true, decide_eq_true_eq, isP_iff, isP_iff]
  exact ⟨fun ⟨⟨a, b⟩, c⟩ => ⟨a, b, c⟩, fun ⟨a, b, c⟩ => ⟨⟨a, b⟩, c⟩⟩

set_option maxHeartbeats 400000 in
/-- areOfEqualDegree. -/
theorem implEq (A B : Option Addr) (c d n m : Nat) (p q : List Int) (w : World) (hp : RI w w.heap.size A p) (hq : RI w w.heap.size B q) (lp : Hid (p.length = n)) (lq : Hid (q.length = m)) (hn : n ≤ 2097152) (hm : m ≤ 2097152) :
    Calls Try.prog 39 #[.slice A n c, .slice B m d] w fun e w' => e = .returned (.bool (sameD p q)) ∧ Below w.heap.size w w' := by
  by_cases hl : n = m
  · have Hl := Lib.hid hl
    have hd : ((n : Int) == (m : Int)) = true := by rw [beq_iff_eq]; omega
    clear hl
    rcases h1 : isP p with _ | _
    · have Fin : Hid (sameD p q = false) := Lib.hid (by unfold sameD; rw [h1]; simp)
      go_enter Try.func39, Try.ntmps39
      go_wp2_with fail
      refine (implIsP A c n p w hp lp (by omega)).mono ?_
      rintro e w1 ⟨rfl, b1⟩
      have B1 := Lib.hid b1
      clear b1
      go_wp2_with fail
      go_ret
      exact ⟨ret_bool Fin.out.symm, B1.out⟩
    · have Fin : Hid (sameD p q = isP q) := Lib.hid (by unfold sameD; rw [h1, lp.out, lq.out, Hl.out]; simp)
      go_enter Try.func39, Try.ntmps39
      go_wp2_with fail
      refine (implIsP A c n p w hp lp (by omega)).mono ?_
      rintro e w1 ⟨rfl, b1⟩
      have B1 := Lib.hid b1
      clear b1
      go_wp2_with fail
      refine (implIsP B d m q w1 (hq.up B1.out) lq (by omega)).mono ?_
      rintro e w2 ⟨rfl, b2⟩
      have B2 : Hid (Below w.heap.size w w2) := Lib.hid (btr B1.out b2)
      clear b2
      go_wp2_with fail
      go_ret
      exact ⟨ret_bool Fin.out.symm, B2.out⟩
  · have Fin : Hid (sameD p q = false) := Lib.hid (by unfold sameD; rw [decide_eq_false (by rw [lp.out, lq.out]; exact hl)]; rfl)
    have hd : ((n : Int) == (m : Int)) = false := by rw [beq_eq_false_iff_ne]; omega
    clear hl
    go_enter Try.func39, Try.ntmps39
    go_wp2
    go_ret
    exact ⟨ret_bool Fin.out.symm, Below.refl _ _⟩

set_option maxHeartbeats 400000 in
/-- samePermutationDegree. -/
theorem specSame (A B : Option Addr) (c d n m : Nat) (p q : List Int) (w : World) (hp : RI w w.heap.size A p) (hq : RI w w.heap.size B q) (lp : Hid (p.length = n)) (lq : Hid (q.length = m)) (hn : n ≤ 2097152) (hm : m ≤ 2097152) (hc : n ≤ c) (hd0 : m ≤ d) :
    Calls Try.prog 36 #[.slice A n c, .slice B m d] w fun e w' => e = .returned (.bool (sameD p q)) ∧ Below w.heap.size w w' := by
  rcases h1 : isP p with _ | _
  · have Fin : Hid (sameD p q = false) := Lib.hid (by unfold sameD; rw [h1]; simp)
    go_enter Try.func36, Try.ntmps36
    go_wp2_with fail
    refine (quiet_below (specIsP A c n p w hp lp (by omega) hc)).mono ?_
    rintro e w1 ⟨rfl, b1⟩
    have B1 := Lib.hid b1
    clear b1
    go_wp2_with fail
    go_ret
    exact ⟨ret_bool Fin.out.symm, B1.out⟩
  · rcases h2 : isP q with _ | _
    · have Fin : Hid (sameD p q = false) := Lib.hid (by unfold sameD; rw [h2]; simp)
      go_enter Try.func36, Try.ntmps36
      go_wp2_with fail
      refine (quiet_below (specIsP A c n p w hp lp (by omega) hc)).mono ?_
      rintro e w1 ⟨rfl, b1⟩
      have B1 := Lib.hid b1
      clear b1
      go_wp2_with fail
      refine (quiet_below (specIsP B d m q w1 (hq.up B1.out) lq (by omega) hd0)).mono ?_
      rintro e w2 ⟨rfl, b2⟩
      have B2 : Hid (Below w.heap.size w w2) := Lib.hid (btr B1.out b2)
      clear b2
      go_wp2_with fail
      go_ret
      exact ⟨ret_bool Fin.out.symm, B2.out⟩
    · have Fin : Hid (sameD p q = ((n : Int) == (m : Int))) := Lib.hid (by
        unfold sameD; rw [h1, h2, lp.out, lq.out, Bool.and_true, Bool.and_true, Bool.eq_iff_iff, beq_iff_eq, decide_eq_true_eq]; omega)
      go_enter Try.func36, Try.ntmps36
      go_wp2_with fail
      refine (quiet_below (specIsP A c n p w hp lp (by omega) hc)).mono ?_
      rintro e w1 ⟨rfl, b1⟩
      have B1 := Lib.hid b1
      clear b1
      go_wp2_with fail
      refine (quiet_below (specIsP B d m q w1 (hq.up B1.out) lq (by omega) hd0)).mono ?_
      rintro e w2 ⟨rfl, b2⟩
      have B2 : Hid (Below w.heap.size w w2) := Lib.hid (btr B1.out b2)
      clear b2
      go_wp2_with fail
      go_ret
      exact ⟨ret_bool Fin.out.symm, B2.out⟩

theorem compL_length (p q : List Int) : (compL p q).length = p.length := by simp [compL]
theorem compL_getD {p q : List Int} {k : Nat} (hk : k < p.length) : (compL p q).getD k 0 = q.getD (nx p k) 0 := by
  unfold compL nx
  rw [List.getD_eq_getElem?_getD, List.getElem?_map, List.getElem?_eq_getElem hk, List.getD_eq_getElem?_getD (l := p), List.getElem?_eq_getElem hk]
  rfl

set_option maxHeartbeats 400000 in
/-- permutation.then. -/
theorem implThen (A B : Option Addr) (c d n : Nat) (p q : List Int) (w : World) (hp : RI w w.heap.size A p) (hq : RI w w.heap.size B q) (lp : Hid (p.length = n)) (lq : Hid (q.length = n)) (ip : Hid (IsP p)) (hn : n ≤ 20) :
    Calls Try.prog 74 #[.slice A n c, .slice B n d] w fun e w' => ∃ A' c', e = .returned (.slice A' n c') ∧ Slc w' w.heap.size A' n c' (compL p q) ∧ Below w.heap.size w w' := by
  obtain ⟨i0, hi, hz0, hz1, hz2⟩ := info_parts infoI
  go_enter Try.func74, Try.ntmps74
  go_wp2_with (first | (at_make; refine wpList_make_full _ rfl _ _ 47 rfl w.heap.size 2 i0 (.int .i64 0) 1 Try.underlying47 hi hz0 hz1 .i64 .i64 _ _ n rfl rfl rfl rfl (by rw [hz2]; omega) (by unfold maxLen; omega) (Nat.le_refl _) ?_; intro w1 hown1 hgrow1))
  have row1 := Row.made hown1
  have bel1 : Below w.heap.size w w1 := (Below.refl _ _).grown hgrow1 (Nat.le_refl _) (fun k e => nomatch e)
  clear hown1 hgrow1
  go_loopw [6, 7, 13] (fun _ _ i wr => ∃ k ys, k ≤ n ∧ i = .int .i64 (k : Nat) ∧ Row wr w.heap.size w.heap.size n n ys ∧ (∀ j, j < k → ys.getD j 0 = q.getD (nx p j) 0) ∧ Below w.heap.size w wr) (fun _ _ i _ => n - (intOf i).toNat)
  case atStart => exact ⟨0, _, Nat.zero_le _, rfl, row1, fun j h => absurd h (by omega), bel1⟩
  case round =>
    clear row1 bel1
    obtain ⟨k, ys, hk, rfl, row, heq, bel⟩ := hrel
    have Heq := Lib.hid heq
    clear heq
    by_cases hlt : k < n
    · obtain ⟨b, off, rfl, hb, hc⟩ := hp (by rw [lp.out]; omega)
      obtain ⟨b', off', rfl, hb', hc'⟩ := hq (by rw [lq.out]; omega)
      obtain ⟨y, ey⟩ : ∃ y, nx p k = y := ⟨_, rfl⟩
      have hy : y < n := by rw [← ey, ← lp.out]; exact nx_lt ip.out (by rw [lp.out]; exact hlt)
      have c1 := (bel.cell (p := ⟨b, off + k, none⟩) hb).trans (hc k (by rw [lp.out]; omega))
      rw [nx_val ip.out (by rw [lp.out]; exact hlt), ey] at c1
      have c2 := (bel.cell (p := ⟨b', off' + y, none⟩) hb').trans (hc' y (by rw [lq.out]; omega))
      obtain ⟨x, ex⟩ : ∃ x, q.getD y 0 = x := ⟨_, rfl⟩
      rw [ex] at c2
      have c3 := row.cell hlt
      have f3 := row.free k
      have Ex := Lib.hid ex
      have Ey := Lib.hid ey
      clear ex ey hc hc' hp hq
      have Row2 := Lib.hid (row.store k x)
      have Bel2 := Lib.hid (bel.setCell (p := ⟨w.heap.size, k, none⟩) (Nat.le_refl _) (.int .i64 x))
      have hyl : Hid (ys.length = n) := Lib.hid row.1
      clear row bel
      go_wp2
      go_roundw
      case rel =>
        refine ⟨k + 1, _, by omega, by go_num, Row2.out, fun j hj => ?_, Bel2.out⟩
        rw [set_getD hyl.out (by omega)]
        by_cases e : k = j
        · subst e; rw [if_pos rfl, Ey.out, Ex.out]
        · rw [if_neg e]; exact Heq.out j (by omega)
      case measure => simp [intOf]; omega
    · have hkn : k = n := by omega
      subst hkn
      have Em : Hid (ys = compL p q) := Lib.hid (ext_getD row.1 ((compL_length p q).trans lp.out) fun j hj => by rw [Heq.out j hj, compL_getD (by rw [lp.out]; exact hj)])
      have Ro := Lib.hid row
      have Be := Lib.hid bel
      clear row bel
      go_wp2
      go_ret
      exact ⟨_, _, rfl, by rw [← Em.out]; exact Ro.out.slc, Be.out⟩

def composeL (p q : List Int) : List Int := if sameD p q = true then compL p q else []

theorem compL_snoc {p q : List Int} {k : Nat} (hk : k < p.length) : compL (p.take (k + 1)) q = compL (p.take k) q ++ [q.getD (nx p k) 0] := by
  unfold compL nx
  rw [List.take_succ_eq_append_getElem hk, List.map_append, List.getD_eq_getElem?_getD (l := p), List.getElem?_eq_getElem hk]
  rfl

set_option maxHeartbeats 400000 in
theorem specComp (A B : Option Addr) (c d n : Nat) (p q : List Int) (w : World) (hp : RI w w.heap.size A p) (hq : RI w w.heap.size B q) (lp : Hid (p.length = n)) (lq : Hid (q.length = n)) (ip : Hid (IsP p)) (hn : n ≤ 20) :
    Calls Try.prog 37 #[.slice A n c, .slice B n d] w fun e w' => ∃ A' c', e = .returned (.slice A' n c') ∧ Slc w' w.heap.size A' n c' (compL p q) ∧ Below w.heap.size w w' := by
  go_enter Try.func37, Try.ntmps37
  go_wp2
  go_loopw [5, 6] (fun v i wr => ∃ k A c, k ≤ n ∧ i = .int .i64 (k : Nat) ∧ v = .slice A k c ∧ Slc wr w.heap.size A k c (compL (p.take k) q) ∧ Below w.heap.size w wr) (fun _ i _ => n - (intOf i).toNat)
  case atStart => exact ⟨0, _, _, Nat.zero_le _, rfl, rfl, Slc.lit0 w _ (Nat.le_refl _), (Below.refl _ _).alloc (Nat.le_refl _) _⟩
  case round =>
    obtain ⟨k, A', c', hk, rfl, rfl, own, bel⟩ := hrel
    have Own' := Lib.hid own
    clear own
    by_cases hlt : k < n
    · obtain ⟨b, off, rfl, hb, hc⟩ := hp (by rw [lp.out]; omega)
      obtain ⟨b', off', rfl, hb', hc'⟩ := hq (by rw [lq.out]; omega)
      obtain ⟨y, ey⟩ : ∃ y, nx p k = y := ⟨_, rfl⟩
      have hy : y < n := by rw [← ey, ← lp.out]; exact nx_lt ip.out (by rw [lp.out]; exact hlt)
      have c1 := (bel.cell (p := ⟨b, off + k, none⟩) hb).trans (hc k (by rw [lp.out]; omega))
      rw [nx_val ip.out (by rw [lp.out]; exact hlt), ey] at c1
      have c2 := (bel.cell (p := ⟨b', off' + y, none⟩) hb').trans (hc' y (by rw [lq.out]; omega))
      obtain ⟨x, ex⟩ : ∃ x, q.getD y 0 = x := ⟨_, rfl⟩
      rw [ex] at c2
      have Ex := Lib.hid ex
      have Ey := Lib.hid ey
      have Bel := Lib.hid bel
      clear ex ey hc hc' hp hq bel
      go_wp2_with (first | (at_builtin; refine wpList_app1 rfl _ _ rfl w.heap.size A' k c' _ rfl (Own'.out.alloc _) wr.heap.size x rfl (by rw [World.cell?_alloc_at _ _ _ _ rfl]; rfl) (by omega) (by have := Bel.out.size; simp; omega) ?_; intro A1 c1' w1 own1 hg1))
      have Own1 := Lib.hid own1
      have Bel1 : Hid (Below w.heap.size w w1) := Lib.hid ((Bel.out.alloc Bel.out.size _).grown hg1 (by have := Bel.out.size; simp; omega) (fun j hj => (Own'.out.lt_ j hj).1))
      clear own1 hg1
      go_wp2
      go_roundw
      case rel => exact ⟨k + 1, A1, c1', by omega, by go_num, rfl, by rw [compL_snoc (by rw [lp.out]; exact hlt), Ey.out, Ex.out]; exact Own1.out, Bel1.out⟩
      case measure => simp [intOf]; omega
    · have hkn : k = n := by omega
      subst hkn
      have Bel := Lib.hid bel
      have Em : Hid (p.take k = p) := Lib.hid (List.take_of_length_le (by rw [lp.out]; exact Nat.le_refl _))
      clear bel
      go_wp2
      go_ret
      exact ⟨_, _, rfl, by have := Own'.out; rw [Em.out] at this; exact this, Bel.out⟩

end Go.Proofs.Ytcjcmhoalomjfab

/- Inverse and Support, of the program and of the model. Condition: at most 2097152 entries. -/
namespace Go.Proofs.Ytcjcmhoalomjfab
open Go.RowKit

theorem invL_length (p : List Int) (k : Nat) : (invL p k).length = p.length := by
  induction k with
  | zero => simp [invL]
  | succ k ih => simp [invL, ih]
def inverseL (p : List Int) : List Int := if isP p = true then invL p p.length else []

set_option maxHeartbeats 400000 in
/-- permutation.inverse. -/
theorem implInv (A : Option Addr) (c n : Nat) (p : List Int) (w : World) (hp : RI w w.heap.size A p) (lp : Hid (p.length = n)) (ip : Hid (IsP p)) (hn : n ≤ 20) :
    Calls Try.prog 73 #[.slice A n c] w fun e w' => ∃ A' c', e = .returned (.slice A' n c') ∧ Slc w' w.heap.size A' n c' (invL p n) ∧ Below w.heap.size w w' := by
  obtain ⟨i0, hi, hz0, hz1, hz2⟩ := info_parts infoI
  go_enter Try.func73, Try.ntmps73
  go_wp2_with (first | (at_make; refine wpList_make_full _ rfl _ _ 47 rfl w.heap.size 2 i0 (.int .i64 0) 1 Try.underlying47 hi hz0 hz1 .i64 .i64 _ _ n rfl rfl rfl rfl (by rw [hz2]; omega) (by unfold maxLen; omega) (Nat.le_refl _) ?_; intro w1 hown1 hgrow1))
  have row1 := Row.made hown1
  have bel1 : Below w.heap.size w w1 := (Below.refl _ _).grown hgrow1 (Nat.le_refl _) (fun k e => nomatch e)
  clear hown1 hgrow1
  go_loopw [4, 5, 11] (fun _ _ i wr => ∃ k : Nat, k ≤ n ∧ i = .int .i64 (k : Nat) ∧ Row wr w.heap.size w.heap.size n n (invL p k) ∧ Below w.heap.size w wr) (fun _ _ i _ => n - (intOf i).toNat)
  case atStart => exact ⟨0, Nat.zero_le _, rfl, by unfold invL; rw [lp.out]; exact row1, bel1⟩
  case round =>
    clear row1 bel1
    obtain ⟨k, hk, rfl, row, bel⟩ := hrel
    by_cases hlt : k < n
    · obtain ⟨b, off, rfl, hb, hc⟩ := hp (by rw [lp.out]; omega)
      obtain ⟨y, ey⟩ : ∃ y, nx p k = y := ⟨_, rfl⟩
      have hy : y < n := by rw [← ey, ← lp.out]; exact nx_lt ip.out (by rw [lp.out]; exact hlt)
      have c1 := (bel.cell (p := ⟨b, off + k, none⟩) hb).trans (hc k (by rw [lp.out]; omega))
      rw [nx_val ip.out (by rw [lp.out]; exact hlt), ey] at c1
      have c3 := row.cell hy
      have f3 := row.free y
      have Ey := Lib.hid ey
      clear ey hc hp
      have Row2 := Lib.hid (row.store y (k : Int))
      have Bel2 := Lib.hid (bel.setCell (p := ⟨w.heap.size, y, none⟩) (Nat.le_refl _) (.int .i64 (k : Int)))
      obtain ⟨z, hz⟩ : ∃ z, (invL p k).getD y 0 = z := ⟨_, rfl⟩
      rw [hz] at c3
      clear row bel hz
      go_wp2
      go_roundw
      case rel => exact ⟨k + 1, by omega, by go_num, by rw [show invL p (k + 1) = (invL p k).set y (k : Int) from by rw [← Ey.out]; rfl]; exact Row2.out, Bel2.out⟩
      case measure => simp [intOf]; omega
    · have hkn : k = n := by omega
      subst hkn
      have Ro := Lib.hid row
      have Be := Lib.hid bel
      clear row bel
      go_wp2
      go_ret
      exact ⟨_, _, rfl, Ro.out.slc, Be.out⟩

set_option maxHeartbeats 400000 in
theorem specInv (A : Option Addr) (c n : Nat) (p : List Int) (w : World) (hp : RI w w.heap.size A p) (lp : Hid (p.length = n)) (ip : Hid (IsP p)) (hn : n ≤ 20) :
    Calls Try.prog 38 #[.slice A n c] w fun e w' => ∃ A' c', e = .returned (.slice A' n c') ∧ Slc w' w.heap.size A' n c' (invL p n) ∧ Below w.heap.size w w' := by
  obtain ⟨i0, hi, hz0, hz1, hz2⟩ := info_parts infoI
  go_enter Try.func38, Try.ntmps38
  go_wp2_with (first | (at_make; refine wpList_make_full _ rfl _ _ 22 rfl w.heap.size 2 i0 (.int .i64 0) 1 Try.underlying22 hi hz0 hz1 .i64 .i64 _ _ n rfl rfl rfl rfl (by rw [hz2]; omega) (by unfold maxLen; omega) (Nat.le_refl _) ?_; intro w1 hown1 hgrow1))
  have row1 := Row.made hown1
  have bel1 : Below w.heap.size w w1 := (Below.refl _ _).grown hgrow1 (Nat.le_refl _) (fun k e => nomatch e)
  clear hown1 hgrow1
  go_loopw [4] (fun i wr => ∃ k : Nat, k ≤ n ∧ i = .int .i64 (k : Nat) ∧ Row wr w.heap.size w.heap.size n n (invL p k) ∧ Below w.heap.size w wr) (fun i _ => n - (intOf i).toNat)
  case atStart => exact ⟨0, Nat.zero_le _, rfl, by unfold invL; rw [lp.out]; exact row1, bel1⟩
  case round =>
    clear row1 bel1
    obtain ⟨k, hk, rfl, row, bel⟩ := hrel
    by_cases hlt : k < n
    · obtain ⟨b, off, rfl, hb, hc⟩ := hp (by rw [lp.out]; omega)
      obtain ⟨y, ey⟩ : ∃ y, nx p k = y := ⟨_, rfl⟩
      have hy : y < n := by rw [← ey, ← lp.out]; exact nx_lt ip.out (by rw [lp.out]; exact hlt)
      have c1 := (bel.cell (p := ⟨b, off + k, none⟩) hb).trans (hc k (by rw [lp.out]; omega))
      rw [nx_val ip.out (by rw [lp.out]; exact hlt), ey] at c1
      have c3 := row.cell hy
      have f3 := row.free y
      have Ey := Lib.hid ey
      clear ey hc hp
      have Row2 := Lib.hid (row.store y (k : Int))
      have Bel2 := Lib.hid (bel.setCell (p := ⟨w.heap.size, y, none⟩) (Nat.le_refl _) (.int .i64 (k : Int)))
      obtain ⟨z, hz⟩ : ∃ z, (invL p k).getD y 0 = z := ⟨_, rfl⟩
      rw [hz] at c3
      clear row bel hz
      go_wp2
      go_roundw
      case rel => exact ⟨k + 1, by omega, by go_num, by rw [show invL p (k + 1) = (invL p k).set y (k : Int) from by rw [← Ey.out]; rfl]; exact Row2.out, Bel2.out⟩
      case measure => simp [intOf]; omega
    · have hkn : k = n := by omega
      subst hkn
      have Ro := Lib.hid row
      have Be := Lib.hid bel
      clear row bel
      go_wp2
      go_ret
      exact ⟨_, _, rfl, Ro.out.slc, Be.out⟩

end Go.Proofs.Ytcjcmhoalomjfab

/- Plain facts: composition is associative, an inverse undoes. No Go in it. No condition. -/
namespace Go.Proofs.Ytcjcmhoalomjfab
open Go.RowKit

theorem nx_comp {p q : List Int} {k : Nat} (hk : k < p.length) : nx (compL p q) k = nx q (nx p k) := by
  unfold nx; rw [compL_getD hk]; rfl
theorem isP_comp {p q : List Int} (hp : IsP p) (hq : IsP q) (hl : p.length = q.length) : IsP (compL p q) := by
  have hlen := compL_length p q
  refine ⟨by rw [hlen]; exact hp.pos, by rw [hlen]; exact hp.le, fun i hi => ?_, fun i hi => ?_, fun i j hi hj e => ?_⟩
  · rw [hlen] at hi; rw [compL_getD hi]; exact hq.lo _ (by rw [← hl]; exact nx_lt hp hi)
  · rw [hlen] at hi ⊢; rw [compL_getD hi, hl]; exact hq.hi _ (by rw [← hl]; exact nx_lt hp hi)
  · rw [hlen] at hi hj
    rw [compL_getD hi, compL_getD hj] at e
    exact nx_inj hp hi hj (hq.inj _ _ (by rw [← hl]; exact nx_lt hp hi) (by rw [← hl]; exact nx_lt hp hj) e)
theorem comp_assoc {p q r : List Int} (hp : IsP p) (hl : p.length = q.length) : compL (compL p q) r = compL p (compL q r) := by
  refine ext_getD (n := p.length) ((compL_length _ _).trans (compL_length _ _)) (compL_length _ _) fun k hk => ?_
  rw [compL_getD (by rw [compL_length]; exact hk), nx_comp hk, compL_getD hk, compL_getD (by rw [← hl]; exact nx_lt hp hk)]

/-- The point before j. -/
def pre (p : List Int) (j : Nat) : Nat := it p (per p j - 1) j
theorem pre_lt {p : List Int} (hp : IsP p) {j : Nat} (hj : j < p.length) : pre p j < p.length := it_lt hp hj _
theorem nx_pre {p : List Int} (hp : IsP p) {j : Nat} (hj : j < p.length) : nx p (pre p j) = j := by
  obtain ⟨h1, _, h3, _⟩ := per_spec hp hj
  have : it p (per p j - 1 + 1) j = j := by rw [show per p j - 1 + 1 = per p j from by omega]; exact h3
  exact this
theorem invL_at {p : List Int} (hp : IsP p) : ∀ k, k ≤ p.length → ∀ i, i < k → (invL p k).getD (nx p i) 0 = (i : Int) := by
  intro k
  induction k with
  | zero => intro _ i h; omega
  | succ k ih =>
    intro hk i hi
    have hl := invL_length p k
    show ((invL p k).set (p.getD k 0).toNat (k : Int)).getD (nx p i) 0 = _
    rw [set_getD hl (nx_lt hp (by omega))]
    by_cases e : i = k
    · subst e; rw [if_pos (show (p.getD i 0).toNat = nx p i from rfl)]
    · rw [if_neg fun e2 => e (nx_inj hp (by omega) (by omega) (show nx p i = nx p k from e2.symm)), ih (by omega) i (by omega)]
theorem invL_getD {p : List Int} (hp : IsP p) {j : Nat} (hj : j < p.length) : (invL p p.length).getD j 0 = (pre p j : Int) := by
  have := invL_at hp p.length (Nat.le_refl _) (pre p j) (pre_lt hp hj)
  rw [nx_pre hp hj] at this
  exact this
theorem isP_inv {p : List Int} (hp : IsP p) : IsP (invL p p.length) := by
  have hl := invL_length p p.length
  refine ⟨by rw [hl]; exact hp.pos, by rw [hl]; exact hp.le, fun i hi => ?_, fun i hi => ?_, fun i j hi hj e => ?_⟩
  · rw [hl] at hi; rw [invL_getD hp hi]; omega
  · rw [hl] at hi ⊢; rw [invL_getD hp hi]; have := pre_lt hp hi; omega
  · rw [hl] at hi hj
    rw [invL_getD hp hi, invL_getD hp hj] at e
    rw [← nx_pre hp hi, ← nx_pre hp hj, show pre p i = pre p j from by omega]
theorem comp_inv {p : List Int} (hp : IsP p) : compL p (invL p p.length) = idL p.length := by
  refine ext_getD (compL_length _ _) (idL_length _) fun k hk => ?_
  rw [compL_getD hk, idL_getD hk, invL_at hp _ (Nat.le_refl _) k hk]
theorem inv_comp {p : List Int} (hp : IsP p) : compL (invL p p.length) p = idL p.length := by
  refine ext_getD ((compL_length _ _).trans (invL_length _ _)) (idL_length _) fun k hk => ?_
  rw [compL_getD (by rw [invL_length]; exact hk), idL_getD hk]
  have : nx (invL p p.length) k = pre p k := by unfold nx; rw [invL_getD hp hk]; omega
  rw [this, nx_val hp (pre_lt hp hk), nx_pre hp hk]

end Go.Proofs.Ytcjcmhoalomjfab

/- Conjugate, of the program and of the model. No condition but lengths. -/
namespace Go.Proofs.Ytcjcmhoalomjfab
open Go.RowKit

/-- First the inverse of q, then p, then q. -/
def conjP (p q : List Int) : List Int := compL (compL (invL q q.length) p) q
def conjL (p q : List Int) : List Int := if sameD p q = true then conjP p q else []

set_option maxHeartbeats 400000 in
/-- conjugatedBy. -/
theorem implConjBy (A B : Option Addr) (c d n : Nat) (p q : List Int) (w : World) (hp : RI w w.heap.size A p) (hq : RI w w.heap.size B q) (lp : Hid (p.length = n)) (lq : Hid (q.length = n)) (Ip : Hid (IsP p)) (Iq : Hid (IsP q)) (hn20 : n ≤ 20) :
    Calls Try.prog 40 #[.slice A n c, .slice B n d] w fun e w' => ∃ A' c', e = .returned (.slice A' n c') ∧ Slc w' w.heap.size A' n c' (conjP p q) ∧ Below w.heap.size w w' := by
  have li : Hid ((invL q q.length).length = n) := Lib.hid ((invL_length _ _).trans lq.out)
  have ii : Hid (IsP (invL q q.length)) := Lib.hid (isP_inv Iq.out)
  have lc : Hid ((compL (invL q q.length) p).length = n) := Lib.hid ((compL_length _ _).trans li.out)
  have ic : Hid (IsP (compL (invL q q.length) p)) := Lib.hid (isP_comp ii.out Ip.out (li.out.trans lp.out.symm))
  go_enter Try.func40, Try.ntmps40
  go_wp2_with fail
  refine (implInv B d n q w hq lq Iq hn20).mono ?_
  rintro e w2 ⟨A2, c2, rfl, s2, b2⟩
  rw [← lq.out] at s2
  have S2 := Lib.hid (show Slc w2 w.heap.size A2 n c2 (invL q q.length) by rw [lq.out] at s2 ⊢; exact s2)
  have B2 := Lib.hid b2
  clear s2 b2
  go_wp2_with fail
  refine (implThen A2 A c2 c n (invL q q.length) p w2 S2.out.ri_ (hp.up B2.out) li lp ii hn20).mono ?_
  rintro e w3 ⟨A3, c3, rfl, s3, b3⟩
  have S3 := Lib.hid s3
  have B3 : Hid (Below w.heap.size w w3) := Lib.hid (btr B2.out b3)
  clear s3 b3
  go_wp2_with fail
  refine (implThen A3 B c3 d n (compL (invL q q.length) p) q w3 S3.out.ri_ (hq.up B3.out) lc lq ic hn20).mono ?_
  rintro e w4 ⟨A4, c4, rfl, s4, b4⟩
  have S4 := Lib.hid (s4.mono B3.out.size)
  have B4 : Hid (Below w.heap.size w w4) := Lib.hid (btr B3.out b4)
  clear s4 b4
  go_wp2_with fail
  go_ret
  exact ⟨_, _, rfl, S4.out, B4.out⟩

set_option maxHeartbeats 400000 in
/-- The program's Conjugate. -/
theorem implConjugate (A B : Option Addr) (c d n m : Nat) (p q : List Int) (w : World) (hp : RI w w.heap.size A p) (hq : RI w w.heap.size B q) (lp : Hid (p.length = n)) (lq : Hid (q.length = m)) (hn : n ≤ 2097152) (hm : m ≤ 2097152) :
    Calls Try.prog 9 #[.slice A n c, .slice B m d] w fun e w' => ∃ A' n' c', e = .returned (.tuple #[.slice A' n' c', .bool (sameD p q)]) ∧ Slc w' w.heap.size A' n' c' (conjL p q) ∧ n' ≤ 20 ∧ Below w.heap.size w w' := by
  rcases hs : sameD p q with _ | _
  · have Fin : Hid (conjL p q = []) := Lib.hid (if_neg (by rw [hs]; decide))
    go_enter Try.func9, Try.ntmps9
    go_wp2_with fail
    refine (implEq A B c d n m p q w hp hq lp lq hn hm).mono ?_
    rintro e w1 ⟨rfl, b1⟩
    have B1 := Lib.hid b1
    clear b1
    go_wp2_with fail
    go_ret2
    exact ⟨_, _, _, rfl, by rw [Fin.out]; exact Slc.nil_, Nat.zero_le _, B1.out⟩
  · have Fin : Hid (conjL p q = conjP p q) := Lib.hid (if_pos hs)
    obtain ⟨h1, h2, h3⟩ := sameD_iff.1 hs
    have Ip := Lib.hid h2
    have Iq := Lib.hid h3
    have hn20 : n ≤ 20 := by rw [← lp.out]; exact h2.le
    obtain rfl : n = m := by rw [← lp.out, ← lq.out, h1]
    clear h1 h2 h3
    go_enter Try.func9, Try.ntmps9
    go_wp2_with fail
    refine (implEq A B c d n n p q w hp hq lp lq hn hn).mono ?_
    rintro e w1 ⟨rfl, b1⟩
    have B1 := Lib.hid b1
    clear b1
    go_wp2_with fail
    refine (implConjBy A B c d n p q w1 (hp.up B1.out) (hq.up B1.out) lp lq Ip Iq hn20).mono ?_
    rintro e w4 ⟨A4, c4, rfl, s4, b4⟩
    have S4 := Lib.hid (s4.mono B1.out.size)
    have B4 : Hid (Below w.heap.size w w4) := Lib.hid (btr B1.out b4)
    clear s4 b4
    go_wp2_with fail
    go_ret2
    exact ⟨_, _, _, rfl, by rw [Fin.out]; exact S4.out, hn20, B4.out⟩

set_option maxHeartbeats 400000 in
/-- The model's Conjugate. -/
theorem specConjugate (A B : Option Addr) (c d n m : Nat) (p q : List Int) (w : World) (hp : RI w w.heap.size A p) (hq : RI w w.heap.size B q) (lp : Hid (p.length = n)) (lq : Hid (q.length = m)) (hn : n ≤ 2097152) (hm : m ≤ 2097152) (hc : n ≤ c) (hd : m ≤ d) :
    Calls Try.prog 7 #[.slice A n c, .slice B m d] w fun e w' => ∃ A' n' c', e = .returned (.tuple #[.slice A' n' c', .bool (sameD p q)]) ∧ Slc w' w.heap.size A' n' c' (conjL p q) ∧ n' ≤ 20 ∧ Below w.heap.size w w' := by
  rcases hs : sameD p q with _ | _
  · have Fin : Hid (conjL p q = []) := Lib.hid (if_neg (by rw [hs]; decide))
    go_enter Try.func7, Try.ntmps7
    go_wp2_with fail
    refine (specSame A B c d n m p q w hp hq lp lq hn hm hc hd).mono ?_
    rintro e w1 ⟨rfl, b1⟩
    have B1 := Lib.hid b1
    clear b1
    go_wp2_with fail
    go_ret2
    exact ⟨_, _, _, rfl, by rw [Fin.out]; exact Slc.lit0 w1 _ B1.out.size, Nat.zero_le _, B1.out.alloc B1.out.size _⟩
  · have Fin : Hid (conjL p q = conjP p q) := Lib.hid (if_pos hs)
    obtain ⟨h1, h2, h3⟩ := sameD_iff.1 hs
    have Ip := Lib.hid h2
    have Iq := Lib.hid h3
    have hn20 : n ≤ 20 := by rw [← lp.out]; exact h2.le
    obtain rfl : n = m := by rw [← lp.out, ← lq.out, h1]
    clear h1 h2 h3
    have li : Hid ((invL q q.length).length = n) := Lib.hid ((invL_length _ _).trans lq.out)
    have ii : Hid (IsP (invL q q.length)) := Lib.hid (isP_inv Iq.out)
    have lc : Hid ((compL (invL q q.length) p).length = n) := Lib.hid ((compL_length _ _).trans li.out)
    have ic : Hid (IsP (compL (invL q q.length) p)) := Lib.hid (isP_comp ii.out Ip.out (li.out.trans lp.out.symm))
    go_enter Try.func7, Try.ntmps7
    go_wp2_with fail
    refine (specSame A B c d n n p q w hp hq lp lq hn hn hc hd).mono ?_
    rintro e w1 ⟨rfl, b1⟩
    have B1 := Lib.hid b1
    clear b1
    go_wp2_with fail
    refine (specInv B d n q w1 (hq.up B1.out) lq Iq hn20).mono ?_
    rintro e w2 ⟨A2, c2, rfl, s2, b2⟩
    rw [← lq.out] at s2
    have S2 := Lib.hid (show Slc w2 w1.heap.size A2 n c2 (invL q q.length) by rw [lq.out] at s2 ⊢; exact s2)
    have B2 : Hid (Below w.heap.size w w2) := Lib.hid (btr B1.out b2)
    clear s2 b2
    go_wp2_with fail
    refine (specComp A2 A c2 c n (invL q q.length) p w2 S2.out.ri_ (hp.up B2.out) li lp ii hn20).mono ?_
    rintro e w3 ⟨A3, c3, rfl, s3, b3⟩
    have S3 := Lib.hid s3
    have B3 : Hid (Below w.heap.size w w3) := Lib.hid (btr B2.out b3)
    clear s3 b3
    go_wp2_with fail
    refine (specComp A3 B c3 d n (compL (invL q q.length) p) q w3 S3.out.ri_ (hq.up B3.out) lc lq ic hn20).mono ?_
    rintro e w4 ⟨A4, c4, rfl, s4, b4⟩
    have S4 := Lib.hid (s4.mono B3.out.size)
    have B4 : Hid (Below w.heap.size w w4) := Lib.hid (btr B3.out b4)
    clear s4 b4
    go_wp2_with fail
    go_ret2
    exact ⟨_, _, _, rfl, by rw [Fin.out]; exact S4.out, hn20, B4.out⟩
end Go.Proofs.Ytcjcmhoalomjfab

/- The walks of the laws FnExactConjugate: they return true at every input, and write nothing that was there. No condition. -/
namespace Go.Proofs.Ytcjcmhoalomjfab
open Go.RowKit

set_option maxHeartbeats 2000000 in
set_option maxRecDepth 100000 in
/-- The law FnExactConjugate. -/
theorem lawConjugate (P : Option Addr) (cp np : Nat) (p : List Int) (Q : Option Addr) (cq nq : Nat) (q : List Int) (w : World) (hp : RI w w.heap.size P p) (lp : Hid (p.length = np)) (hq : RI w w.heap.size Q q) (lq : Hid (q.length = nq)) :
    Calls Try.prog 3 #[.slice P np cp, .slice Q nq cq] w fun e w' => e = .returned (.bool true) ∧ Below w.heap.size w w' := by
  by_cases hnp : np ≤ 1048576
  · skip
    by_cases hnq : nq ≤ 1048576
    · skip
      go_enter Try.func3, Try.ntmps3
      go_wp2_with fail
      refine (toS_any P cp np p w hp lp (by omega)).mono ?_
      rintro e w1 ⟨A1, c1, rfl, s1, b1⟩
      have B1 : Hid (Below w.heap.size w w1) := Lib.hid b1
      have Stp_1 := Lib.hid s1
      have Ltp := Lib.hid s1.lies
      have le1 := s1.le.1
      clear s1 b1
      go_wp2_with fail
      refine (toS_any Q cq nq q w1 (hq.up B1.out) lq (by omega)).mono ?_
      rintro e w2 ⟨A2, c2, rfl, s2, b2⟩
      have B1_2 : Hid (Below w1.heap.size w1 w2) := Lib.hid b2
      have B2 : Hid (Below w.heap.size w w2) := Lib.hid (btr B1.out b2)
      have Stp_2 := Lib.hid (Stp_1.out.up b2)
      clear Stp_1
      have Stq_2 := Lib.hid s2
      have Ltq := Lib.hid s2.lies
      have le2 := s2.le.1
      clear s2 b2
      go_wp2_with fail
      refine (specConjugate A1 A2 c1 c2 np nq p q w2 Stp_2.out.ri_ Stq_2.out.ri_ lp lq (by omega) (by omega) le1 le2).mono ?_
      rintro e w3 ⟨A3, n3, c3, rfl, s3, l3, b3⟩
      have B1_3 : Hid (Below w1.heap.size w1 w3) := Lib.hid (btr B1_2.out b3)
      have B2_3 : Hid (Below w2.heap.size w2 w3) := Lib.hid b3
      have B3 : Hid (Below w.heap.size w w3) := Lib.hid (btr B2.out b3)
      have Stp_3 := Lib.hid (Stp_2.out.up b3)
      clear Stp_2
      have Stq_3 := Lib.hid (Stq_2.out.up b3)
      clear Stq_2
      have Sw0_3 := Lib.hid s3
      have Lw0 := Lib.hid s3.lies
      clear s3 b3
      clear Stp_3 Ltp
      clear Stq_3 Ltq
      go_wp2_with fail
      refine (toS_any P cp np p w3 (hp.up B3.out) lp (by omega)).mono ?_
      rintro e w4 ⟨A4, c4, rfl, s4, b4⟩
      have B1_4 : Hid (Below w1.heap.size w1 w4) := Lib.hid (btr B1_3.out b4)
      have B2_4 : Hid (Below w2.heap.size w2 w4) := Lib.hid (btr B2_3.out b4)
      have B3_4 : Hid (Below w3.heap.size w3 w4) := Lib.hid b4
      have B4 : Hid (Below w.heap.size w w4) := Lib.hid (btr B3.out b4)
      have Sw0_4 := Lib.hid (Sw0_3.out.up b4)
      clear Sw0_3
      have Sxp_4 := Lib.hid s4
      have Lxp := Lib.hid s4.lies
      have le4 := s4.le.1
      clear s4 b4
      go_wp2_with fail
      refine (toS_any Q cq nq q w4 (hq.up B4.out) lq (by omega)).mono ?_
      rintro e w5 ⟨A5, c5, rfl, s5, b5⟩
      have B1_5 : Hid (Below w1.heap.size w1 w5) := Lib.hid (btr B1_4.out b5)
      have B2_5 : Hid (Below w2.heap.size w2 w5) := Lib.hid (btr B2_4.out b5)
      have B3_5 : Hid (Below w3.heap.size w3 w5) := Lib.hid (btr B3_4.out b5)
      have B4_5 : Hid (Below w4.heap.size w4 w5) := Lib.hid b5
      have B5 : Hid (Below w.heap.size w w5) := Lib.hid (btr B4.out b5)
      have Sw0_5 := Lib.hid (Sw0_4.out.up b5)
      clear Sw0_4
      have Sxp_5 := Lib.hid (Sxp_4.out.up b5)
      clear Sxp_4
      have Sxq_5 := Lib.hid s5
      have Lxq := Lib.hid s5.lies
      have le5 := s5.le.1
      clear s5 b5
      go_wp2_with fail
      refine (implConjugate A4 A5 c4 c5 np nq p q w5 Sxp_5.out.ri_ Sxq_5.out.ri_ lp lq (by omega) (by omega)).mono ?_
      rintro e w6 ⟨A6, n6, c6, rfl, s6, l6, b6⟩
      have B1_6 : Hid (Below w1.heap.size w1 w6) := Lib.hid (btr B1_5.out b6)
      have B2_6 : Hid (Below w2.heap.size w2 w6) := Lib.hid (btr B2_5.out b6)
      have B3_6 : Hid (Below w3.heap.size w3 w6) := Lib.hid (btr B3_5.out b6)
      have B4_6 : Hid (Below w4.heap.size w4 w6) := Lib.hid (btr B4_5.out b6)
      have B5_6 : Hid (Below w5.heap.size w5 w6) := Lib.hid b6
      have B6 : Hid (Below w.heap.size w w6) := Lib.hid (btr B5.out b6)
      have Sw0_6 := Lib.hid (Sw0_5.out.up b6)
      clear Sw0_5
      have Sxp_6 := Lib.hid (Sxp_5.out.up b6)
      clear Sxp_5
      have Sxq_6 := Lib.hid (Sxq_5.out.up b6)
      clear Sxq_5
      have Sg0_6 := Lib.hid s6
      have Lg0 := Lib.hid s6.lies
      clear s6 b6
      go_wp2_with fail
      refine (eqS_same _ _ A6 A3 n6 c6 n3 c3 w6 Sg0_6.out Sw0_6.out (by omega)).mono ?_
      rintro e w7 ⟨rfl, b7⟩
      have B1_7 : Hid (Below w1.heap.size w1 w7) := Lib.hid (btr B1_6.out b7)
      have B2_7 : Hid (Below w2.heap.size w2 w7) := Lib.hid (btr B2_6.out b7)
      have B3_7 : Hid (Below w3.heap.size w3 w7) := Lib.hid (btr B3_6.out b7)
      have B4_7 : Hid (Below w4.heap.size w4 w7) := Lib.hid (btr B4_6.out b7)
      have B5_7 : Hid (Below w5.heap.size w5 w7) := Lib.hid (btr B5_6.out b7)
      have B6_7 : Hid (Below w6.heap.size w6 w7) := Lib.hid b7
      have B7 : Hid (Below w.heap.size w w7) := Lib.hid (btr B6.out b7)
      have Sw0_7 := Lib.hid (Sw0_6.out.up b7)
      clear Sw0_6
      have Sxp_7 := Lib.hid (Sxp_6.out.up b7)
      clear Sxp_6
      have Sxq_7 := Lib.hid (Sxq_6.out.up b7)
      clear Sxq_6
      have Sg0_7 := Lib.hid (Sg0_6.out.up b7)
      clear Sg0_6
      clear b7
      go_wp2_with fail
      refine (toS_any P cp np p w7 (hp.up B7.out) lp (by omega)).mono ?_
      rintro e w8 ⟨A8, c8, rfl, s8, b8⟩
      have B1_8 : Hid (Below w1.heap.size w1 w8) := Lib.hid (btr B1_7.out b8)
      have B2_8 : Hid (Below w2.heap.size w2 w8) := Lib.hid (btr B2_7.out b8)
      have B3_8 : Hid (Below w3.heap.size w3 w8) := Lib.hid (btr B3_7.out b8)
      have B4_8 : Hid (Below w4.heap.size w4 w8) := Lib.hid (btr B4_7.out b8)
      have B5_8 : Hid (Below w5.heap.size w5 w8) := Lib.hid (btr B5_7.out b8)
      have B6_8 : Hid (Below w6.heap.size w6 w8) := Lib.hid (btr B6_7.out b8)
      have B7_8 : Hid (Below w7.heap.size w7 w8) := Lib.hid b8
      have B8 : Hid (Below w.heap.size w w8) := Lib.hid (btr B7.out b8)
      have Sw0_8 := Lib.hid (Sw0_7.out.up b8)
      clear Sw0_7
      have Sxp_8 := Lib.hid (Sxp_7.out.up b8)
      clear Sxp_7
      have Sxq_8 := Lib.hid (Sxq_7.out.up b8)
      clear Sxq_7
      have Sg0_8 := Lib.hid (Sg0_7.out.up b8)
      clear Sg0_7
      have Syp_8 := Lib.hid s8
      have Lyp := Lib.hid s8.lies
      have le8 := s8.le.1
      clear s8 b8
      go_wp2_with fail
      refine (eqS_same _ _ A4 A8 np c4 np c8 w8 Sxp_8.out Syp_8.out (by omega)).mono ?_
      rintro e w9 ⟨rfl, b9⟩
      have B1_9 : Hid (Below w1.heap.size w1 w9) := Lib.hid (btr B1_8.out b9)
      have B2_9 : Hid (Below w2.heap.size w2 w9) := Lib.hid (btr B2_8.out b9)
      have B3_9 : Hid (Below w3.heap.size w3 w9) := Lib.hid (btr B3_8.out b9)
      have B4_9 : Hid (Below w4.heap.size w4 w9) := Lib.hid (btr B4_8.out b9)
      have B5_9 : Hid (Below w5.heap.size w5 w9) := Lib.hid (btr B5_8.out b9)
      have B6_9 : Hid (Below w6.heap.size w6 w9) := Lib.hid (btr B6_8.out b9)
      have B7_9 : Hid (Below w7.heap.size w7 w9) := Lib.hid (btr B7_8.out b9)
      have B8_9 : Hid (Below w8.heap.size w8 w9) := Lib.hid b9
      have B9 : Hid (Below w.heap.size w w9) := Lib.hid (btr B8.out b9)
      have Sw0_9 := Lib.hid (Sw0_8.out.up b9)
      clear Sw0_8
      have Sxp_9 := Lib.hid (Sxp_8.out.up b9)
      clear Sxp_8
      have Sxq_9 := Lib.hid (Sxq_8.out.up b9)
      clear Sxq_8
      have Sg0_9 := Lib.hid (Sg0_8.out.up b9)
      clear Sg0_8
      have Syp_9 := Lib.hid (Syp_8.out.up b9)
      clear Syp_8
      clear b9
      clear Syp_9 Lyp
      go_wp2_with fail
      refine (toS_any Q cq nq q w9 (hq.up B9.out) lq (by omega)).mono ?_
      rintro e w10 ⟨A10, c10, rfl, s10, b10⟩
      have B1_10 : Hid (Below w1.heap.size w1 w10) := Lib.hid (btr B1_9.out b10)
      have B2_10 : Hid (Below w2.heap.size w2 w10) := Lib.hid (btr B2_9.out b10)
      have B3_10 : Hid (Below w3.heap.size w3 w10) := Lib.hid (btr B3_9.out b10)
      have B4_10 : Hid (Below w4.heap.size w4 w10) := Lib.hid (btr B4_9.out b10)
      have B5_10 : Hid (Below w5.heap.size w5 w10) := Lib.hid (btr B5_9.out b10)
      have B6_10 : Hid (Below w6.heap.size w6 w10) := Lib.hid (btr B6_9.out b10)
      have B7_10 : Hid (Below w7.heap.size w7 w10) := Lib.hid (btr B7_9.out b10)
      have B8_10 : Hid (Below w8.heap.size w8 w10) := Lib.hid (btr B8_9.out b10)
      have B9_10 : Hid (Below w9.heap.size w9 w10) := Lib.hid b10
      have B10 : Hid (Below w.heap.size w w10) := Lib.hid (btr B9.out b10)
      have Sw0_10 := Lib.hid (Sw0_9.out.up b10)
      clear Sw0_9
      have Sxp_10 := Lib.hid (Sxp_9.out.up b10)
      clear Sxp_9
      have Sxq_10 := Lib.hid (Sxq_9.out.up b10)
      clear Sxq_9
      have Sg0_10 := Lib.hid (Sg0_9.out.up b10)
      clear Sg0_9
      have Syq_10 := Lib.hid s10
      have Lyq := Lib.hid s10.lies
      have le10 := s10.le.1
      clear s10 b10
      go_wp2_with fail
      refine (eqS_same _ _ A5 A10 nq c5 nq c10 w10 Sxq_10.out Syq_10.out (by omega)).mono ?_
      rintro e w11 ⟨rfl, b11⟩
      have B1_11 : Hid (Below w1.heap.size w1 w11) := Lib.hid (btr B1_10.out b11)
      have B2_11 : Hid (Below w2.heap.size w2 w11) := Lib.hid (btr B2_10.out b11)
      have B3_11 : Hid (Below w3.heap.size w3 w11) := Lib.hid (btr B3_10.out b11)
      have B4_11 : Hid (Below w4.heap.size w4 w11) := Lib.hid (btr B4_10.out b11)
      have B5_11 : Hid (Below w5.heap.size w5 w11) := Lib.hid (btr B5_10.out b11)
      have B6_11 : Hid (Below w6.heap.size w6 w11) := Lib.hid (btr B6_10.out b11)
      have B7_11 : Hid (Below w7.heap.size w7 w11) := Lib.hid (btr B7_10.out b11)
      have B8_11 : Hid (Below w8.heap.size w8 w11) := Lib.hid (btr B8_10.out b11)
      have B9_11 : Hid (Below w9.heap.size w9 w11) := Lib.hid (btr B9_10.out b11)
      have B10_11 : Hid (Below w10.heap.size w10 w11) := Lib.hid b11
      have B11 : Hid (Below w.heap.size w w11) := Lib.hid (btr B10.out b11)
      have Sw0_11 := Lib.hid (Sw0_10.out.up b11)
      clear Sw0_10
      have Sxp_11 := Lib.hid (Sxp_10.out.up b11)
      clear Sxp_10
      have Sxq_11 := Lib.hid (Sxq_10.out.up b11)
      clear Sxq_10
      have Sg0_11 := Lib.hid (Sg0_10.out.up b11)
      clear Sg0_10
      have Syq_11 := Lib.hid (Syq_10.out.up b11)
      clear Syq_10
      clear b11
      clear Syq_11 Lyq
      go_wp2_with fail
      refine (markK _ (1) _ A4 np c4 _ w11 Sxp_11.out (by omega) (by omega) (by omega)).mono ?_
      rintro e w12 ⟨rfl, s12, g12⟩
      have B12 : Hid (Below w.heap.size w w12) := Lib.hid (B11.out.trans (below_mark g12 Lxp.out B3.out.size B11.out.size))
      have Sw0_12 := Lib.hid (Sw0_11.out.far g12 Lw0.out Lxp.out (.inl (Nat.le_refl _)))
      clear Sw0_11
      have Sxp_12 := Lib.hid s12
      clear Sxp_11
      have Sxq_12 := Lib.hid (Sxq_11.out.far g12 Lxq.out Lxp.out (.inr (Nat.le_refl _)))
      clear Sxq_11
      have Sg0_12 := Lib.hid (Sg0_11.out.far g12 Lg0.out Lxp.out (.inr (B4_5.out.size)))
      clear Sg0_11
      clear s12 g12
      go_wp2_with fail
      refine (markK _ (1 + np) _ A5 nq c5 _ w12 Sxq_12.out (by omega) (by omega) (by omega)).mono ?_
      rintro e w13 ⟨rfl, s13, g13⟩
      have B13 : Hid (Below w.heap.size w w13) := Lib.hid (B12.out.trans (below_mark g13 Lxq.out B4.out.size B12.out.size))
      have Sw0_13 := Lib.hid (Sw0_12.out.far g13 Lw0.out Lxq.out (.inl (B3_4.out.size)))
      clear Sw0_12
      have Sxp_13 := Lib.hid (Sxp_12.out.far g13 Lxp.out Lxq.out (.inl (Nat.le_refl _)))
      clear Sxp_12
      have Sxq_13 := Lib.hid s13
      clear Sxq_12
      have Sg0_13 := Lib.hid (Sg0_12.out.far g13 Lg0.out Lxq.out (.inr (Nat.le_refl _)))
      clear Sg0_12
      clear s13 g13
      go_wp2_with fail
      refine (eqS_same _ _ A6 A3 n6 c6 n3 c3 w13 Sg0_13.out Sw0_13.out (by omega)).mono ?_
      rintro e w14 ⟨rfl, b14⟩
      have B14 : Hid (Below w.heap.size w w14) := Lib.hid (btr B13.out b14)
      have Sw0_14 := Lib.hid (Sw0_13.out.up b14)
      clear Sw0_13
      have Sxp_14 := Lib.hid (Sxp_13.out.up b14)
      clear Sxp_13
      have Sxq_14 := Lib.hid (Sxq_13.out.up b14)
      clear Sxq_13
      have Sg0_14 := Lib.hid (Sg0_13.out.up b14)
      clear Sg0_13
      clear b14
      clear Sxp_14
      clear Sxq_14
      go_wp2_with fail
      refine (markK _ (1) _ A6 n6 c6 _ w14 Sg0_14.out (by omega) (by omega) (by omega)).mono ?_
      rintro e w15 ⟨rfl, s15, g15⟩
      have B15 : Hid (Below w.heap.size w w15) := Lib.hid (B14.out.trans (below_mark g15 Lg0.out B5.out.size B14.out.size))
      have Sw0_15 := Lib.hid (Sw0_14.out.far g15 Lw0.out Lg0.out (.inl (B3_5.out.size)))
      clear Sw0_14
      have Sg0_15 := Lib.hid s15
      clear Sg0_14
      clear s15 g15
      go_wp2_with fail
      refine (held1 _ A6 n6 c6 w15 Sg0_15.out (by omega)).mono ?_
      rintro e w' ⟨rfl, rfl⟩
      go_wp2_with fail
      refine (toS_any P cp np p w15 (hp.up B15.out) lp (by omega)).mono ?_
      rintro e w16 ⟨A16, c16, rfl, s16, b16⟩
      have B16 : Hid (Below w.heap.size w w16) := Lib.hid (btr B15.out b16)
      have Sw0_16 := Lib.hid (Sw0_15.out.up b16)
      clear Sw0_15
      have Sg0_16 := Lib.hid (Sg0_15.out.up b16)
      clear Sg0_15
      have Szp_16 := Lib.hid s16
      have Lzp := Lib.hid s16.lies
      have le16 := s16.le.1
      clear s16 b16
      go_wp2_with fail
      refine (toS_any Q cq nq q w16 (hq.up B16.out) lq (by omega)).mono ?_
      rintro e w17 ⟨A17, c17, rfl, s17, b17⟩
      have B16_17 : Hid (Below w16.heap.size w16 w17) := Lib.hid b17
      have B17 : Hid (Below w.heap.size w w17) := Lib.hid (btr B16.out b17)
      have Sw0_17 := Lib.hid (Sw0_16.out.up b17)
      clear Sw0_16
      have Sg0_17 := Lib.hid (Sg0_16.out.up b17)
      clear Sg0_16
      have Szp_17 := Lib.hid (Szp_16.out.up b17)
      clear Szp_16
      have Szq_17 := Lib.hid s17
      have Lzq := Lib.hid s17.lies
      have le17 := s17.le.1
      clear s17 b17
      go_wp2_with fail
      refine (implConjugate A16 A17 c16 c17 np nq p q w17 Szp_17.out.ri_ Szq_17.out.ri_ lp lq (by omega) (by omega)).mono ?_
      rintro e w18 ⟨A18, n18, c18, rfl, s18, l18, b18⟩
      have B16_18 : Hid (Below w16.heap.size w16 w18) := Lib.hid (btr B16_17.out b18)
      have B17_18 : Hid (Below w17.heap.size w17 w18) := Lib.hid b18
      have B18 : Hid (Below w.heap.size w w18) := Lib.hid (btr B17.out b18)
      have Sw0_18 := Lib.hid (Sw0_17.out.up b18)
      clear Sw0_17
      have Sg0_18 := Lib.hid (Sg0_17.out.up b18)
      clear Sg0_17
      have Szp_18 := Lib.hid (Szp_17.out.up b18)
      clear Szp_17
      have Szq_18 := Lib.hid (Szq_17.out.up b18)
      clear Szq_17
      have Sh0_18 := Lib.hid s18
      have Lh0 := Lib.hid s18.lies
      clear s18 b18
      clear Szp_18
      clear Szq_18
      go_wp2_with fail
      refine (eqS_same _ _ A18 A3 n18 c18 n3 c3 w18 Sh0_18.out Sw0_18.out (by omega)).mono ?_
      rintro e w19 ⟨rfl, b19⟩
      have B16_19 : Hid (Below w16.heap.size w16 w19) := Lib.hid (btr B16_18.out b19)
      have B17_19 : Hid (Below w17.heap.size w17 w19) := Lib.hid (btr B17_18.out b19)
      have B18_19 : Hid (Below w18.heap.size w18 w19) := Lib.hid b19
      have B19 : Hid (Below w.heap.size w w19) := Lib.hid (btr B18.out b19)
      have Sw0_19 := Lib.hid (Sw0_18.out.up b19)
      clear Sw0_18
      have Sg0_19 := Lib.hid (Sg0_18.out.up b19)
      clear Sg0_18
      have Sh0_19 := Lib.hid (Sh0_18.out.up b19)
      clear Sh0_18
      clear b19
      go_wp2_with fail
      refine (held1 _ A6 n6 c6 w19 Sg0_19.out (by omega)).mono ?_
      rintro e w' ⟨rfl, rfl⟩
      go_wp2_with fail
      go_ret
      exact ⟨rfl, B19.out⟩
    · have d1 : decide ((1048576 : Int) < nq) = true := by simp; omega
      go_enter Try.func3, Try.ntmps3
      go_wp2
      go_ret
      exact ⟨rfl, Below.refl _ _⟩
  · have d1 : decide ((1048576 : Int) < np) = true := by simp; omega
    go_enter Try.func3, Try.ntmps3
    go_wp2
    go_ret
    exact ⟨rfl, Below.refl _ _⟩

end Go.Proofs.Ytcjcmhoalomjfab

/- The model's source of draws. Conditions: at most 4096 bytes; draws below at most 256. -/
namespace Go.Proofs.Ytcjcmhoalomjfab
open Go.RowKit

/-- The bytes at A can be read: len of them, in blocks below B. -/
def SB (w : World) (B : Nat) (A : Option Addr) (len : Nat) : Prop :=
  0 < len → ∃ b off, A = some ⟨b, off, none⟩ ∧ b < B ∧ ∀ j, j < len → ∃ z : Nat, z ≤ 255 ∧ w.cell? ⟨b, off + j, none⟩ = some (.int .u8 z)
theorem SB.keep {w w' : World} {B len : Nat} {A : Option Addr} (h : SB w B A len) (hk : ∀ p : Addr, p.block < B → w'.cell? p = w.cell? p) : SB w' B A len := fun hn => by
  obtain ⟨b, off, e, hb, hc⟩ := h hn
  exact ⟨b, off, e, hb, fun j hj => by obtain ⟨z, hz, c⟩ := hc j hj; exact ⟨z, hz, (hk ⟨b, off + j, none⟩ hb).trans c⟩⟩
theorem SB.up {w w' : World} {B B' len : Nat} {A : Option Addr} (h : SB w B A len) (hB : B ≤ B') : SB w B' A len := fun hn => by
  obtain ⟨b, off, e, hb, hc⟩ := h hn
  exact ⟨b, off, e, by omega, hc⟩
theorem SB.below {w w' : World} {B B' len : Nat} {A : Option Addr} (h : SB w B A len) (hb : Below B' w w') (hB : B ≤ B') : SB w' B A len := h.keep fun _ hp => hb.cell (by omega)

/-- Block g is a source. -/
def Src (w : World) (g : Nat) : Prop :=
  ∃ (A : Option Addr) (len cap k : Nat) (h : Int), k ≤ len ∧ len ≤ 4096 ∧ SB w g A len ∧ Blk w g 83 #[.slice A len cap, .int .i64 (k : Nat), .int .i64 h]
theorem Src.lt {w : World} {g : Nat} (h : Src w g) : g < w.heap.size := by
  obtain ⟨A, len, cap, k, x, h1, h2, h3, h4⟩ := h; exact h4.lt
theorem Src.below {B g : Nat} {w w' : World} (h : Src w g) (hb : Below B w w') (hg : g < B) : Src w' g := by
  obtain ⟨A, len, cap, k, x, h1, h2, h3, h4⟩ := h
  exact ⟨A, len, cap, k, x, h1, h2, h3.below hb (by omega), h4.below hb hg⟩
theorem Src.gro {g r : Nat} {w w' : World} (h : Src w g) (hb : w.grownBy w' (some r)) (hg : g < r) : Src w' g := by
  obtain ⟨A, len, cap, k, x, h1, h2, h3, h4⟩ := h
  refine ⟨A, len, cap, k, x, h1, h2, h3.keep fun p hp => World.cell?_of_block (hb.block p.block (by have := h4.lt; omega) (by simp; omega)), h4.grown hb (by simp; omega)⟩
theorem and255 (x : Int) : bits .and .i64 x 255 = x % 256 := by
  have h255 : (BitVec.ofInt 64 255).toNat = 2 ^ 8 - 1 := by decide
  have key : (BitVec.ofInt 64 x &&& BitVec.ofInt 64 255).toNat = (x % ((2 ^ 64 : Nat) : Int)).toNat % 2 ^ 8 := by
    rw [BitVec.toNat_and, BitVec.toNat_ofInt, h255, Nat.and_two_pow_sub_one_eq_mod]
  show IntKind.i64.wrap ((BitVec.ofInt 64 x &&& BitVec.ofInt 64 255).toNat : Nat) = x % 256
  rw [key, IntKind.wrap_i64]
  omega

set_option maxHeartbeats 1600000 in
theorem srcByte (g : Nat) (w : World) (hs : Src w g) :
    Calls Try.prog 105 #[.pointer (some ⟨g, 0, none⟩)] w fun e w' => ∃ r : Nat, r ≤ 255 ∧ e = .returned (.int .i64 r) ∧ Src w' g ∧ w.grownBy w' (some g) := by
  obtain ⟨A, len, cap, k, h, hk, hl, hb, blk⟩ := hs
  have c0 : w.cell? ⟨g, 0, none⟩ = some (.slice A len cap) := blk.cell 0
  have c1 : w.cell? ⟨g, 1, none⟩ = some (.int .i64 k) := blk.cell 1
  have c2 : w.cell? ⟨g, 2, none⟩ = some (.int .i64 h) := blk.cell 2
  have f1 := blk.frozen 1
  have f2 := blk.frozen 2
  obtain ⟨H, eH⟩ : ∃ H, wrap64 (wrap64 (h * 6364136223846793005) + 1442695040888963407) = H := ⟨_, rfl⟩
  obtain ⟨X, hX, eX⟩ : ∃ X : Nat, X ≤ 255 ∧ bits .xor .i64 (H / 8589934592) (H / 35184372088832) % 256 = (X : Int) := ⟨(bits .xor .i64 (H / 8589934592) (H / 35184372088832) % 256).toNat, by omega, by omega⟩
  have a255 := and255
  have Blk' := Lib.hid blk
  have j0 : (0 : Int) ≤ k := by omega
  by_cases hlt : k < len
  · obtain ⟨b, off, rfl, hb', hc⟩ := hb (by omega)
    obtain ⟨z, hz, cz⟩ := hc k hlt
    have cz2 : (w.setCell ⟨g, 2, none⟩ (.int .i64 H)).cell? ⟨b, off + k, none⟩ = some (.int .u8 z) := (World.cell?_setCell_other _ _ _ _ (fun e => by injection e with e1; omega)).trans cz
    have j1 : (k : Int) < len := by omega
    have j2 : decide ((k : Int) < (len : Int)) = true := by simpa using hlt
    have Hb := Lib.hid hb
    have Blk2 := Lib.hid ((Blk'.out.set_ 2 (.int .i64 H)).set_ 1 (.int .i64 ((k : Int) + 1)))
    clear hb hc blk
    go_enter Try.func105, Try.ntmps105
    go_wp2_with fail
    go_quiet (fail)
    go_wp2_with fail
    go_quiet (fail)
    go_wp2_with fail
    go_quiet (fail)
    go_wp2_with fail
    go_ret
    refine ⟨(X + z) % 256, by omega, ret_int (by rw [Int.natCast_emod, Int.natCast_add]; rfl), ⟨_, len, cap, k + 1, H, by omega, hl, ?_, Blk2.out⟩, ?_⟩
    · exact Hb.out.keep fun p hp => by
        refine (World.cell?_setCell_other _ _ _ _ (fun e => by subst e; simp at hp)).trans ?_
        exact (World.cell?_setCell_other _ _ _ _ (fun e => by subst e; simp at hp))
    · exact grown_set (grown_drewN (grown_set (grown_refl w _) 2 _) _) 1 _
  · have j2 : decide ((k : Int) < (len : Int)) = false := by simp; omega
    have Hb := Lib.hid hb
    have Blk2 := Lib.hid (Blk'.out.set_ 2 (.int .i64 H))
    clear hb blk
    go_enter Try.func105, Try.ntmps105
    go_wp2_with fail
    go_quiet (fail)
    go_wp2_with fail
    go_quiet (fail)
    go_wp2_with fail
    go_ret
    refine ⟨X, hX, rfl, ⟨A, len, cap, k, H, by omega, hl, ?_, Blk2.out⟩, ?_⟩
    · exact Hb.out.keep fun p hp => by
        exact (World.cell?_setCell_other _ _ _ _ (fun e => by subst e; simp at hp))
    · exact grown_drewN (grown_drewN (grown_set (grown_refl w _) 2 _) _) _

theorem grown_trans' {a b c : World} {row : Option Nat} (h : a.grownBy b row) (k : b.grownBy c row) : a.grownBy c row :=
  ⟨k.os.trans h.os, k.tape.trans h.tape, k.output.trans h.output, Nat.le_trans h.size k.size, fun i hi hn => (k.block i (Nat.lt_of_lt_of_le hi h.size) hn).trans (h.block i hi hn)⟩

set_option maxHeartbeats 800000 in
theorem srcBelow (g : Nat) (N : Int) (n : Nat) (w : World) (hs : Src w g) (hN : N = (n : Int)) (h1 : 1 ≤ n) (h2 : n ≤ 256) :
    Calls Try.prog 81 #[.pointer (some ⟨g, 0, none⟩), .int .i64 N] w fun e w' => ∃ r : Nat, r < n ∧ e = .returned (.int .i64 r) ∧ Src w' g ∧ w.grownBy w' (some g) := by
  subst hN
  have d1 : decide ((n : Int) ≤ 0) = false := by simp; omega
  have d2 : decide ((n : Int) ≤ 256) = true := by simp; omega
  go_enter Try.func81, Try.ntmps81
  go_wp2_with fail
  refine (srcByte g w hs).mono ?_
  rintro e w1 ⟨r, hr, rfl, s1, g1⟩
  have S1 := Lib.hid s1
  have G1 := Lib.hid g1
  clear s1 g1
  go_wp2_with fail
  go_ret
  exact ⟨r % n, Nat.mod_lt _ (by omega), ret_int (by rw [Int.natCast_emod]), S1.out, G1.out⟩

set_option maxHeartbeats 800000 in
theorem srcOne (g : Nat) (N : Int) (n : Nat) (w : World) (hs : Src w g) (hN : N = (n : Int)) (h1 : 1 ≤ n) (h2 : n ≤ 256) :
    Calls Try.prog 51 #[.pointer (some ⟨g, 0, none⟩), .int .i64 N] w fun e w' => ∃ b : Bool, e = .returned (.bool b) ∧ Src w' g ∧ w.grownBy w' (some g) := by
  subst hN
  go_enter Try.func51, Try.ntmps51
  go_wp2_with fail
  refine (srcBelow g _ n w hs rfl h1 h2).mono ?_
  rintro e w1 ⟨r, hr, rfl, s1, g1⟩
  have S1 := Lib.hid s1
  have G1 := Lib.hid g1
  clear s1 g1
  by_cases hr0 : r = 0
  · have e0 : ((r : Int) == 0) = true := by rw [beq_iff_eq]; omega
    clear hr0
    go_wp2_with fail
    go_ret
    exact ⟨true, rfl, S1.out, G1.out⟩
  · have e0 : ((r : Int) == 0) = false := by rw [beq_eq_false_iff_ne]; omega
    clear hr0
    go_wp2_with fail
    go_ret
    exact ⟨false, rfl, S1.out, G1.out⟩

theorem srcBetween (g lo hi : Nat) (w : World) (hs : Src w g) (h1 : lo ≤ hi) (h2 : hi ≤ 200) :
    Calls Try.prog 49 #[.pointer (some ⟨g, 0, none⟩), .int .i64 (lo : Int), .int .i64 (hi : Int)] w fun e w' => ∃ r : Nat, lo ≤ r ∧ r ≤ hi ∧ e = .returned (.int .i64 r) ∧ Src w' g ∧ w.grownBy w' (some g) := by
  go_enter Try.func49, Try.ntmps49
  go_wp2_with fail
  refine (srcBelow g _ (hi - lo + 1) w hs (by omega) (by omega) (by omega)).mono ?_
  rintro e w1 ⟨r, hr, rfl, s1, g1⟩
  have S1 := Lib.hid s1
  have G1 := Lib.hid g1
  clear s1 g1
  go_wp2_with fail
  go_ret
  exact ⟨lo + r, by omega, by omega, ret_int (by omega), S1.out, G1.out⟩

set_option maxHeartbeats 1600000 in
theorem newSrc (len cap : Nat) (A : Option Addr) (w : World) (hb : SB w w.heap.size A len) (hl : len ≤ 4096) :
    Calls Try.prog 48 #[.slice A len cap] w fun e w' => e = .returned (.pointer (some ⟨w.heap.size, 0, none⟩)) ∧ Src w' w.heap.size ∧ Below w.heap.size w w' := by
  go_enter Try.func48, Try.ntmps48
  go_wp2_with fail
  go_loopg [3, 4] len (fun gg h i wr => ∃ k x, k ≤ len ∧ len - k ≤ gg ∧ i = .int .i64 (k : Nat) ∧ h = .int .i64 x ∧ wr = w)
  case atStart => exact ⟨0, _, Nat.zero_le _, by omega, rfl, rfl, rfl⟩
  case round =>
    obtain ⟨k, x, hk, hg, rfl, rfl, rfl⟩ := hrel
    by_cases hlt : k < len
    · obtain ⟨b, off, rfl, hb', hc⟩ := hb (by omega)
      obtain ⟨z, hz, cz⟩ := hc k hlt
      have j1 : (k : Int) < len := by omega
      have j0 : (0 : Int) ≤ k := by omega
      clear hb hc
      go_wp2_with fail
      go_roundg (len - (k + 1))
      case rel => exact ⟨k + 1, _, by omega, Nat.le_refl _, by go_num, rfl, rfl⟩
      case measure => omega
    · have hkn : k = len := by omega
      subst hkn
      have Hb := Lib.hid hb
      clear hb
      go_wp2_with fail
      go_ret
      exact ⟨rfl, ⟨A, k, cap, 0, x, Nat.zero_le _, hl, (Hb.out.below ((Below.refl wr.heap.size wr).alloc (Nat.le_refl _) _) (Nat.le_refl _)), Blk.new _ _ _⟩, (Below.refl _ _).alloc (Nat.le_refl _) _⟩
end Go.Proofs.Ytcjcmhoalomjfab

/- The model's drawn permutations. Condition: degrees of at most 100. -/
namespace Go.Proofs.Ytcjcmhoalomjfab
open Go.RowKit

theorem RI.cellAt {w : World} {B b o : Nat} {ys : List Int} (h : RI w B (some ⟨b, o, none⟩) ys) {j : Nat} (hj : j < ys.length) : b < B ∧ w.cell? ⟨b, o + j, none⟩ = some (.int .i64 (ys.getD j 0)) := by
  obtain ⟨b', o', e, hb, hc⟩ := h (by omega)
  injection e with e
  injection e with e1 e2
  subst e1; subst e2
  exact ⟨hb, hc j hj⟩

/-- append of readable numbers. -/
theorem wpList_appN {w : World} {ops : Array Oper} {rest : List Oper} {o : Oper} {a : Act} {Q : Exit → Act → World → Prop} (hgd : o.guard = none) (s x : Operand)
    (ho : o.op = .call { callee := .builtin .append, args := #[s, x], argTypes := #[22, 22] })
    (base : Nat) (A : Option Addr) (n c : Nat) (xs : List Int) (hs : a.eval s = .slice A n c) (hown : Slc w base A n c xs) (g off m c2 : Nat) (ys : List Int) (hx : a.eval x = .slice (some ⟨g, off, none⟩) m c2)
    (hy : RI w w.heap.size (some ⟨g, off, none⟩) ys) (ly : ys.length = m) (hn : n + m ≤ 1000000000000) (hbase : base ≤ w.heap.size)
    (h : ∀ A' c' w', Slc w' base A' (n + m) c' (xs ++ ys) → w.grownBy w' (Value.slice A n c).ownBlock → wpList Try.prog ops Q rest (a.put o.dst (.slice A' (n + m) c')) w') : wpList Try.prog ops Q (o :: rest) a w := by
  obtain ⟨i0, hi, hz0, hz1, hz2⟩ := info_parts infoI
  obtain ⟨hl, ho'⟩ := hown
  subst hl
  refine wpList_append_own w hgd s x 22 ho base 2 i0 (.int .i64 0) 1 8 Try.underlying22 hi hz0 hz1 hz2 rfl (by decide) _ xs.length _ hs ho' ⟨g, off, none⟩ m c2 (ys.map (Value.int .i64)) hx (by simp [ly]) ?_ ?_ ?_ (by omega) hbase ?_
  · intro j v hj
    have hjl : j < ys.length := by
      have := (List.getElem?_eq_some_iff.1 hj).1
      simpa using this
    have e : (⟨g, off, none⟩ : Addr).add j = ⟨g, off + j, none⟩ := by unfold Addr.add; split <;> simp_all
    rw [e, (hy.cellAt hjl).2]
    rw [List.getElem?_map, List.getElem?_eq_getElem hjl] at hj
    rw [← Option.some.inj hj, List.getD_eq_getElem?_getD, List.getElem?_eq_getElem hjl]; rfl
  · intro v hv; rw [List.mem_map] at hv; obtain ⟨u, _, rfl⟩ := hv; rfl
  · unfold maxLen; omega
  · intro v' w' hown' hg _
    have hO : Own w' base v' (xs ++ ys) := by
      unfold Own
      rw [List.length_append, List.map_append, ly]
      exact hown'
    obtain ⟨A', c', rfl, hS⟩ := Slc.of_own (n := xs.length + m) hO (by simp [ly])
    exact h A' c' w' hS hg

/-- append of readable numbers, as one step of a region that draws. -/
theorem step_appN {w : World} {ops : Array Oper} {o : Oper} {a : Act} {K : Act → World → Prop} {Q : Exit → Act → World → Prop} {E : Prop} (hgd : o.guard = none) (s x : Operand)
    (ho : o.op = .call { callee := .builtin .append, args := #[s, x], argTypes := #[22, 22] })
    (base : Nat) (A : Option Addr) (n c : Nat) (xs : List Int) (hs : a.eval s = .slice A n c) (hown : Slc w base A n c xs) (g off m c2 : Nat) (ys : List Int) (hx : a.eval x = .slice (some ⟨g, off, none⟩) m c2)
    (hy : RI w w.heap.size (some ⟨g, off, none⟩) ys) (ly : ys.length = m) (hn : n + m ≤ 1000000000000) (hbase : base ≤ w.heap.size) (N : Nat) (hN : n + m = N)
    (h : ∀ A' c' w', Slc w' base A' N c' (xs ++ ys) → w.grownBy w' (Value.slice A n c).ownBlock → K (a.put o.dst (.slice A' N c')) w') : if Region.wanted o (yielded ops a.tmps) = true then Oper.wp Try.prog o a w K Q else E := by
  have hw : Region.wanted o (yielded ops a.tmps) = true := by simp [Region.wanted, hgd]
  rw [if_pos hw]
  subst hN
  obtain ⟨i0, hi, hz0, hz1, hz2⟩ := info_parts infoI
  obtain ⟨hl, ho'⟩ := hown
  subst hl
  refine wp_append_own w s x 22 ho base 2 i0 (.int .i64 0) 1 8 Try.underlying22 hi hz0 hz1 hz2 rfl (by decide) _ xs.length _ hs ho' ⟨g, off, none⟩ m c2 (ys.map (Value.int .i64)) hx (by simp [ly]) ?_ ?_ ?_ (by omega) hbase ?_
  · intro j v hj
    have hjl : j < ys.length := by
      have := (List.getElem?_eq_some_iff.1 hj).1
      simpa using this
    have e : (⟨g, off, none⟩ : Addr).add j = ⟨g, off + j, none⟩ := by unfold Addr.add; split <;> simp_all
    rw [e, (hy.cellAt hjl).2]
    rw [List.getElem?_map, List.getElem?_eq_getElem hjl] at hj
    rw [← Option.some.inj hj, List.getD_eq_getElem?_getD, List.getElem?_eq_getElem hjl]; rfl
  · intro v hv; rw [List.mem_map] at hv; obtain ⟨u, _, rfl⟩ := hv; rfl
  · unfold maxLen; omega
  · intro v' w' hown' hg _
    have hO : Own w' base v' (xs ++ ys) := by
      unfold Own
      rw [List.length_append, List.map_append, ly]
      exact hown'
    obtain ⟨A', c', rfl, hS⟩ := Slc.of_own (n := xs.length + m) hO (by simp [ly])
    exact h A' c' w' hS hg
theorem litRI (w : World) (u : Int) : RI (w.alloc (.cells #[.int .i64 u] 2)) (w.alloc (.cells #[.int .i64 u] 2)).heap.size (some ⟨w.heap.size, 0, none⟩) [u] := (Slc.lit1 w w.heap.size u (Nat.le_refl _)).ri_
theorem RI.belowAll {w w' : World} {A : Option Addr} {xs : List Int} (h : RI w w.heap.size A xs) (hb : Below w.heap.size w w') : RI w' w'.heap.size A xs := fun hp => by
  obtain ⟨b, o, e, hbb, hc⟩ := h hp
  exact ⟨b, o, e, by have := hb.size; omega, fun j hj => (hb.cell (p := ⟨b, o + j, none⟩) hbb).trans (hc j hj)⟩

theorem grown_below2 {w w1 w' : World} {row : Option Nat} (h : w.grownBy w1 row) (b : Below w1.heap.size w1 w') : w.grownBy w' row :=
  ⟨b.os.trans h.os, b.tape.trans h.tape, b.output.trans h.output, Nat.le_trans h.size b.size, fun k hk hn => (b.block k (Nat.lt_of_lt_of_le hk h.size)).trans (h.block k hk hn)⟩
theorem below_undrew {w w' : World} (h : Below w.drew.heap.size w.drew w') : Below w.heap.size w w' := ⟨h.os, h.tape, h.output, h.size, h.block⟩
theorem below_undrewA {w w' : World} {o : Obj} (h : Below (w.drew.alloc o).heap.size (w.drew.alloc o) w') : Below (w.alloc o).heap.size (w.alloc o) w' := ⟨h.os, h.tape, h.output, h.size, h.block⟩

/-- copyInts of what can be read. -/
theorem copyRI (g off n c : Nat) (xs : List Int) (w : World) (h : RI w w.heap.size (some ⟨g, off, none⟩) xs) (lx : xs.length = n) (hn : n ≤ 1000000) :
    Calls Try.prog 78 #[.slice (some ⟨g, off, none⟩) n c] w fun e w' => ∃ A' c', e = .returned (.slice A' n c') ∧ Slc w' w.heap.size A' n c' xs ∧ Below w.heap.size w w' := by
  have H0 := Lib.hid (Slc.lit0 w w.heap.size (Nat.le_refl _))
  have H : Hid (RI (w.alloc (.cells #[] 2)) (w.alloc (.cells #[] 2)).heap.size (some ⟨g, off, none⟩) xs) := Lib.hid fun hp => by
    obtain ⟨b, o, e, hb, hc⟩ := h hp
    exact ⟨b, o, e, by simp; omega, fun j hj => by rw [World.cell?_alloc_lt w _ ⟨b, o + j, none⟩ hb]; exact hc j hj⟩
  clear h
  go_enter Try.func78, Try.ntmps78
  go_wp2_with (first | (at_builtin; refine wpList_appN rfl _ _ rfl w.heap.size (some ⟨w.heap.size, 0, none⟩) 0 0 [] rfl H0.out g off n c xs rfl H.out lx (by omega) (by simp) ?_; intro A' c' w' s1 g1))
  have S1 : Hid (Slc w' w.heap.size A' n c' xs) := Lib.hid (by simpa using s1)
  have B1 : Hid (Below w.heap.size w w') := Lib.hid (((Below.refl _ w).alloc (Nat.le_refl _) _).grown g1 (by simp) (fun k e => by simp [Value.ownBlock] at e; omega))
  clear s1 g1
  go_wp2
  go_ret
  exact ⟨_, _, by simp, S1.out, B1.out⟩

theorem grown_alloc2 {w w1 : World} {row : Option Nat} (h : w.grownBy w1 row) (o : Obj) : w.grownBy (w1.alloc o) row :=
  ⟨h.os, h.tape, h.output, Nat.le_trans h.size (by simp), fun k hk hn => (Below.heap_alloc w1 o k (Nat.lt_of_lt_of_le hk h.size)).trans (h.block k hk hn)⟩
theorem takeRI {w : World} {B q off : Nat} {xs : List Int} (h : RI w B (some ⟨q, off, none⟩) xs) (r : Nat) : RI w B (some ⟨q, off, none⟩) (xs.take r) := fun hp => by
  have hl : (xs.take r).length ≤ xs.length := by rw [List.length_take]; omega
  obtain ⟨b, o, e, hb, hc⟩ := h (by omega)
  refine ⟨b, o, e, hb, fun j hj => ?_⟩
  rw [hc j (by omega)]
  have : (xs.take r).getD j 0 = xs.getD j 0 := by
    rw [List.length_take] at hj
    rw [List.getD_eq_getElem?_getD, List.getElem?_take, if_pos (by omega), ← List.getD_eq_getElem?_getD]
  rw [this]
theorem dropRI {w w' : World} {base q k c r off : Nat} {xs : List Int} (h : Slc w base (some ⟨q, 0, none⟩) k c xs) (hb : Below w.heap.size w w') (ho : r < k → off = r) : RI w' w'.heap.size (some ⟨q, off, none⟩) (xs.drop r) := fun hp => by
  have lx := h.1
  rw [List.length_drop] at hp
  obtain rfl := ho (by omega)
  have hri : RI w w.heap.size (some ⟨q, 0, none⟩) xs := h.ri_
  have hq := (h.lt_ q rfl).2
  refine ⟨q, _, rfl, by have := hb.size; omega, fun j hj => ?_⟩
  rw [List.length_drop] at hj
  rw [hb.cell (p := ⟨q, _, none⟩) hq]
  have := (hri.cellAt (j := off + j) (by omega)).2
  rw [Nat.zero_add] at this
  rw [this, List.getD_eq_getElem?_getD, List.getD_eq_getElem?_getD, List.getElem?_drop]

set_option maxRecDepth 100000 in
set_option maxHeartbeats 2000000 in
theorem drawPerm (g n : Nat) (w : World) (hs : Src w g) (hn : n ≤ 100) :
    Calls Try.prog 82 #[.pointer (some ⟨g, 0, none⟩), .int .i64 (n : Int)] w fun e w' => ∃ q c xs, e = .returned (.slice (some ⟨q, 0, none⟩) n c) ∧ Slc w' w.heap.size (some ⟨q, 0, none⟩) n c xs ∧ Src w' g ∧ w.grownBy w' (some g) := by
  have Hs := Lib.hid hs
  have hg := hs.lt
  clear hs
  go_enter Try.func82, Try.ntmps82
  go_wp2_with fail
  go_loopg [5, 6, 7] n (fun gg v i _ wr => ∃ k q c xs, k ≤ n ∧ n - k ≤ gg ∧ i = .int .i64 (k : Nat) ∧ v = .slice (some ⟨q, 0, none⟩) k c ∧ Slc wr w.heap.size (some ⟨q, 0, none⟩) k c xs ∧ Src wr g ∧ w.grownBy wr (some g))
  case atStart => exact ⟨0, _, _, [], Nat.zero_le _, by omega, rfl, rfl, Slc.lit0 w _ (Nat.le_refl _), Hs.out.below ((Below.refl w.heap.size w).alloc (Nat.le_refl _) _) hg, grown_alloc2 (grown_refl _ _) _⟩
  case round =>
    obtain ⟨k, q, c, xs, hk, hgg, rfl, rfl, sl, src, gro⟩ := hrel
    have Sl := Lib.hid sl
    have Sr := Lib.hid src
    have Gr := Lib.hid gro
    have hkc := sl.le.1
    clear sl src gro
    by_cases hlt : k < n
    · go_wp2_with fail
      refine (srcBelow g _ (k + 1) wr Sr.out (by push_cast; rfl) (by omega) (by omega)).mono ?_
      rintro e w1 ⟨r, hr, rfl, s1, g1⟩
      have Sr1 := Lib.hid s1
      have Gr1 : Hid (w.grownBy w1 (some g)) := Lib.hid (grown_trans' Gr.out g1)
      have Sl1 : Hid (Slc w1 w.heap.size (some ⟨q, 0, none⟩) k c xs) := Lib.hid (Sl.out.kept g1 (.inr (by have := (Sl.out.lt_ q rfl).1; intro e; simp [Value.ownBlock] at e; omega)))
      have p0 : (0 : Int) ≤ r := by omega
      have p1 : (r : Int) ≤ k := by omega
      have p2 : (r : Int) ≤ c := by omega
      have p3 : r ≤ k := by omega
      have p4 : r ≤ c := by omega
      have lxs : xs.length = k := Sl1.out.1
      have RIt : Hid (RI w1 w1.heap.size (some ⟨q, 0, none⟩) (xs.take r)) := Lib.hid (takeRI Sl1.out.ri_ r)
      have ltk : Hid ((xs.take r).length = r) := Lib.hid (by rw [List.length_take]; omega)
      have ldr : Hid ((xs.drop r).length = k - r) := Lib.hid (by rw [List.length_drop]; omega)
      have hwb := Gr1.out.size
      clear s1 g1 lxs
      have RItA : Hid (RI (w1.alloc (.cells #[.int .i64 (k : Int)] 2)) (w1.alloc (.cells #[.int .i64 (k : Int)] 2)).heap.size (some ⟨q, 0, none⟩) (xs.take r)) := Lib.hid (RIt.out.belowAll ((Below.refl _ _).alloc (Nat.le_refl _) _))
      have Lit : Hid (RI (w1.alloc (.cells #[.int .i64 (k : Int)] 2)) (w1.alloc (.cells #[.int .i64 (k : Int)] 2)).heap.size (some ⟨w1.heap.size, 0, none⟩) [(k : Int)]) := Lib.hid (litRI w1 k)
      have DrX : Hid (∀ w3 : World, Below w1.heap.size w1 w3 → RI w3 w3.heap.size (some ⟨q, r, none⟩) (xs.drop r)) := Lib.hid fun w3 hb => dropRI Sl1.out hb fun _ => rfl
      have ld0 : Hid (c = r → (xs.drop r).length = 0) := Lib.hid fun e => by have := ldr.out; omega
      have Dr0 : Hid (c = r → ∀ w3 : World, Below w1.heap.size w1 w3 → RI w3 w3.heap.size (some ⟨q, 0, none⟩) (xs.drop r)) := Lib.hid fun e w3 hb => dropRI Sl1.out hb fun h => by omega
      by_cases hcr : c = r
      · obtain rfl : k = r := by omega
        subst hcr
        go_wp2_with fail
        go_region_law (first
          | (refine step_appN rfl (.tmp 21) (.tmp 23) rfl w1.heap.size A2 c c2 (xs.take c) ?_ (s2.alloc _) w2.heap.size 0 1 1 [(c : Int)] ?_ (litRI w2 c) rfl ?_ ?_ (c + 1) rfl ?_; (simp [Act.eval, Act.put]); (simp [Act.eval, Act.put]); (omega); (have hz := b2.size; simp at hz ⊢; omega); (intro A3 c3 w3 s3 g3; have bb : Below w1.heap.size w1 w3 := (Below.alloc b2 b2.size _).grown g3 (by have hz := b2.size; simp at hz ⊢; omega) (fun j hj => (s2.lt_ j hj).1)))
          | (refine step_appN rfl (.tmp 21) (.tmp 23) rfl w1.heap.size A2 c c2 (xs.take c) ?_ (s2.mono (by simp)) w1.heap.size 0 1 1 [(c : Int)] ?_ (Lit.out.belowAll b2) rfl ?_ ?_ (c + 1) rfl ?_; (simp [Act.eval, Act.put]); (simp [Act.eval, Act.put]); (omega); (have hz := b2.size; simp at hz ⊢; omega); (intro A3 c3 w3 s3 g3; have bb : Below w1.heap.size w1 w3 := (btr ((Below.refl w1.heap.size w1).alloc (Nat.le_refl _) _) b2).grown g3 (by have hz := b2.size; simp at hz ⊢; omega) (fun j hj => Nat.le_trans (by simp) (s2.lt_ j hj).1)))
          | (refine step_appN rfl (.tmp 24) (.tmp 27) rfl w1.heap.size A3 (c + 1) c3 _ ?_ s3 q 0 0 0 (xs.drop c) ?_ (Dr0.out trivial _ bb) (ld0.out trivial) ?_ ?_ (c + 1) ?_ ?_; (simp [Act.eval, Act.put]); (simp [Act.eval, Act.put]); (omega); (have hz := bb.size; omega); (omega); (intro A4 c4 w4 s4 g4))
          | (go_simp; go_wp2_with (go_at_call 78; (first | refine (copyRI q 0 c _ (xs.take c) w1.drew RIt.out ltk.out (by omega)).mono ?_ | refine (copyRI q 0 c _ (xs.take c) (w1.alloc (.cells #[.int .i64 (c : Int)] 2)).drew RItA.out ltk.out (by omega)).mono ?_); rintro e w2 ⟨A2, c2, rfl, s2, b20⟩; have b2 := below_undrew b20; clear b20)))
        all_goals
          have B4 : Hid (Below w1.heap.size w1 w4) := Lib.hid (bb.grown g4 bb.size (fun j hj => (s3.lt_ j hj).1))
          have Sr4 := Lib.hid (Sr1.out.below B4.out (Nat.lt_of_lt_of_le hg hwb))
          have Gr4 := Lib.hid (grown_below2 Gr1.out B4.out)
          obtain ⟨q4, e4⟩ : ∃ q4, A4 = some ⟨q4, 0, none⟩ := by
            rcases s4.at_ with ⟨_, _, e0, _⟩ | ⟨q4, e0, _, _⟩
            · omega
            · exact ⟨q4, e0⟩
          subst e4
          have S4 := Lib.hid (s4.mono hwb)
          clear s4 g4 s3 g3 s2 b2 bb
          go_wp2_with fail
          go_roundg (n - (c + 1))
          case rel => exact ⟨c + 1, _, _, _, by omega, Nat.le_refl _, by go_num, rfl, S4.out, Sr4.out, Gr4.out⟩
          case measure => omega
      · go_wp2_with fail
        go_region_law (first
          | (refine step_appN rfl (.tmp 21) (.tmp 23) rfl w1.heap.size A2 r c2 (xs.take r) ?_ (s2.alloc _) w2.heap.size 0 1 1 [(k : Int)] ?_ (litRI w2 k) rfl ?_ ?_ (r + 1) rfl ?_; (simp [Act.eval, Act.put]); (simp [Act.eval, Act.put]); (omega); (have hz := b2.size; simp at hz ⊢; omega); (intro A3 c3 w3 s3 g3; have bb : Below w1.heap.size w1 w3 := (Below.alloc b2 b2.size _).grown g3 (by have hz := b2.size; simp at hz ⊢; omega) (fun j hj => (s2.lt_ j hj).1)))
          | (refine step_appN rfl (.tmp 21) (.tmp 23) rfl w1.heap.size A2 r c2 (xs.take r) ?_ (s2.mono (by simp)) w1.heap.size 0 1 1 [(k : Int)] ?_ (Lit.out.belowAll b2) rfl ?_ ?_ (r + 1) rfl ?_; (simp [Act.eval, Act.put]); (simp [Act.eval, Act.put]); (omega); (have hz := b2.size; simp at hz ⊢; omega); (intro A3 c3 w3 s3 g3; have bb : Below w1.heap.size w1 w3 := (btr ((Below.refl w1.heap.size w1).alloc (Nat.le_refl _) _) b2).grown g3 (by have hz := b2.size; simp at hz ⊢; omega) (fun j hj => Nat.le_trans (by simp) (s2.lt_ j hj).1)))
          | (refine step_appN rfl (.tmp 24) (.tmp 27) rfl w1.heap.size A3 (r + 1) c3 _ ?_ s3 q r (k - r) (c - r) (xs.drop r) ?_ (DrX.out _ bb) ldr.out ?_ ?_ (k + 1) ?_ ?_; (simp [Act.eval, Act.put]); (simp [Act.eval, Act.put]); (omega); (have hz := bb.size; omega); (omega); (intro A4 c4 w4 s4 g4))
          | (go_simp; go_wp2_with (go_at_call 78; (first | refine (copyRI q 0 r _ (xs.take r) w1.drew RIt.out ltk.out (by omega)).mono ?_ | refine (copyRI q 0 r _ (xs.take r) (w1.alloc (.cells #[.int .i64 (k : Int)] 2)).drew RItA.out ltk.out (by omega)).mono ?_); rintro e w2 ⟨A2, c2, rfl, s2, b20⟩; have b2 := below_undrew b20; clear b20)))
        all_goals
          have B4 : Hid (Below w1.heap.size w1 w4) := Lib.hid (bb.grown g4 bb.size (fun j hj => (s3.lt_ j hj).1))
          have Sr4 := Lib.hid (Sr1.out.below B4.out (Nat.lt_of_lt_of_le hg hwb))
          have Gr4 := Lib.hid (grown_below2 Gr1.out B4.out)
          obtain ⟨q4, e4⟩ : ∃ q4, A4 = some ⟨q4, 0, none⟩ := by
            rcases s4.at_ with ⟨_, _, e0, _⟩ | ⟨q4, e0, _, _⟩
            · omega
            · exact ⟨q4, e0⟩
          subst e4
          have S4 := Lib.hid (s4.mono hwb)
          clear s4 g4 s3 g3 s2 b2 bb
          go_wp2_with fail
          go_roundg (n - (k + 1))
          case rel => exact ⟨k + 1, _, _, _, by omega, Nat.le_refl _, by go_num, rfl, S4.out, Sr4.out, Gr4.out⟩
          case measure => omega
    · have hkn : k = n := by omega
      subst hkn
      go_wp2_with fail
      go_ret
      exact ⟨_, _, _, rfl, Sl.out, Sr.out, Gr.out⟩
end Go.Proofs.Ytcjcmhoalomjfab
