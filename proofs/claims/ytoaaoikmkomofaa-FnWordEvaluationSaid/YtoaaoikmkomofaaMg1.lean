/- Part 1 of the texts: Base, Help, Math, Perm, Ident, Comp, Inv, GrpM, ChM, ChS, SS. No condition of its own: each text tells its own. -/
import Derived.WalkKit
import Derived.Test.YtoaaoikmkomofaaProg
import Derived.Maps.AppendAt
import Derived.Deep.Draws
import Derived.Lib.Hide
import Derived.Deep.QuietTactic
import Derived.BigQuiet
import Derived.WalkSpells
set_option linter.unusedVariables false
set_option linter.unusedSimpArgs false

/- Words for the walks of this seat: a slice of int64 that reads as a list; a row of the call's own; how both are kept. No condition. -/
namespace Go.Proofs.Ytoaaoikmkomofaa
open Go.RowKit

/-- The slice at A reads as the numbers xs, in blocks below B. -/
def RI (w : World) (B : Nat) (A : Option Addr) (xs : List Int) : Prop :=
  0 < xs.length → ∃ b off, A = some ⟨b, off, none⟩ ∧ b < B ∧ ∀ j, j < xs.length → w.cell? ⟨b, off + j, none⟩ = some (.int .i64 (xs.getD j 0))

section
variable {w w' : World} {B B' : Nat} {A : Option Addr} {xs : List Int}
theorem RI.nil_ : RI w B A [] := fun h => absurd h (by simp)
theorem RI.keep (h : RI w B A xs) (hk : ∀ p : Addr, p.block < B → w'.cell? p = w.cell? p) : RI w' B A xs := fun hn => by
  obtain ⟨b, off, e, hb, hc⟩ := h hn
  exact ⟨b, off, e, hb, fun j hj => (hk ⟨b, off + j, none⟩ hb).trans (hc j hj)⟩
theorem RI.more (h : RI w B A xs) (hB : B ≤ B') : RI w B' A xs := fun hn => by
  obtain ⟨b, off, e, hb, hc⟩ := h hn
  exact ⟨b, off, e, by omega, hc⟩
theorem RI.below (h : RI w B A xs) {B' : Nat} (hb : Below B' w w') (hB : B ≤ B') : RI w' B A xs := h.keep fun _ hp => hb.cell (by omega)
theorem RI.drew (h : RI w B A xs) : RI w.drew B A xs := h
theorem RI.drewN (h : RI w B A xs) (k : Nat) : RI (w.drewN k) B A xs := h
theorem RI.alloc (h : RI w B A xs) (hB : B ≤ w.heap.size) (o : Obj) : RI (w.alloc o) B A xs := h.keep fun p hp => World.cell?_alloc_lt w o p (by omega)
theorem RI.setCell (h : RI w B A xs) {p : Addr} (hB : B ≤ p.block) (u : Value) : RI (w.setCell p u) B A xs :=
  h.keep fun q hq => World.cell?_setCell_other w p q u (fun e => by subst e; omega)
theorem RI.grown (h : RI w B A xs) {row : Option Nat} (hg : w.grownBy w' row) (hB : B ≤ w.heap.size) (hr : ∀ g, row = some g → B ≤ g) : RI w' B A xs :=
  h.keep fun p hp => World.cell?_of_block (hg.block p.block (by omega) (fun e => by have := hr _ e.symm; omega))
end

/-- v is a row of the call's own, from block base on, that holds the numbers xs. -/
def Own (w : World) (base : Nat) (v : Value) (xs : List Int) : Prop := w.ownsRow base 2 1 v xs.length (xs.map (Value.int .i64))

section
variable {w w' : World} {base B : Nat} {v : Value} {xs : List Int}
/-- The value written out: its address, its capacity; it reads as xs. -/
theorem Own.form (h : Own w base v xs) : ∃ A c, v = .slice A xs.length c ∧ RI w w.heap.size A xs ∧ (∀ b off, A = some ⟨b, off, none⟩ → base ≤ b ∧ b < w.heap.size ∧ off = 0) ∧ (A = none → xs = [] ∧ c = 0) ∧ xs.length ≤ maxLen := by
  rcases h.2 with ⟨rfl, h0⟩ | ⟨g, cap, cur, rfl, hb, hg, hn, hm, hcs, htake⟩
  · obtain rfl : xs = [] := List.eq_nil_of_length_eq_zero h0
    exact ⟨none, 0, rfl, RI.nil_, fun _ _ e => (nomatch e), fun _ => ⟨rfl, rfl⟩, Nat.zero_le _⟩
  · have hlt : g < w.heap.size := (Array.getElem?_eq_some_iff.1 hg).1
    refine ⟨some ⟨g, 0, none⟩, cap, rfl, fun _ => ⟨g, 0, rfl, hlt, fun j hj => ?_⟩, fun b off e => (by injection e with e; injection e with e1 e2; subst e1; subst e2; exact ⟨hb, hlt, rfl⟩), fun e => (nomatch e), Nat.le_trans hn hm⟩
    have := h.cells (g := g) rfl j (.int .i64 (xs.getD j 0)) (by rw [List.getElem?_map, List.getD_eq_getElem?_getD, List.getElem?_eq_getElem hj]; rfl)
    rw [← this]
    unfold Addr.add
    split <;> simp_all
theorem Own.kept (h : Own w base v xs) {row : Option Nat} (hg : w.grownBy w' row) (hne : v.ownBlock = none ∨ v.ownBlock ≠ row) : Own w' base v xs := World.ownsRow.kept h hg hne
theorem Own.alloc (h : Own w base v xs) (o : Obj) : Own (w.alloc o) base v xs := World.ownsRow.alloc h o
theorem Own.below (h : Own w base v xs) (hb : Below B w w') (hv : ∀ k, v.ownBlock = some k → k < B) : Own w' base v xs := by
  refine ⟨h.1, ?_⟩
  rcases h.2 with hn | ⟨g, cap, cur, rfl, hb', hg, rest⟩
  · exact .inl hn
  · exact .inr ⟨g, cap, cur, rfl, hb', by rw [hb.block g (hv g rfl)]; exact hg, rest⟩
theorem Own.drewN (h : Own w base v xs) (n : Nat) : Own (w.drewN n) base v xs := h
theorem Own.mono (h : Own w base v xs) {base' : Nat} (hb : base' ≤ base) : Own w base' v xs := by
  refine ⟨h.1, ?_⟩
  rcases h.2 with hn | ⟨g, cap, cur, rfl, hb', rest⟩
  · exact .inl hn
  · exact .inr ⟨g, cap, cur, rfl, by omega, rest⟩
theorem Own.lt_ (h : Own w base v xs) : ∀ k, v.ownBlock = some k → base ≤ k ∧ k < w.heap.size := World.ownsRow.lt h
end

/-- The slice value '.slice A n c' is a row of the call's own, from block base on; it holds the numbers xs. -/
def Slc (w : World) (base : Nat) (A : Option Addr) (n c : Nat) (xs : List Int) : Prop := xs.length = n ∧ Own w base (.slice A n c) xs
section
variable {w w' : World} {base n c B : Nat} {A : Option Addr} {xs : List Int}
theorem Slc.hid (h : Slc w base A n c xs) : Hid (xs.length = n) := Lib.hid h.1
theorem Slc.of_own {v : Value} (h : Own w base v xs) (hn : xs.length = n) : ∃ A c, v = .slice A n c ∧ Slc w base A n c xs := by
  subst hn
  obtain ⟨A, c, rfl, _⟩ := h.form
  exact ⟨A, c, rfl, rfl, h⟩
theorem Slc.ri (h : Slc w base A n c xs) (hB : w.heap.size ≤ B) : RI w B A xs := by
  obtain ⟨A', c', e, r, _⟩ := h.2.form
  injection e with e1 e2 e3
  subst e1
  exact r.more hB
theorem Slc.le (h : Slc w base A n c xs) : n ≤ c ∧ n ≤ maxLen := by
  rcases h.2.2 with ⟨e, h0⟩ | ⟨g, cap, cur, e, hb, hg, hn, hm, hcs, htake⟩
  · injection e with e1 e2 e3; subst e2; subst e3; exact ⟨Nat.zero_le _, Nat.zero_le _⟩
  · injection e with e1 e2 e3; subst e2; subst e3; exact ⟨hn, Nat.le_trans hn hm⟩
theorem Slc.at_ (h : Slc w base A n c xs) : (A = none ∧ xs = [] ∧ n = 0 ∧ c = 0) ∨ ∃ g, A = some ⟨g, 0, none⟩ ∧ base ≤ g ∧ g < w.heap.size := by
  rcases h.2.2 with ⟨e, h0⟩ | ⟨g, cap, cur, e, hb, hg, hn, hm, hcs, htake⟩
  · injection e with e1 e2 e3; exact .inl ⟨e1, List.eq_nil_of_length_eq_zero h0, e2, e3⟩
  · injection e with e1 e2 e3; exact .inr ⟨g, e1, hb, (Array.getElem?_eq_some_iff.1 hg).1⟩
theorem Slc.lt_ (h : Slc w base A n c xs) : ∀ k, (Value.slice A n c).ownBlock = some k → base ≤ k ∧ k < w.heap.size := h.2.lt_
theorem Slc.kept (h : Slc w base A n c xs) {row : Option Nat} (hg : w.grownBy w' row) (hne : (Value.slice A n c).ownBlock = none ∨ (Value.slice A n c).ownBlock ≠ row) : Slc w' base A n c xs := ⟨h.1, h.2.kept hg hne⟩
theorem Slc.below (h : Slc w base A n c xs) (hb : Below B w w') (hB : w.heap.size ≤ B) : Slc w' base A n c xs := ⟨h.1, h.2.below hb fun k e => by have := (h.lt_ k e).2; omega⟩
theorem Slc.below_lt (h : Slc w base A n c xs) (hb : Below B w w') (hB : ∀ k, (Value.slice A n c).ownBlock = some k → k < B) : Slc w' base A n c xs := ⟨h.1, h.2.below hb hB⟩
theorem Slc.mono (h : Slc w base A n c xs) {base' : Nat} (hb : base' ≤ base) : Slc w base' A n c xs := ⟨h.1, h.2.mono hb⟩
theorem Slc.alloc (h : Slc w base A n c xs) (o : Obj) : Slc (w.alloc o) base A n c xs := ⟨h.1, h.2.alloc o⟩
theorem Slc.drewN (h : Slc w base A n c xs) (k : Nat) : Slc (w.drewN k) base A n c xs := h
theorem Slc.nil_ : Slc w base none 0 0 [] := ⟨rfl, World.ownsRow_nil _ _ _ _⟩
end

/-- What the frame of a proof knows of a slice of int64 that came in, as RI. -/
theorem RI.of_row {w : World} {a : Option Addr} {len cap : Nat} {zs : List Int}
    (h : (a = none ∧ len = 0 ∧ cap = 0 ∧ zs = []) ∨ ∃ x, a = some x ∧ len ≤ cap ∧ cap ≤ maxLen ∧ zs.length = cap ∧ (∀ i, i < zs.length → w.cell? (x.add i) = some (.int .i64 (zs.getD i 0))) ∧ ∀ n ∈ zs, (Lit.int .i64 n).wf = true) :
    ∃ xs : List Int, Hid (xs.length = len) ∧ RI w w.heap.size a xs := by
  rcases h with ⟨rfl, rfl, rfl, rfl⟩ | ⟨⟨b, off, spot⟩, rfl, hl, hm, hz, hc, hw⟩
  · exact ⟨[], Lib.hid rfl, RI.nil_⟩
  · refine ⟨zs.take len, Lib.hid (by rw [List.length_take]; omega), fun hp => ?_⟩
    rw [List.length_take] at hp
    have h0 := hc 0 (by omega)
    have hspot : spot = none := by simpa [Addr.add] using World.cell?_spot h0
    subst hspot
    refine ⟨b, off, rfl, ?_, fun j hj => ?_⟩
    · have := World.block_lt_of_cell? w _ h0
      simpa [Addr.add] using this
    · rw [List.length_take] at hj
      rw [List.getD_eq_getElem?_getD, List.getElem?_take, if_pos (by omega), ← List.getD_eq_getElem?_getD, ← hc j (by omega)]
      unfold Addr.add
      split <;> simp_all

/-- A row at the head of block g, of length n, that holds the numbers xs. -/
def Row (w : World) (base g n c : Nat) (xs : List Int) : Prop := xs.length = n ∧ w.ownsRow base 2 1 (.slice (some ⟨g, 0, none⟩) n c) n (xs.map (Value.int .i64))
section
variable {w w' : World} {base g n c B : Nat} {xs : List Int}
theorem Row.own (h : Row w base g n c xs) : Own w base (.slice (some ⟨g, 0, none⟩) n c) xs := by
  obtain ⟨rfl, h⟩ := h; exact h
theorem Row.slc (h : Row w base g n c xs) : Slc w base (some ⟨g, 0, none⟩) n c xs := ⟨h.1, by obtain ⟨rfl, h⟩ := h; exact h⟩
theorem Row.of_own (h : Own w base (.slice (some ⟨g, 0, none⟩) n c) xs) : Row w base g n c xs := by
  obtain ⟨A, c', e, _⟩ := h.form
  injection e with _ e1
  subst e1
  exact ⟨rfl, h⟩
theorem Row.cell (h : Row w base g n c xs) {j : Nat} (hj : j < n) : w.cell? ⟨g, j, none⟩ = some (.int .i64 (xs.getD j 0)) := by
  have hl := h.1
  rw [h.2.cellAt j (by omega), List.getElem?_map, List.getD_eq_getElem?_getD, List.getElem?_eq_getElem (by omega)]; rfl
theorem Row.free (h : Row w base g n c xs) (j : Nat) : w.frozen? ⟨g, j, none⟩ = false := h.2.frozenAt j
theorem Row.store (h : Row w base g n c xs) (j : Nat) (u : Int) : Row (w.setCell ⟨g, j, none⟩ (.int .i64 u)) base g n c (xs.set j u) := by
  refine ⟨by rw [List.length_set]; exact h.1, ?_⟩
  rw [List.map_set]
  exact (h.2.stored j _).1
theorem Row.lt_ (h : Row w base g n c xs) : base ≤ g ∧ g < w.heap.size := World.ownsRow.lt h.2 g rfl
theorem Row.ri (h : Row w base g n c xs) (hB : g < B) : RI w B (some ⟨g, 0, none⟩) xs := fun _ => ⟨g, 0, rfl, hB, fun j hj => by rw [Nat.zero_add]; exact h.cell (by have := h.1; omega)⟩
theorem Row.kept (h : Row w base g n c xs) {row : Option Nat} (hg : w.grownBy w' row) (hne : some g ≠ row) : Row w' base g n c xs := ⟨h.1, World.ownsRow.kept h.2 hg (.inr hne)⟩
theorem Row.alloc (h : Row w base g n c xs) (o : Obj) : Row (w.alloc o) base g n c xs := ⟨h.1, World.ownsRow.alloc h.2 o⟩
theorem Row.drew (h : Row w base g n c xs) : Row w.drew base g n c xs := h
theorem Row.drewN (h : Row w base g n c xs) (k : Nat) : Row (w.drewN k) base g n c xs := h
theorem Row.below (h : Row w base g n c xs) (hb : Below B w w') (hg : g < B) : Row w' base g n c xs :=
  Row.of_own (h.own.below hb fun k e => by simp [Value.ownBlock] at e; omega)
theorem Row.mono (h : Row w base g n c xs) {base' : Nat} (hb : base' ≤ base) : Row w base' g n c xs := ⟨h.1, (Own.mono h.own hb).1.trans (by rw [h.1]), by have := (Own.mono h.own hb).2; rw [h.1] at this; exact this⟩
theorem Row.made (h : w.ownsRow base 2 1 (.slice (some ⟨g, 0, none⟩) n c) n (madeCells (Value.int .i64 0).cells (n * 1)).toList) : Row w base g n c (List.replicate n 0) := by
  refine ⟨by simp, ?_⟩
  have e : (madeCells (Value.int .i64 0).cells (n * 1)).toList = (List.replicate n (0 : Int)).map (Value.int .i64) := by
    show (madeCells #[Value.int .i64 0] (n * 1)).toList = _
    rw [toList_madeCells_one]; simp
  rw [← e]; exact h
end

/-- Where a slice's block may lie: from lo on, below hi. -/
def Lies (A : Option Addr) (n c lo hi : Nat) : Prop := ∀ k, (Value.slice A n c).ownBlock = some k → lo ≤ k ∧ k < hi
theorem Slc.lies {w : World} {base n c : Nat} {A : Option Addr} {xs : List Int} (h : Slc w base A n c xs) : Lies A n c base w.heap.size := h.lt_
theorem Lies.apart {A A' : Option Addr} {n c n' c' lo hi lo' hi' : Nat} (h : Lies A n c lo hi) (h' : Lies A' n' c' lo' hi') (hb : hi ≤ lo' ∨ hi' ≤ lo) :
    (Value.slice A n c).ownBlock = none ∨ (Value.slice A n c).ownBlock ≠ (Value.slice A' n' c').ownBlock := by
  rcases e : (Value.slice A n c).ownBlock with _ | k
  · exact .inl rfl
  · right
    intro e'
    have := h k e
    have := h' k e'.symm
    omega
theorem Slc.far {w w' : World} {base n c lo hi n' c' lo' hi' : Nat} {A A' : Option Addr} {xs : List Int} (h : Slc w base A n c xs) (hg : w.grownBy w' (Value.slice A' n' c').ownBlock)
    (l : Lies A n c lo hi) (l' : Lies A' n' c' lo' hi') (hb : hi ≤ lo' ∨ hi' ≤ lo) : Slc w' base A n c xs := h.kept hg (l.apart l' hb)
theorem below_mark {B : Nat} {w w' : World} {n c lo hi : Nat} {A : Option Addr} (hg : w.grownBy w' (Value.slice A n c).ownBlock) (l : Lies A n c lo hi) (hB : B ≤ lo) (hw : B ≤ w.heap.size) : Below B w w' :=
  (Below.refl B w).grown hg hw (fun k e => by have := l k e; omega)

/-- Block g is just the cells cs of type t, none frozen. -/
def Blk (w : World) (g : Nat) (t : TypeId) (cs : Array Value) : Prop := w.heap[g]? = some (.cells cs t (0, 0))
section
variable {w w' : World} {g : Nat} {t : TypeId} {cs : Array Value}
theorem Blk.lt (h : Blk w g t cs) : g < w.heap.size := by
  rcases Nat.lt_or_ge g w.heap.size with hlt | hge
  · exact hlt
  · unfold Blk at h; rw [Array.getElem?_eq_none hge] at h; cases h
theorem Blk.cell (h : Blk w g t cs) (i : Nat) : w.cell? ⟨g, i, none⟩ = cs[i]? := cell_of_row w g i cs t (0, 0) h
theorem Blk.frozen (h : Blk w g t cs) (i : Nat) : w.frozen? ⟨g, i, none⟩ = false := by
  unfold Blk at h
  simp [World.frozen?, h]
theorem Blk.new (w : World) (t : TypeId) (cs : Array Value) : Blk (w.alloc (.cells cs t)) w.heap.size t cs := heap_alloc_new w _
theorem Blk.drewN (h : Blk w g t cs) (n : Nat) : Blk (w.drewN n) g t cs := h
theorem Blk.alloc (h : Blk w g t cs) (o : Obj) : Blk (w.alloc o) g t cs := (Below.heap_alloc w o g h.lt).trans h
theorem Blk.set_ (h : Blk w g t cs) (i : Nat) (u : Value) : Blk (w.setCell ⟨g, i, none⟩ u) g t (cs.setIfInBounds i u) := by
  unfold Blk at h ⊢
  simp [World.setCell, Array.getElem?_modify, h]
theorem Blk.far (h : Blk w g t cs) {p : Addr} (hp : g ≠ p.block) (u : Value) : Blk (w.setCell p u) g t cs := (Below.heap_setCell w p u g hp).trans h
theorem Blk.below {B : Nat} (h : Blk w g t cs) (hb : Below B w w') (hg : g < B) : Blk w' g t cs := (hb.block g hg).trans h
theorem Blk.grown {row : Option Nat} (h : Blk w g t cs) (hb : w.grownBy w' row) (hg : some g ≠ row) : Blk w' g t cs := (hb.block g h.lt hg).trans h
end

theorem quiet_add {P : Program} {f : FuncId} {args : Array Value} {w : World} {a n : Nat} {v : Value}
    (h : Calls P f args (w.drewN (a + n)) fun e w' => e = .returned v ∧ ∃ m, w' = (w.drewN (a + n)).drewN m) :
    Calls P f args (w.drewN (a + n)) fun e w'' => e = .returned v ∧ ∃ m, w'' = w.drewN (a + m) :=
  h.mono fun _ _ ⟨he, m, hm⟩ => ⟨he, n + m, by rw [hm, World.drewN_drewN, Nat.add_assoc]⟩
theorem quiet_add_left {P : Program} {f : FuncId} {args : Array Value} {w : World} {a n : Nat} {v : Value}
    (h : Calls P f args (w.drewN (a + n)) fun e w' => e = .returned v ∧ w.drewN (a + n) = w') :
    Calls P f args (w.drewN (a + n)) fun e w'' => e = .returned v ∧ ∃ m, w'' = w.drewN (a + m) :=
  h.mono fun _ _ ⟨he, hm⟩ => ⟨he, n, hm.symm⟩
theorem quiet_left {P : Program} {f : FuncId} {args : Array Value} {w : World} {n : Nat} {v : Value}
    (h : Calls P f args (w.drewN n) fun e w' => e = .returned v ∧ w.drewN n = w') : Calls P f args (w.drewN n) fun e w'' => e = .returned v ∧ ∃ m, w'' = w.drewN m :=
  h.mono fun _ _ ⟨he, hm⟩ => ⟨he, n, hm.symm⟩
theorem btr {a b c : World} (h : Below a.heap.size a b) (k : Below b.heap.size b c) : Below a.heap.size a c := h.trans (k.mono h.size)
theorem quiet_below {P : Program} {f : FuncId} {args : Array Value} {w : World} {e0 : Ending}
    (h : Calls P f args w fun e w' => e = e0 ∧ ∃ m, w' = w.drewN m) : Calls P f args w fun e w' => e = e0 ∧ Below w.heap.size w w' :=
  h.mono fun _ _ ⟨he, m, hm⟩ => ⟨he, by rw [hm]; exact ⟨rfl, rfl, rfl, Nat.le_refl _, fun _ _ => rfl⟩⟩
/-- What came in still reads so behind the call. -/
theorem RI.up {w w' : World} {A : Option Addr} {xs : List Int} (h : RI w w.heap.size A xs) (hb : Below w.heap.size w w') : RI w' w'.heap.size A xs := (h.below hb (Nat.le_refl _)).more hb.size
theorem Slc.up {w w' : World} {base n c : Nat} {A : Option Addr} {xs : List Int} (h : Slc w base A n c xs) (hb : Below w.heap.size w w') : Slc w' base A n c xs := h.below hb (Nat.le_refl _)
theorem Slc.ri_ {w : World} {base n c : Nat} {A : Option Addr} {xs : List Int} (h : Slc w base A n c xs) : RI w w.heap.size A xs := h.ri (Nat.le_refl _)
theorem infoI : (Try.prog.info? 2).map (fun i => (i.zero, i.size, i.bytes)) = some (some (.int .i64 0), 1, 8) := by kernel_rfl

/-- append of one number onto a slice of the call's own. -/
theorem wpList_app1 {w : World} {ops : Array Oper} {rest : List Oper} {o : Oper} {a : Act} {Q : Exit → Act → World → Prop} (hgd : o.guard = none) (s x : Operand)
    (ho : o.op = .call { callee := .builtin .append, args := #[s, x], argTypes := #[25, 25] })
    (base : Nat) (A : Option Addr) (n c : Nat) (xs : List Int) (hs : a.eval s = .slice A n c) (hown : Slc w base A n c xs) (g : Nat) (u : Int) (hx : a.eval x = .slice (some ⟨g, 0, none⟩) 1 1)
    (hcell : w.cell? ⟨g, 0, none⟩ = some (.int .i64 u)) (hn : n ≤ 1000000000000) (hbase : base ≤ w.heap.size)
    (h : ∀ A' c' w', Slc w' base A' (n + 1) c' (xs ++ [u]) → w.grownBy w' (Value.slice A n c).ownBlock → wpList Try.prog ops Q rest (a.put o.dst (.slice A' (n + 1) c')) w') : wpList Try.prog ops Q (o :: rest) a w := by
  obtain ⟨i0, hi, hz0, hz1, hz2⟩ := info_parts infoI
  obtain ⟨hl, ho'⟩ := hown
  subst hl
  refine wpList_append_own w hgd s x 25 ho base 2 i0 (.int .i64 0) 1 8 Try.underlying25 hi hz0 hz1 hz2 rfl (by decide) _ xs.length _ hs ho' ⟨g, 0, none⟩ 1 1 [.int .i64 u] hx rfl ?_ ?_ ?_ (by omega) hbase ?_
  · intro j v hj
    match j, hj with
    | 0, hj => simp at hj; subst hj; simpa [Addr.add] using hcell
    | j + 1, hj => simp at hj
  · intro v hv; simp at hv; subst hv; rfl
  · unfold maxLen; omega
  · intro v' w' hown' hg _
    have hO : Own w' base v' (xs ++ [u]) := by
      unfold Own
      rw [List.length_append, List.map_append]
      exact hown'
    obtain ⟨A', c', rfl, hS⟩ := Slc.of_own (n := xs.length + 1) hO (by simp)
    exact h A' c' w' hS hg

def marks (k n : Nat) : List Int := (List.range n).map fun i => ((k + i : Nat) : Int)
theorem marks_length (k n : Nat) : (marks k n).length = n := by simp [marks]
theorem marks_getD {k n j : Nat} (h : j < n) : (marks k n).getD j 0 = ((k + j : Nat) : Int) := by
  rw [List.getD_eq_getElem?_getD, List.getElem?_eq_getElem (by simp [marks, h])]; simp [marks]
theorem ext_getD {xs ys : List Int} {n : Nat} (hx : xs.length = n) (hy : ys.length = n) (h : ∀ j, j < n → xs.getD j 0 = ys.getD j 0) : xs = ys := by
  apply List.ext_getElem (by omega)
  intro i h1 h2
  have := h i (by omega)
  simp only [List.getD_eq_getElem?_getD, List.getElem?_eq_getElem h1, List.getElem?_eq_getElem h2, Option.getD_some] at this
  exact this
theorem set_getD {xs : List Int} {n i j : Nat} (hl : xs.length = n) (hj : j < n) (u : Int) : (xs.set i u).getD j 0 = if i = j then u else xs.getD j 0 := by
  rw [List.getD_eq_getElem?_getD, List.getElem?_set]
  by_cases e : i = j
  · subst e; rw [if_pos rfl, if_pos (by omega), if_pos rfl]; rfl
  · rw [if_neg e, if_neg e, ← List.getD_eq_getElem?_getD]
theorem grown_refl (w : World) (row : Option Nat) : w.grownBy w row := ⟨rfl, rfl, rfl, Nat.le_refl _, fun _ _ _ => rfl⟩
theorem grown_set {a w : World} {g : Nat} (h : a.grownBy w (some g)) (j : Nat) (u : Value) : a.grownBy (w.setCell ⟨g, j, none⟩ u) (some g) :=
  ⟨h.os, h.tape, h.output, by simpa [World.setCell] using h.size, fun i hi hne => (Below.heap_setCell w ⟨g, j, none⟩ u i (fun e => hne (by rw [e]))).trans (h.block i hi hne)⟩
theorem grown_drewN {a w : World} {row : Option Nat} (h : a.grownBy w row) (n : Nat) : a.grownBy (w.drewN n) row := ⟨h.os, h.tape, h.output, h.size, h.block⟩
theorem below_of_grown {B : Nat} {w w' : World} {row : Option Nat} (h : w.grownBy w' row) (hB : B ≤ w.heap.size) (hr : ∀ k, row = some k → B ≤ k) : Below B w w' := (Below.refl B w).grown h hB hr

/-- '[]int64{}': a new empty row. -/
theorem Slc.lit0 (w : World) (base : Nat) (hb : base ≤ w.heap.size) : Slc (w.alloc (.cells #[] 2)) base (some ⟨w.heap.size, 0, none⟩) 0 0 [] :=
  ⟨rfl, World.ownsRow_lit (size := 1) w #[] 0 hb (Nat.zero_le _) rfl⟩
theorem Slc.lit1 (w : World) (base : Nat) (x : Int) (hb : base ≤ w.heap.size) : Slc (w.alloc (.cells #[.int .i64 x] 2)) base (some ⟨w.heap.size, 0, none⟩) 1 1 [x] :=
  ⟨rfl, World.ownsRow_lit (size := 1) w #[.int .i64 x] 1 hb (by unfold maxLen; omega) rfl⟩
theorem getD_eq {xs : List Int} {j : Nat} (hj : j < xs.length) : xs.getD j 0 = xs[j] := by rw [List.getD_eq_getElem?_getD, List.getElem?_eq_getElem hj]; rfl
theorem below_drewN {B : Nat} {a w : World} (h : Below B a w) (n : Nat) : Below B a (w.drewN n) := ⟨h.os, h.tape, h.output, h.size, h.block⟩
theorem below_quiet (w : World) (n : Nat) : Below w.heap.size w (w.drewN n) := ⟨rfl, rfl, rfl, Nat.le_refl _, fun _ _ => rfl⟩
theorem ret_int {k : IntKind} {a b : Int} (h : a = b) : Ending.returned (.int k a) = .returned (.int k b) := by rw [h]
theorem ret_bool {a b : Bool} (h : a = b) : Ending.returned (.bool a) = .returned (.bool b) := by rw [h]
end Go.Proofs.Ytoaaoikmkomofaa

/- The helpers of the laws: copy, comparison, marking. No condition but lengths. -/
namespace Go.Proofs.Ytoaaoikmkomofaa
open Go.RowKit

set_option maxHeartbeats 400000 in
theorem eqS_core (A B : Option Addr) (c d n : Nat) (xs ys : List Int) (w : World) (hx : RI w w.heap.size A xs) (hy : RI w w.heap.size B ys) (lx : Hid (xs.length = n)) (ly : Hid (ys.length = n)) (hn : n ≤ 2097152) :
    Calls Try.prog 45 #[.slice A n c, .slice B n d] w fun e w' => e = .returned (.bool (decide (xs = ys))) ∧ ∃ m, w' = w.drewN m := by
  go_enter Try.func45, Try.ntmps45
  go_wp2
  go_loopw [5] (fun i wr => ∃ k : Nat, k ≤ n ∧ i = .int .i64 k ∧ (∀ j, j < k → xs.getD j 0 = ys.getD j 0) ∧ ∃ m, wr = w.drewN m) (fun i _ => n - (intOf i).toNat)
  case atStart => exact ⟨0, Nat.zero_le _, rfl, fun j h => absurd h (by omega), 0, rfl⟩
  case round =>
    obtain ⟨k, hk, rfl, heq, m, rfl⟩ := hrel
    have Heq := Lib.hid heq
    clear heq
    by_cases hlt : k < n
    · obtain ⟨b, off, rfl, hb, hc⟩ := hx (by rw [lx.out]; omega)
      obtain ⟨b', off', rfl, hb', hc'⟩ := hy (by rw [ly.out]; omega)
      have c1 := hc k (by rw [lx.out]; omega)
      have c2 := hc' k (by rw [ly.out]; omega)
      obtain ⟨x, ex⟩ : ∃ x, xs.getD k 0 = x := ⟨_, rfl⟩
      obtain ⟨y, ey⟩ : ∃ y, ys.getD k 0 = y := ⟨_, rfl⟩
      rw [ex] at c1
      rw [ey] at c2
      have Ex := Lib.hid ex
      have Ey := Lib.hid ey
      clear ex ey hc hc' hx hy
      have p1 : (0 : Int) ≤ k := by omega
      have p2 : (k : Int) < n := by omega
      by_cases hxy : x = y
      · subst hxy
        go_wp2
        go_quiet (fail)
        go_wp2
        go_roundw
        case rel => exact ⟨k + 1, by omega, by go_num, fun j hj => by
          by_cases e : j = k
          · subst e; rw [Ex.out, Ey.out]
          · exact Heq.out j (by omega), _, rfl⟩
        case measure => simp [intOf]; omega
      · have hd : (x != y) = true := by simpa using hxy
        have hd' : (x == y) = false := by simpa using hxy
        go_wp2
        go_quiet (fail)
        go_wp2
        go_ret
        refine ⟨ret_bool (Eq.symm (decide_eq_false fun e => hxy ?_)), _, World.drewN_drewN _ _ _⟩
        rw [← Ex.out, ← Ey.out, e]
    · go_wp2
      go_ret
      have : k = n := by omega
      subst this
      exact ⟨ret_bool (Eq.symm (decide_eq_true (ext_getD lx.out ly.out Heq.out))), _, rfl⟩

/-- eqInt64S compares two lists. -/
theorem eqS_any (A B : Option Addr) (c d n m : Nat) (xs ys : List Int) (w : World) (hx : RI w w.heap.size A xs) (hy : RI w w.heap.size B ys) (lx : Hid (xs.length = n)) (ly : Hid (ys.length = m)) (hn : n ≤ 2097152) (hm : m ≤ 2097152) :
    Calls Try.prog 45 #[.slice A n c, .slice B m d] w fun e w' => e = .returned (.bool (decide (xs = ys))) ∧ ∃ m, w' = w.drewN m := by
  by_cases hl : n = m
  · subst hl
    exact eqS_core A B c d n xs ys w hx hy lx ly hn
  · have hd : ((n : Int) != (m : Int)) = true := by rw [bne_iff_ne]; omega
    have hd' : ((n : Int) == (m : Int)) = false := by rw [beq_eq_false_iff_ne]; omega
    go_enter Try.func45, Try.ntmps45
    go_wp2
    go_ret
    refine ⟨ret_bool (Eq.symm (decide_eq_false fun e => hl ?_)), 0, rfl⟩
    rw [← lx.out, ← ly.out, e]
set_option maxHeartbeats 400000 in
theorem likeI_core (A B : Option Addr) (c d n : Nat) (xs ys : List Int) (w : World) (hx : RI w w.heap.size A xs) (hy : RI w w.heap.size B ys) (lx : Hid (xs.length = n)) (ly : Hid (ys.length = n)) (hn : n ≤ 2097152) :
    Calls Try.prog 20 #[.slice A n c, .slice B n d] w fun e w' => e = .returned (.bool (decide (xs = ys))) ∧ ∃ m, w' = w.drewN m := by
  go_enter Try.func20, Try.ntmps20
  go_wp2
  go_loopw [5] (fun i wr => ∃ k : Nat, k ≤ n ∧ i = .int .i64 k ∧ (∀ j, j < k → xs.getD j 0 = ys.getD j 0) ∧ ∃ m, wr = w.drewN m) (fun i _ => n - (intOf i).toNat)
  case atStart => exact ⟨0, Nat.zero_le _, rfl, fun j h => absurd h (by omega), 0, rfl⟩
  case round =>
    obtain ⟨k, hk, rfl, heq, m, rfl⟩ := hrel
    have Heq := Lib.hid heq
    clear heq
    by_cases hlt : k < n
    · obtain ⟨b, off, rfl, hb, hc⟩ := hx (by rw [lx.out]; omega)
      obtain ⟨b', off', rfl, hb', hc'⟩ := hy (by rw [ly.out]; omega)
      have c1 := hc k (by rw [lx.out]; omega)
      have c2 := hc' k (by rw [ly.out]; omega)
      obtain ⟨x, ex⟩ : ∃ x, xs.getD k 0 = x := ⟨_, rfl⟩
      obtain ⟨y, ey⟩ : ∃ y, ys.getD k 0 = y := ⟨_, rfl⟩
      rw [ex] at c1
      rw [ey] at c2
      have Ex := Lib.hid ex
      have Ey := Lib.hid ey
      clear ex ey hc hc' hx hy
      have p1 : (0 : Int) ≤ k := by omega
      have p2 : (k : Int) < n := by omega
      by_cases hxy : x = y
      · subst hxy
        go_wp2
        go_quiet (fail)
        go_wp2
        go_roundw
        case rel => exact ⟨k + 1, by omega, by go_num, fun j hj => by
          by_cases e : j = k
          · subst e; rw [Ex.out, Ey.out]
          · exact Heq.out j (by omega), _, rfl⟩
        case measure => simp [intOf]; omega
      · have hd : (x != y) = true := by simpa using hxy
        have hd' : (x == y) = false := by simpa using hxy
        go_wp2
        go_quiet (fail)
        go_wp2
        go_ret
        refine ⟨ret_bool (Eq.symm (decide_eq_false fun e => hxy ?_)), _, World.drewN_drewN _ _ _⟩
        rw [← Ex.out, ← Ey.out, e]
    · go_wp2
      go_ret
      have : k = n := by omega
      subst this
      exact ⟨ret_bool (Eq.symm (decide_eq_true (ext_getD lx.out ly.out Heq.out))), _, rfl⟩

/-- likeInts compares two lists. -/
theorem likeI_any (A B : Option Addr) (c d n m : Nat) (xs ys : List Int) (w : World) (hx : RI w w.heap.size A xs) (hy : RI w w.heap.size B ys) (lx : Hid (xs.length = n)) (ly : Hid (ys.length = m)) (hn : n ≤ 2097152) (hm : m ≤ 2097152) :
    Calls Try.prog 20 #[.slice A n c, .slice B m d] w fun e w' => e = .returned (.bool (decide (xs = ys))) ∧ ∃ m, w' = w.drewN m := by
  by_cases hl : n = m
  · subst hl
    exact likeI_core A B c d n xs ys w hx hy lx ly hn
  · have hd : ((n : Int) != (m : Int)) = true := by rw [bne_iff_ne]; omega
    have hd' : ((n : Int) == (m : Int)) = false := by rw [beq_eq_false_iff_ne]; omega
    go_enter Try.func20, Try.ntmps20
    go_wp2
    go_ret
    refine ⟨ret_bool (Eq.symm (decide_eq_false fun e => hl ?_)), 0, rfl⟩
    rw [← lx.out, ← ly.out, e]

set_option maxHeartbeats 400000 in
/-- toInt64S copies a slice. -/
theorem toS_any (A : Option Addr) (c n : Nat) (xs : List Int) (w : World) (hx : RI w w.heap.size A xs) (lx : Hid (xs.length = n)) (hn : n ≤ 2097152) :
    Calls Try.prog 43 #[.slice A n c] w fun e w' => ∃ A' c', e = .returned (.slice A' n c') ∧ Slc w' w.heap.size A' n c' xs ∧ Below w.heap.size w w' := by
  obtain ⟨i0, hi, hz0, hz1, hz2⟩ := info_parts infoI
  go_enter Try.func43, Try.ntmps43
  go_wp2_with (first | (at_make; refine wpList_make_full _ rfl _ _ 25 rfl w.heap.size 2 i0 (.int .i64 0) 1 Try.underlying25 hi hz0 hz1 .i64 .i64 _ _ n rfl rfl rfl rfl (by rw [hz2]; omega) (by unfold maxLen; omega) (Nat.le_refl _) ?_; intro w1 hown1 hgrow1))
  have row1 := Row.made hown1
  have bel1 : Below w.heap.size w w1 := (Below.refl _ _).grown hgrow1 (Nat.le_refl _) (fun k e => nomatch e)
  clear hown1 hgrow1
  go_loopw [4] (fun i wr => ∃ k ys, k ≤ n ∧ i = .int .i64 (k : Nat) ∧ Row wr w.heap.size w.heap.size n n ys ∧ (∀ j, j < k → ys.getD j 0 = xs.getD j 0) ∧ Below w.heap.size w wr) (fun i _ => n - (intOf i).toNat)
  case atStart => exact ⟨0, _, Nat.zero_le _, rfl, row1, fun j h => absurd h (by omega), bel1⟩
  case round =>
    clear row1 bel1
    obtain ⟨k, ys, hk, rfl, row, heq, bel⟩ := hrel
    have Heq := Lib.hid heq
    clear heq
    by_cases hlt : k < n
    · obtain ⟨b, off, rfl, hb, hc⟩ := hx (by rw [lx.out]; omega)
      have c1 := (bel.cell (p := ⟨b, off + k, none⟩) hb).trans (hc k (by rw [lx.out]; omega))
      have c2 := row.cell hlt
      have f2 := row.free k
      obtain ⟨x, ex⟩ : ∃ x, xs.getD k 0 = x := ⟨_, rfl⟩
      rw [ex] at c1
      have Ex := Lib.hid ex
      clear ex hc hx
      have row2 := row.store k x
      have bel2 := bel.setCell (p := ⟨w.heap.size, k, none⟩) (Nat.le_refl _) (.int .i64 x)
      have Row2 := Lib.hid row2
      have Bel2 := Lib.hid bel2
      have hyl : Hid (ys.length = n) := Lib.hid row.1
      clear row2 bel2 row bel
      go_wp2
      go_roundw
      case rel =>
        refine ⟨k + 1, _, by omega, by go_num, Row2.out, fun j hj => ?_, Bel2.out⟩
        rw [set_getD hyl.out (by omega)]
        by_cases e : k = j
        · subst e; rw [if_pos rfl, Ex.out]
        · rw [if_neg e]; exact Heq.out j (by omega)
      case measure => simp [intOf]; omega
    · have hkn : k = n := by omega
      subst hkn
      obtain rfl : ys = xs := ext_getD row.1 lx.out Heq.out
      have Ro := Lib.hid row
      have Be := Lib.hid bel
      clear row bel
      go_wp2
      go_ret
      exact ⟨_, _, rfl, Ro.out.slc, Be.out⟩

set_option maxHeartbeats 400000 in
theorem markS_row (base g n c k0 : Nat) (xs : List Int) (w : World) (hr : Row w base g n c xs) (hn : n ≤ 2097152) (hk0 : k0 ≤ 1000000000000) :
    Calls Try.prog 50 #[.slice (some ⟨g, 0, none⟩) n c, .int .i64 k0] w fun e w' => e = .returned (.int .i64 ((k0 + n : Nat) : Int)) ∧ Row w' base g n c (marks k0 n) ∧ w.grownBy w' (some g) := by
  go_enter Try.func50, Try.ntmps50
  go_wp2
  go_loopw [1, 5] (fun v i wr => ∃ k ys, k ≤ n ∧ i = .int .i64 (k : Nat) ∧ v = .int .i64 ((k0 + k : Nat) : Int) ∧ Row wr base g n c ys ∧ (∀ j, j < k → ys.getD j 0 = ((k0 + j : Nat) : Int)) ∧ w.grownBy wr (some g)) (fun _ i _ => n - (intOf i).toNat)
  case atStart => exact ⟨0, _, Nat.zero_le _, rfl, rfl, hr, fun j h => absurd h (by omega), grown_refl _ _⟩
  case round =>
    clear hr
    obtain ⟨k, ys, hk, rfl, rfl, row, heq, gro⟩ := hrel
    have Heq := Lib.hid heq
    clear heq
    by_cases hlt : k < n
    · have c2 := row.cell hlt
      have f2 := row.free k
      have row2 := row.store k ((k0 + k : Nat) : Int)
      have gro2 := grown_set gro k (.int .i64 ((k0 + k : Nat) : Int))
      have Row2 := Lib.hid row2
      have Gro2 := Lib.hid gro2
      have hyl : Hid (ys.length = n) := Lib.hid row.1
      clear row2 gro2 row gro
      go_wp2
      go_roundw
      case rel =>
        refine ⟨k + 1, _, by omega, by go_num, by go_num, Row2.out, fun j hj => ?_, Gro2.out⟩
        rw [set_getD hyl.out (by omega)]
        by_cases e : k = j
        · subst e; rw [if_pos rfl]
        · rw [if_neg e]; exact Heq.out j (by omega)
      case measure => simp [intOf]; omega
    · have hkn : k = n := by omega
      subst hkn
      have Em : Hid (ys = marks k0 k) := Lib.hid (ext_getD row.1 (marks_length k0 k) fun j hj => by rw [Heq.out j hj, marks_getD hj])
      have Ro := Lib.hid row
      have Gr := Lib.hid gro
      clear row gro
      go_wp2
      go_ret
      exact ⟨rfl, by rw [← Em.out]; exact Ro.out, Gr.out⟩

theorem markS_nil (k0 : Nat) (w : World) : Calls Try.prog 50 #[.slice none 0 0, .int .i64 k0] w fun e w' => e = .returned (.int .i64 k0) ∧ w = w' := by
  go_enter Try.func50, Try.ntmps50
  go_wp2
  refine wp_loop_rounds 1 ?_
  rw [rounds_succ]
  go_wp2
  go_ret
  exact ⟨rfl, rfl⟩

/-- markInt64S fills a slice of the call's own with k0, k0 + 1 and so on. -/
theorem markS_any (base k0 : Nat) (A : Option Addr) (n c : Nat) (xs : List Int) (w : World) (hr : Slc w base A n c xs) (hn : n ≤ 2097152) (hk0 : k0 ≤ 1000000000000) :
    Calls Try.prog 50 #[.slice A n c, .int .i64 k0] w fun e w' => e = .returned (.int .i64 ((k0 + n : Nat) : Int)) ∧ Slc w' base A n c (marks k0 n) ∧ w.grownBy w' (Value.slice A n c).ownBlock := by
  rcases hr.at_ with ⟨rfl, rfl, rfl, rfl⟩ | ⟨g, rfl, _, _⟩
  · exact (markS_nil k0 w).mono fun e w' ⟨he, hw⟩ => by subst hw; exact ⟨by simpa using he, hr, grown_refl _ _⟩
  · have row : Row w base g n c xs := by obtain ⟨rfl, h⟩ := hr; exact Row.of_own h
    exact (markS_row base g n c k0 xs w row hn hk0).mono fun e w' ⟨he, h1, h2⟩ => ⟨he, h1.slc, h2⟩

set_option maxHeartbeats 400000 in
theorem heldS_core (A : Option Addr) (c n k0 : Nat) (xs : List Int) (w : World) (hx : RI w w.heap.size A xs) (lx : Hid (xs.length = n)) (hn : n ≤ 2097152) (hk0 : k0 ≤ 1000000000000) (hm : Hid (xs = marks k0 n)) :
    Calls Try.prog 51 #[.slice A n c, .int .i64 k0] w fun e w' => e = .returned (.int .i64 ((k0 + n : Nat) : Int)) ∧ w = w' := by
  go_enter Try.func51, Try.ntmps51
  go_wp2
  go_loop [1, 5] (fun v i => ∃ k : Nat, k ≤ n ∧ i = .int .i64 (k : Nat) ∧ v = .int .i64 ((k0 + k : Nat) : Int)) (fun _ i => n - (intOf i).toNat)
  case atStart => exact ⟨0, Nat.zero_le _, rfl, rfl⟩
  case round =>
    obtain ⟨k, hk, rfl, rfl⟩ := hrel
    by_cases hlt : k < n
    · obtain ⟨b, off, rfl, hb, hc⟩ := hx (by rw [lx.out]; omega)
      have c1 := hc k (by rw [lx.out]; omega)
      rw [show xs.getD k 0 = ((k0 + k : Nat) : Int) from by rw [hm.out, marks_getD hlt]] at c1
      clear hc hx
      go_wp2
      go_round
      case rel => exact ⟨k + 1, by omega, by go_num, by go_num⟩
      case measure => simp [intOf]; omega
    · have hkn : k = n := by omega
      subst hkn
      go_wp2
      go_ret
      exact ⟨rfl, rfl⟩

theorem markK (base k0 : Nat) (K : Int) (A : Option Addr) (n c : Nat) (xs : List Int) (w : World) (hr : Slc w base A n c xs) (hn : n ≤ 2097152) (hk0 : k0 ≤ 1000000000000) (hK : K = (k0 : Int)) :
    Calls Try.prog 50 #[.slice A n c, .int .i64 K] w fun e w' => e = .returned (.int .i64 (K + (n : Int))) ∧ Slc w' base A n c (marks k0 n) ∧ w.grownBy w' (Value.slice A n c).ownBlock := by
  subst hK
  exact (markS_any base k0 A n c xs w hr hn hk0).mono fun e w' ⟨he, h1, h2⟩ => ⟨he.trans (ret_int (by omega)), h1, h2⟩
theorem heldK (k0 : Nat) (K : Int) (A : Option Addr) (n c : Nat) (xs : List Int) (w : World) (hx : RI w w.heap.size A xs) (lx : Hid (xs.length = n)) (hn : n ≤ 2097152) (hk0 : k0 ≤ 1000000000000) (hm : Hid (xs = marks k0 n)) (hK : K = (k0 : Int)) :
    Calls Try.prog 51 #[.slice A n c, .int .i64 K] w fun e w' => e = .returned (.int .i64 (K + (n : Int))) ∧ w = w' := by
  subst hK
  exact (heldS_core A c n k0 xs w hx lx hn hk0 hm).mono fun e w' ⟨he, h1⟩ => ⟨he.trans (ret_int (by omega)), h1⟩
theorem mark1 (base : Nat) (A : Option Addr) (n c : Nat) (xs : List Int) (w : World) (hr : Slc w base A n c xs) (hn : n ≤ 2097152) :
    Calls Try.prog 50 #[.slice A n c, .int .i64 1] w fun e w' => e = .returned (.int .i64 (1 + (n : Int))) ∧ Slc w' base A n c (marks 1 n) ∧ w.grownBy w' (Value.slice A n c).ownBlock :=
  (markS_any base 1 A n c xs w hr hn (by decide)).mono fun e w' ⟨he, h1, h2⟩ => ⟨he.trans (ret_int (by omega)), h1, h2⟩
theorem held1 (base : Nat) (A : Option Addr) (n c : Nat) (w : World) (hr : Slc w base A n c (marks 1 n)) (hn : n ≤ 2097152) :
    Calls Try.prog 51 #[.slice A n c, .int .i64 1] w fun e w' => e = .returned (.int .i64 (1 + (n : Int))) ∧ w = w' :=
  (heldS_core A c n 1 _ w hr.ri_ hr.hid hn (by decide) (Lib.hid rfl)).mono fun e w' ⟨he, h1⟩ => ⟨he.trans (ret_int (by omega)), h1⟩
theorem eqS_same {xs : List Int} (base base' : Nat) (A B : Option Addr) (n c m d : Nat) (w : World) (hx : Slc w base A n c xs) (hy : Slc w base' B m d xs) (hn : n ≤ 2097152) :
    Calls Try.prog 45 #[.slice A n c, .slice B m d] w fun e w' => e = .returned (.bool true) ∧ Below w.heap.size w w' :=
  (quiet_below (eqS_any A B c d n m _ _ w hx.ri_ hy.ri_ hx.hid hy.hid hn (by rw [← hy.1, hx.1]; exact hn))).mono fun e w' ⟨he, hb⟩ => ⟨he.trans (ret_bool (by simp)), hb⟩
end Go.Proofs.Ytoaaoikmkomofaa

/- Plain facts on permutations as lists of numbers: iterates, periods, cycles, orders. No Go in it. No condition. -/
namespace Go.Proofs.Ytoaaoikmkomofaa

theorem ndlen : ∀ (n : Nat) (l : List Nat), l.Nodup → (∀ x ∈ l, x < n) → l.length ≤ n := by
  intro n
  induction n with
  | zero =>
    intro l _ h
    cases l with
    | nil => simp
    | cons a t => exact absurd (h a (by simp)) (by omega)
  | succ n ih =>
    intro l hd h
    have h1 : (l.filter (fun x => x != n)).length ≤ n := by
      refine ih _ (hd.filter _) ?_
      intro x hx
      rw [List.mem_filter] at hx
      have := h x hx.1
      have h2 : x ≠ n := by simpa using hx.2
      omega
    have h2 : l.length ≤ (l.filter (fun x => x != n)).length + 1 := by
      clear ih h h1
      induction l with
      | nil => simp
      | cons a t iht =>
        rw [List.nodup_cons] at hd
        by_cases ha : a = n
        · subst ha
          have : t.filter (fun x => x != a) = t := by
            rw [List.filter_eq_self]
            intro x hx
            have : x ≠ a := fun e => hd.1 (e ▸ hx)
            simpa using this
          simp [this]
        · have := iht hd.2
          simp [ha]; omega
    omega

/-- The point that follows i. -/
def nx (p : List Int) (i : Nat) : Nat := (p.getD i 0).toNat

structure IsP (p : List Int) : Prop where
  pos : 1 ≤ p.length
  le : p.length ≤ 20
  lo : ∀ i, i < p.length → 0 ≤ p.getD i 0
  hi : ∀ i, i < p.length → p.getD i 0 < p.length
  inj : ∀ i j, i < p.length → j < p.length → p.getD i 0 = p.getD j 0 → i = j

def it (p : List Int) : Nat → Nat → Nat
  | 0, x => x
  | k + 1, x => nx p (it p k x)

section
variable {p : List Int} (h : IsP p)
include h

theorem nx_lt {x : Nat} (hx : x < p.length) : nx p x < p.length := by
  have := h.hi x hx; have := h.lo x hx; unfold nx; omega
theorem nx_val {x : Nat} (hx : x < p.length) : p.getD x 0 = (nx p x : Int) := by
  have := h.lo x hx; unfold nx; omega
theorem nx_inj {x y : Nat} (hx : x < p.length) (hy : y < p.length) (e : nx p x = nx p y) : x = y :=
  h.inj x y hx hy (by rw [nx_val h hx, nx_val h hy, e])
theorem it_lt {x : Nat} (hx : x < p.length) (k : Nat) : it p k x < p.length := by
  induction k with
  | zero => exact hx
  | succ k ih => exact nx_lt h ih
theorem it_inj {x y : Nat} (hx : x < p.length) (hy : y < p.length) (k : Nat) (e : it p k x = it p k y) : x = y := by
  induction k with
  | zero => exact e
  | succ k ih => exact ih (nx_inj h (it_lt h hx k) (it_lt h hy k) e)
end

theorem it_add (p : List Int) (a b x : Nat) : it p (a + b) x = it p a (it p b x) := by
  induction a with
  | zero => simp [it]
  | succ a ih => rw [Nat.succ_add]; simp [it, ih]
theorem it_comm (p : List Int) (a b x : Nat) : it p a (it p b x) = it p b (it p a x) := by
  rw [← it_add, ← it_add, Nat.add_comm]

theorem ret_ex {p : List Int} (h : IsP p) {x : Nat} (hx : x < p.length) : ∃ k, 1 ≤ k ∧ k ≤ p.length ∧ it p k x = x := by
  refine Classical.byContradiction fun hne => ?_
  have hne' : ∀ k, 1 ≤ k → k ≤ p.length → it p k x ≠ x := fun k h1 h2 e => hne ⟨k, h1, h2, e⟩
  have key : ((List.range (p.length + 1)).map fun k => it p k x).Nodup := by
    rw [List.Nodup, List.pairwise_map]
    rw [List.pairwise_iff_getElem]
    intro i j hi hj hij e
    simp only [List.length_range] at hi hj
    simp only [List.getElem_range] at e
    have e2 : it p i (it p (j - i) x) = it p i x := by rw [← it_add]; rw [e]; congr 1; omega
    exact hne' (j - i) (by omega) (by omega) (it_inj h (it_lt h hx _) hx i e2)
  have := ndlen p.length _ key (by intro y hy; simp only [List.mem_map] at hy; obtain ⟨k, _, rfl⟩ := hy; exact it_lt h hx k)
  rw [List.length_map, List.length_range] at this
  omega

def per (p : List Int) (x : Nat) : Nat := ((List.range' 1 p.length).find? (fun k => it p k x == x)).getD 1

theorem per_spec {p : List Int} (h : IsP p) {x : Nat} (hx : x < p.length) :
    1 ≤ per p x ∧ per p x ≤ p.length ∧ it p (per p x) x = x ∧ ∀ k, 1 ≤ k → k < per p x → it p k x ≠ x := by
  obtain ⟨k0, h1, h2, h3⟩ := ret_ex h hx
  have hsome : ((List.range' 1 p.length).find? (fun k => it p k x == x)).isSome := by
    rw [List.find?_isSome]
    exact ⟨k0, by rw [List.mem_range'_1]; omega, by simpa using h3⟩
  obtain ⟨m, hm⟩ := Option.isSome_iff_exists.1 hsome
  have hp : per p x = m := by unfold per; rw [hm]; rfl
  rw [hp]
  have hmem := List.mem_of_find?_eq_some hm
  have hval := List.find?_some hm
  rw [List.mem_range'_1] at hmem
  refine ⟨hmem.1, by omega, by simpa using hval, ?_⟩
  intro k hk1 hk2 e
  rw [List.find?_eq_some_iff_getElem] at hm
  obtain ⟨_, i, hi, hget, hbef⟩ := hm
  rw [List.getElem_range'] at hget
  simp at hget
  have := hbef (k - 1) (by omega)
  rw [List.getElem_range'] at this
  simp at this
  apply this
  rw [show 1 + (k - 1) = k from by omega]; exact e

theorem it_mod {p : List Int} (h : IsP p) {x : Nat} (hx : x < p.length) (k : Nat) : it p k x = it p (k % per p x) x := by
  obtain ⟨h1, _, h3, _⟩ := per_spec h hx
  have hmul : ∀ q, it p (q * per p x) x = x := by
    intro q
    induction q with
    | zero => simp [it]
    | succ q ih => rw [Nat.succ_mul, it_add, h3, ih]
  have := Nat.div_add_mod k (per p x)
  rw [Nat.mul_comm] at this
  calc it p k x = it p (k % per p x + k / per p x * per p x) x := by rw [Nat.add_comm, this]
    _ = _ := by rw [it_add, hmul]

theorem it_eq_iff {p : List Int} (h : IsP p) {x : Nat} (hx : x < p.length) (k : Nat) : it p k x = x ↔ k % per p x = 0 := by
  obtain ⟨h1, _, h3, h4⟩ := per_spec h hx
  rw [it_mod h hx k]
  constructor
  · intro e
    refine Classical.byContradiction fun hne => ?_
    exact h4 (k % per p x) (by omega) (Nat.mod_lt _ (by omega)) e
  · intro e; rw [e]; rfl

/-- Points of one cycle have one period. -/
theorem per_it {p : List Int} (h : IsP p) {x : Nat} (hx : x < p.length) (k : Nat) : per p (it p k x) = per p x := by
  have hy := it_lt h hx k
  have key : ∀ m, it p m (it p k x) = it p k x ↔ it p m x = x := fun m => by
    rw [it_comm]
    exact ⟨fun e => it_inj h (it_lt h hx m) hx k e, fun e => by rw [e]⟩
  obtain ⟨a1, _, a3, a4⟩ := per_spec h hx
  obtain ⟨b1, _, b3, b4⟩ := per_spec h hy
  rcases Nat.lt_trichotomy (per p (it p k x)) (per p x) with hlt | heq | hgt
  · exact absurd ((key _).1 b3) (a4 _ b1 hlt)
  · exact heq
  · exact absurd ((key _).2 a3) (b4 _ a1 hgt)

/-- The points that follow x, x first. -/
def cyc (p : List Int) (x : Nat) : List Int := (List.range (per p x)).map fun k => (it p k x : Int)
/-- x is the smallest point of its cycle. -/
def st (p : List Int) (x : Nat) : Bool := (List.range (per p x)).all fun k => decide (x ≤ it p k x)
def cycs (p : List Int) : List (List Int) := ((List.range p.length).filter (st p)).map (cyc p)

theorem cyc_length (p : List Int) (x : Nat) : (cyc p x).length = per p x := by simp [cyc]


instance (p : List Int) : Decidable (∀ i j, i < p.length → j < p.length → p.getD i 0 = p.getD j 0 → i = j) :=
  decidable_of_iff (∀ i, i < p.length → ∀ j, j < p.length → p.getD i 0 = p.getD j 0 → i = j) ⟨fun h i j a b c => h i a j b c, fun h i a j b c => h i j a b c⟩

def isP (p : List Int) : Bool :=
  decide (1 ≤ p.length) && decide (p.length ≤ 20) && decide (∀ i, i < p.length → 0 ≤ p.getD i 0) && decide (∀ i, i < p.length → p.getD i 0 < p.length) &&
    decide (∀ i, i < p.length → ∀ j, j < p.length → p.getD i 0 = p.getD j 0 → i = j)
theorem isP_iff {p : List Int} : isP p = true ↔ IsP p := by
  unfold isP
  simp only [Bool.and_eq_true, decide_eq_true_eq]
  constructor
  · rintro ⟨⟨⟨⟨a, b⟩, c⟩, d⟩, e⟩
    exact ⟨a, b, c, d, fun i j hi hj => e i hi j hj⟩
  · rintro ⟨a, b, c, d, e⟩
    exact ⟨⟨⟨⟨a, b⟩, c⟩, d⟩, fun i hi j hj => e i j hi hj⟩

/-- The first k entries are in range and differ from one another. -/
def okTo (p : List Int) (k : Nat) : Prop :=
  (∀ i, i < k → 0 ≤ p.getD i 0 ∧ p.getD i 0 < p.length) ∧ ∀ i j, i < j → j < k → p.getD i 0 ≠ p.getD j 0
theorem okTo_zero (p : List Int) : okTo p 0 := ⟨fun i h => absurd h (by omega), fun i j _ h => absurd h (by omega)⟩
theorem okTo_succ {p : List Int} {k : Nat} (h : okTo p k) (h0 : 0 ≤ p.getD k 0) (h1 : p.getD k 0 < p.length) (h2 : ∀ i, i < k → p.getD i 0 ≠ p.getD k 0) : okTo p (k + 1) := by
  refine ⟨fun i hi => ?_, fun i j hij hj => ?_⟩
  · by_cases e : i = k
    · subst e; exact ⟨h0, h1⟩
    · exact h.1 i (by omega)
  · by_cases e : j = k
    · subst e; exact h2 i hij
    · exact h.2 i j hij (by omega)
theorem isP_of_ok {p : List Int} (a : 1 ≤ p.length) (b : p.length ≤ 20) (h : okTo p p.length) : isP p = true := by
  rw [isP_iff]
  refine ⟨a, b, fun i hi => (h.1 i hi).1, fun i hi => (h.1 i hi).2, fun i j hi hj e => ?_⟩
  rcases Nat.lt_trichotomy i j with hl | he | hg
  · exact absurd e (h.2 i j hl hj)
  · exact he
  · exact absurd e.symm (h.2 j i hg hi)
theorem isP_no_range {p : List Int} {k : Nat} (hk : k < p.length) (h : p.getD k 0 < 0 ∨ (p.length : Int) ≤ p.getD k 0) : isP p = false := by
  rw [Bool.eq_false_iff]
  intro e
  rw [isP_iff] at e
  have := e.lo k hk
  have := e.hi k hk
  omega
theorem isP_no_twice {p : List Int} {i k : Nat} (hk : k < p.length) (hi : i < k) (h : p.getD i 0 = p.getD k 0) : isP p = false := by
  rw [Bool.eq_false_iff]
  intro e
  rw [isP_iff] at e
  have := e.inj i k (by omega) hk h
  omega
theorem isP_no_len {p : List Int} (h : p.length < 1 ∨ 20 < p.length) : isP p = false := by
  rw [Bool.eq_false_iff]
  intro e
  rw [isP_iff] at e
  have := e.pos
  have := e.le
  omega

def idL (n : Nat) : List Int := (List.range n).map Int.ofNat
def compL (p q : List Int) : List Int := p.map fun x => q.getD x.toNat 0
def invL (p : List Int) : Nat → List Int
  | 0 => List.replicate p.length 0
  | k + 1 => (invL p k).set (p.getD k 0).toNat k
def powL (p : List Int) (k : Int) : List Int := (List.range p.length).map fun i => (it p (k % (per p i : Int)).toNat i : Int)
def lcmL (l : List Nat) : Nat := l.foldl Nat.lcm 1
def ordL (p : List Int) : Nat := lcmL ((List.range p.length).map (per p))
def cycl (p : List Int) : List (List Int) := (cycs p).filter fun c => decide (1 < c.length)
def sgn (p : List Int) : Int := if (p.length - (cycs p).length) % 2 = 0 then 1 else -1
def supp (p : List Int) : List Int := ((List.range p.length).filter fun i => p.getD i 0 != (i : Int)).map Int.ofNat
/-- p comes first: the first entry that differs is smaller. -/
def lessL : List Int → List Int → Bool
  | a :: p, b :: q => if a = b then lessL p q else decide (a < b)
  | _, _ => false

theorem foldl_lcm (l : List Nat) (a : Nat) : l.foldl Nat.lcm a = Nat.lcm a (lcmL l) := by
  unfold lcmL
  induction l generalizing a with
  | nil => simp
  | cons b t ih => simp only [List.foldl_cons]; rw [ih, ih (Nat.lcm 1 b), Nat.lcm_one_left, Nat.lcm_assoc]
theorem lcmL_snoc (l : List Nat) (a : Nat) : lcmL (l ++ [a]) = Nat.lcm (lcmL l) a := by simp [lcmL]
theorem dvd_lcmL {l : List Nat} {a : Nat} (h : a ∈ l) : a ∣ lcmL l := by
  induction l with
  | nil => cases h
  | cons b t ih =>
    have : lcmL (b :: t) = Nat.lcm b (lcmL t) := by unfold lcmL; simp only [List.foldl_cons]; rw [foldl_lcm, Nat.lcm_one_left]; rfl
    rw [this]
    rcases List.mem_cons.1 h with rfl | h
    · exact Nat.dvd_lcm_left _ _
    · exact Nat.dvd_trans (ih h) (Nat.dvd_lcm_right _ _)
theorem lcmL_dvd {l : List Nat} {m : Nat} (h : ∀ a ∈ l, a ∣ m) : lcmL l ∣ m := by
  induction l with
  | nil => simp [lcmL]
  | cons b t ih =>
    have : lcmL (b :: t) = Nat.lcm b (lcmL t) := by unfold lcmL; simp only [List.foldl_cons]; rw [foldl_lcm, Nat.lcm_one_left]; rfl
    rw [this]
    exact Nat.lcm_dvd (h b (by simp)) (ih fun a ha => h a (by simp [ha]))
theorem lcmL_pos {l : List Nat} (h : ∀ a ∈ l, 1 ≤ a ∧ a ≤ 20) : 1 ≤ lcmL l ∧ lcmL l ≤ 232792560 := by
  have hd : lcmL l ∣ 232792560 := lcmL_dvd fun a ha => by
    obtain ⟨h1, h2⟩ := h a ha
    have : ∀ a : Fin 21, 1 ≤ a.val → a.val ∣ 232792560 := by decide
    exact this ⟨a, by omega⟩ h1
  have hle := Nat.le_of_dvd (by decide) hd
  refine ⟨?_, hle⟩
  rcases Nat.eq_zero_or_pos (lcmL l) with e | e
  · rw [e] at hd; exact absurd (Nat.eq_zero_of_zero_dvd hd) (by decide)
  · exact e

/-- Every point lies in the cycle of a smallest point. -/
theorem min_ex {p : List Int} (h : IsP p) {x : Nat} (hx : x < p.length) : ∃ c j, c < p.length ∧ st p c = true ∧ j < per p c ∧ it p j c = x := by
  obtain ⟨h1, h2, h3, h4⟩ := per_spec h hx
  have hmin : ∀ m, 1 ≤ m → m ≤ per p x → ∃ i, i < m ∧ ∀ j, j < m → it p i x ≤ it p j x := by
    intro m
    induction m with
    | zero => omega
    | succ m ih =>
      intro _ hm
      by_cases h0 : m = 0
      · subst h0; exact ⟨0, by omega, fun j hj => by rw [show j = 0 from by omega]; exact Nat.le_refl _⟩
      · obtain ⟨i, hi, hle⟩ := ih (by omega) (by omega)
        by_cases hc : it p i x ≤ it p m x
        · exact ⟨i, by omega, fun j hj => by
            by_cases e : j = m
            · subst e; exact hc
            · exact hle j (by omega)⟩
        · exact ⟨m, by omega, fun j hj => by
            by_cases e : j = m
            · subst e; exact Nat.le_refl _
            · have := hle j (by omega); omega⟩
  obtain ⟨i, hi, hle⟩ := hmin (per p x) h1 (Nat.le_refl _)
  have hpc := per_it h hx i
  refine ⟨it p i x, per p x - i - (if i = 0 then per p x else 0), it_lt h hx i, ?_, ?_, ?_⟩
  · unfold st
    rw [List.all_eq_true]
    intro k hk
    rw [List.mem_range, hpc] at hk
    rw [decide_eq_true_eq, ← it_add, it_mod h hx (k + i)]
    exact hle _ (Nat.mod_lt _ (by omega))
  · rw [hpc]; split <;> omega
  · by_cases e : i = 0
    · subst e; simp [it]
    · rw [if_neg e, ← it_add, show per p x - i - 0 + i = per p x from by omega, h3]

theorem mem_cycs_per {p : List Int} (h : IsP p) : ordL p = lcmL ((cycs p).map List.length) := by
  have hl : (cycs p).map List.length = ((List.range p.length).filter (st p)).map (per p) := by
    unfold cycs; rw [List.map_map]; congr 1; funext x; simp [cyc_length]
  rw [hl]
  apply Nat.dvd_antisymm
  · refine lcmL_dvd fun a ha => ?_
    rw [List.mem_map] at ha
    obtain ⟨x, hx, rfl⟩ := ha
    rw [List.mem_range] at hx
    obtain ⟨c, j, hc, hst, hj, e⟩ := min_ex h hx
    rw [← e, per_it h hc]
    exact dvd_lcmL (List.mem_map.2 ⟨c, List.mem_filter.2 ⟨List.mem_range.2 hc, hst⟩, rfl⟩)
  · refine lcmL_dvd fun a ha => ?_
    rw [List.mem_map] at ha
    obtain ⟨x, hx, rfl⟩ := ha
    exact dvd_lcmL (List.mem_map.2 ⟨x, (List.mem_filter.1 hx).1, rfl⟩)

end Go.Proofs.Ytoaaoikmkomofaa

/- IsPermutation, of the program and of the model: both answer whether the list is a permutation. Condition: at most 2097152 entries. -/
namespace Go.Proofs.Ytoaaoikmkomofaa
open Go.RowKit

def seenB (xs : List Int) (k y : Nat) : Bool := (List.range k).any fun j => xs.getD j 0 == (y : Int)
theorem seenB_zero (xs : List Int) (y : Nat) : seenB xs 0 y = false := rfl
theorem seenB_succ (xs : List Int) (k y x : Nat) (h : xs.getD k 0 = (x : Int)) : seenB xs (k + 1) y = (seenB xs k y || decide (x = y)) := by
  unfold seenB
  rw [List.range_succ, List.any_append]
  simp only [List.any_cons, List.any_nil, Bool.or_false, h]
  congr 1
  rw [Bool.eq_iff_iff]; simp; omega
theorem seenB_true {xs : List Int} {k y : Nat} (h : seenB xs k y = true) : ∃ j, j < k ∧ xs.getD j 0 = (y : Int) := by
  unfold seenB at h
  rw [List.any_eq_true] at h
  obtain ⟨j, hj, e⟩ := h
  exact ⟨j, List.mem_range.1 hj, by simpa using e⟩
theorem seenB_false {xs : List Int} {k y : Nat} (h : seenB xs k y = false) : ∀ j, j < k → xs.getD j 0 ≠ (y : Int) := by
  intro j hj e
  unfold seenB at h
  rw [List.any_eq_false] at h
  exact h j (List.mem_range.2 hj) (by simpa using e)
def Seen (xs : List Int) (k : Nat) (cs : Array Value) : Prop := cs.size = 20 ∧ ∀ y, y < 20 → cs[y]? = some (.bool (seenB xs k y))
theorem Seen.start (xs : List Int) : Seen xs 0 (List.replicate 20 (Value.bool false)).toArray := ⟨by simp, fun y hy => by
  rw [seenB_zero, List.getElem?_toArray, List.getElem?_replicate, if_pos hy]⟩
theorem Seen.next {xs : List Int} {k x : Nat} {cs : Array Value} (h : Seen xs k cs) (hx : xs.getD k 0 = (x : Int)) (hlt : x < 20) : Seen xs (k + 1) (cs.setIfInBounds x (.bool true)) := by
  refine ⟨by simpa using h.1, fun y hy => ?_⟩
  rw [seenB_succ xs k y x hx, Array.getElem?_setIfInBounds]
  by_cases e : x = y
  · subst e; rw [if_pos rfl, if_pos (by rw [h.1]; exact hlt)]; simp
  · rw [if_neg e, h.2 y hy]; simp [e]

set_option maxHeartbeats 400000 in
theorem implIsP_core (A : Option Addr) (c n : Nat) (xs : List Int) (w : World) (hx : RI w w.heap.size A xs) (lx : Hid (xs.length = n)) (hn1 : 1 ≤ n) (hn : n ≤ 20) :
    Calls Try.prog 67 #[.slice A n c] w fun e w' => e = .returned (.bool (isP xs)) ∧ Below w.heap.size w w' := by
  have d1 : decide ((n : Int) < 1) = false := by simp; omega
  have d2 : decide ((20 : Int) < n) = false := by simp; omega
  go_enter Try.func67, Try.ntmps67
  go_wp2
  go_loopw [5, 16] (fun _ i wr => ∃ k cs, k ≤ n ∧ i = .int .i64 (k : Nat) ∧ Blk wr w.heap.size 79 cs ∧ Seen xs k cs ∧ okTo xs k ∧ Below w.heap.size w wr) (fun _ i _ => n - (intOf i).toNat)
  case atStart => exact ⟨0, _, Nat.zero_le _, rfl, Blk.new _ _ _, Seen.start xs, okTo_zero _, (Below.refl _ _).alloc (Nat.le_refl _) _⟩
  case round =>
    clear d1 d2
    obtain ⟨k, cs, hk, rfl, blk, seen, ok, bel⟩ := hrel
    by_cases hlt : k < n
    · obtain ⟨b, off, rfl, hb, hc⟩ := hx (by rw [lx.out]; omega)
      have c1 := (bel.cell (p := ⟨b, off + k, none⟩) hb).trans (hc k (by rw [lx.out]; omega))
      obtain ⟨x, ex⟩ : ∃ x, xs.getD k 0 = x := ⟨_, rfl⟩
      rw [ex] at c1
      have Bel := Lib.hid bel
      have Seen' := Lib.hid seen
      have Ok := Lib.hid ok
      have Ex := Lib.hid ex
      clear ex hc hx bel seen ok
      by_cases h1 : x < 0
      · have e1 : decide (x < 0) = true := by simpa using h1
        have Fin : Hid (isP xs = false) := Lib.hid (isP_no_range (by rw [lx.out]; exact hlt) (.inl (by rw [Ex.out]; exact h1)))
        clear blk
        go_wp2
        go_ret
        exact ⟨ret_bool Fin.out.symm, Bel.out⟩
      · by_cases h2 : (n : Int) ≤ x
        · have e1 : decide (x < 0) = false := by simpa using h1
          have e2 : decide ((n : Int) ≤ x) = true := by simpa using h2
          have Fin : Hid (isP xs = false) := Lib.hid (isP_no_range (by rw [lx.out]; exact hlt) (.inr (by rw [Ex.out, lx.out]; exact h2)))
          clear blk
          go_wp2
          go_ret
          exact ⟨ret_bool Fin.out.symm, Bel.out⟩
        · obtain ⟨y, rfl⟩ := Int.eq_ofNat_of_zero_le (show 0 ≤ x by omega)
          have hy : y < n := by omega
          have hy20 : y < 20 := by omega
          have c2 := (blk.cell y).trans (Seen'.out.2 y hy20)
          have f2 := blk.frozen y
          have e1 : decide ((y : Int) < 0) = false := by simp
          have e2 : decide ((n : Int) ≤ y) = false := by simp; omega
          by_cases hs : seenB xs k y = true
          · rw [hs] at c2
            have Fin : Hid (isP xs = false) := by
              obtain ⟨j, hj, e⟩ := seenB_true hs
              exact Lib.hid (isP_no_twice (by rw [lx.out]; exact hlt) hj (by rw [e, Ex.out]))
            clear blk hs
            go_wp2
            go_ret
            exact ⟨ret_bool Fin.out.symm, Bel.out⟩
          · rw [Bool.not_eq_true] at hs
            rw [hs] at c2
            have Bl2 := Lib.hid (blk.set_ y (.bool true))
            have Hs := Lib.hid hs
            clear blk hs
            go_wp2
            go_roundw
            case rel =>
              exact ⟨k + 1, _, by omega, by go_num, Bl2.out, Seen'.out.next Ex.out hy20,
                okTo_succ Ok.out (by rw [Ex.out]; omega) (by rw [Ex.out, lx.out]; omega) (fun i hi => by rw [Ex.out]; exact seenB_false Hs.out i hi), Bel.out.setCell (Nat.le_refl _) _⟩
            case measure => simp [intOf]; omega
    · have hkn : k = n := by omega
      subst hkn
      have Fin : Hid (isP xs = true) := Lib.hid (isP_of_ok (by rw [lx.out]; exact hn1) (by rw [lx.out]; exact hn) (by rw [lx.out]; exact ok))
      have Be := Lib.hid bel
      clear blk bel
      go_wp2
      go_ret
      exact ⟨ret_bool Fin.out.symm, Be.out⟩

/-- The program's IsPermutation. -/
theorem implIsP (A : Option Addr) (c n : Nat) (xs : List Int) (w : World) (hx : RI w w.heap.size A xs) (lx : Hid (xs.length = n)) (hn : n ≤ 2097152) :
    Calls Try.prog 67 #[.slice A n c] w fun e w' => e = .returned (.bool (isP xs)) ∧ Below w.heap.size w w' := by
  by_cases h1 : n < 1
  · have Fin : Hid (isP xs = false) := Lib.hid (isP_no_len (.inl (by rw [lx.out]; exact h1)))
    have d1 : decide ((n : Int) < 1) = true := by simp; omega
    go_enter Try.func67, Try.ntmps67
    go_wp2
    go_ret
    exact ⟨ret_bool Fin.out.symm, Below.refl _ _⟩
  · by_cases h2 : 20 < n
    · have Fin : Hid (isP xs = false) := Lib.hid (isP_no_len (.inr (by rw [lx.out]; exact h2)))
      have d1 : decide ((n : Int) < 1) = false := by simp; omega
      have d2 : decide ((20 : Int) < n) = true := by simp; omega
      go_enter Try.func67, Try.ntmps67
      go_wp2
      go_ret
      exact ⟨ret_bool Fin.out.symm, Below.refl _ _⟩
    · exact implIsP_core A c n xs w hx lx (by omega) (by omega)

/-! ### The model's -/
theorem inR_true (x lo hi : Int) (w : World) (h1 : lo ≤ x) (h2 : x ≤ hi) : Calls Try.prog 73 #[.int .i64 x, .int .i64 lo, .int .i64 hi] w fun e w' => e = .returned (.bool true) ∧ w = w' := by
  have d1 : decide (lo ≤ x) = true := by simpa using h1
  have d2 : decide (x ≤ hi) = true := by simpa using h2
  go_enter Try.func73, Try.ntmps73
  go_wp2
  go_ret
  exact ⟨rfl, rfl⟩
theorem inR_false (x lo hi : Int) (w : World) (h : x < lo ∨ hi < x) : Calls Try.prog 73 #[.int .i64 x, .int .i64 lo, .int .i64 hi] w fun e w' => e = .returned (.bool false) ∧ w = w' := by
  by_cases h1 : lo ≤ x
  · have d1 : decide (lo ≤ x) = true := by simpa using h1
    have d2 : decide (x ≤ hi) = false := by simp; omega
    clear h
    go_enter Try.func73, Try.ntmps73
    go_wp2
    go_ret
    exact ⟨rfl, rfl⟩
  · have d1 : decide (lo ≤ x) = false := by simpa using h1
    clear h
    go_enter Try.func73, Try.ntmps73
    go_wp2
    go_ret
    exact ⟨rfl, rfl⟩

def hasB (xs : List Int) (x : Int) : Bool := decide (∃ j, j < xs.length ∧ xs.getD j 0 = x)
set_option maxHeartbeats 400000 in
theorem containsI_any (A : Option Addr) (c n : Nat) (xs : List Int) (x : Int) (w : World) (B : Nat) (hx : RI w B A xs) (lx : Hid (xs.length = n)) (hn : n ≤ 2097152) (ans : Bool) (hans : Hid (hasB xs x = ans)) :
    Calls Try.prog 100 #[.slice A n c, .int .i64 x] w fun e w' => e = .returned (.bool ans) ∧ w = w' := by
  go_enter Try.func100, Try.ntmps100
  go_wp2
  go_loop [5] (fun i => ∃ k : Nat, k ≤ n ∧ i = .int .i64 k ∧ ∀ j, j < k → xs.getD j 0 ≠ x) (fun i => n - (intOf i).toNat)
  case atStart => exact ⟨0, Nat.zero_le _, rfl, fun j h => absurd h (by omega)⟩
  case round =>
    obtain ⟨k, hk, rfl, heq⟩ := hrel
    have Heq := Lib.hid heq
    clear heq
    by_cases hlt : k < n
    · obtain ⟨b, off, rfl, hb, hc⟩ := hx (by rw [lx.out]; omega)
      have c1 := hc k (by rw [lx.out]; omega)
      obtain ⟨y, ey⟩ : ∃ y, xs.getD k 0 = y := ⟨_, rfl⟩
      rw [ey] at c1
      have Ey := Lib.hid ey
      clear ey hc hx
      by_cases hxy : y = x
      · have hd : (y == x) = true := by simpa using hxy
        have Fin : Hid (hasB xs x = true) := Lib.hid (decide_eq_true ⟨k, by rw [lx.out]; exact hlt, by rw [Ey.out, hxy]⟩)
        subst hxy
        go_wp2
        go_ret
        exact ⟨ret_bool (by rw [← Fin.out, ← hans.out]), rfl⟩
      · have hd : (y == x) = false := by simpa using hxy
        have Hxy := Lib.hid hxy
        clear hxy
        go_wp2
        go_round
        case rel => exact ⟨k + 1, by omega, by go_num, fun j hj => by
          by_cases e : j = k
          · subst e; rw [Ey.out]; exact Hxy.out
          · exact Heq.out j (by omega)⟩
        case measure => simp [intOf]; omega
    · have Fin : Hid (hasB xs x = false) := Lib.hid (decide_eq_false fun ⟨j, hj, e⟩ => Heq.out j (by rw [lx.out] at hj; omega) e)
      go_wp2
      go_ret
      exact ⟨ret_bool (by rw [← Fin.out, ← hans.out]), rfl⟩

theorem take_getD {xs : List Int} {k j : Nat} (h : j < k) : (xs.take k).getD j 0 = xs.getD j 0 := by
  rw [List.getD_eq_getElem?_getD, List.getElem?_take, if_pos h, ← List.getD_eq_getElem?_getD]
theorem RI.take {w : World} {B b off n : Nat} {xs : List Int} (h : RI w B (some ⟨b, off, none⟩) xs) (hn : xs.length = n) (k : Nat) (hk : k ≤ n) : RI w B (some ⟨b, off, none⟩) (xs.take k) := fun hp => by
  rw [List.length_take] at hp
  obtain ⟨b', off', e, hb, hc⟩ := h (by omega)
  refine ⟨b', off', e, hb, fun j hj => ?_⟩
  rw [List.length_take] at hj
  rw [take_getD (by omega)]
  exact hc j (by omega)

set_option maxHeartbeats 400000 in
theorem specIsP_core (A : Option Addr) (c n : Nat) (xs : List Int) (w : World) (hx : RI w w.heap.size A xs) (lx : Hid (xs.length = n)) (hn1 : 1 ≤ n) (hn : n ≤ 20) (hnc : n ≤ c) :
    Calls Try.prog 88 #[.slice A n c] w fun e w' => e = .returned (.bool (isP xs)) ∧ ∃ m, w' = w.drewN m := by
  go_enter Try.func88, Try.ntmps88
  go_wp2_with (go_at_call 73; refine (inR_true _ _ _ _ (by omega) (by omega)).mono ?_; rintro e w' ⟨rfl, rfl⟩)
  go_loopw [4] (fun i wr => ∃ k : Nat, k ≤ n ∧ i = .int .i64 (k : Nat) ∧ okTo xs k ∧ ∃ m, wr = w.drewN m) (fun i _ => n - (intOf i).toNat)
  case atStart => exact ⟨0, Nat.zero_le _, rfl, okTo_zero _, 0, rfl⟩
  case round =>
    obtain ⟨k, hk, rfl, ok, m, rfl⟩ := hrel
    have Ok := Lib.hid ok
    clear ok
    by_cases hlt : k < n
    · have hx1 := hx
      obtain ⟨b, off, rfl, hb, hc⟩ := hx (by rw [lx.out]; omega)
      have hx0 : RI w w.heap.size (some ⟨b, off, none⟩) xs := hx1
      clear hx1 hx
      have c1 := hc k (by rw [lx.out]; omega)
      obtain ⟨x, ex⟩ : ∃ x, xs.getD k 0 = x := ⟨_, rfl⟩
      rw [ex] at c1
      have Ex := Lib.hid ex
      clear ex hc
      have p1 : (0 : Int) ≤ k := by omega
      have p2 : (k : Int) < n := by omega
      by_cases h1 : x < 0 ∨ (n : Int) - 1 < x
      · have Fin : Hid (isP xs = false) := Lib.hid (isP_no_range (by rw [lx.out]; exact hlt) (by rw [Ex.out, lx.out]; omega))
        have H1 := Lib.hid h1
        clear h1
        go_wp2
        go_quiet ((go_at_call 73; exact quiet_add_left (inR_false _ _ _ _ H1.out)))
        go_wp2
        go_ret
        exact ⟨ret_bool Fin.out.symm, _, World.drewN_drewN _ _ _⟩
      · have q0 : 0 ≤ x := by omega
        have q1 : x ≤ (n : Int) - 1 := by omega
        have ht := hx0.take lx.out k (by omega)
        have lt : Hid ((xs.take k).length = k) := Lib.hid (by rw [List.length_take, lx.out]; omega)
        by_cases hs : hasB (xs.take k) x = true
        · have Hs := Lib.hid hs
          have Fin : Hid (isP xs = false) := by
            obtain ⟨j, hj, e⟩ := of_decide_eq_true hs
            rw [lt.out] at hj
            exact Lib.hid (isP_no_twice (by rw [lx.out]; exact hlt) hj (by rw [← take_getD hj, e, Ex.out]))
          have HT := Lib.hid ht
          clear hs h1 ht
          go_wp2
          go_quiet ((first | (go_at_call 73; exact quiet_add_left (inR_true _ _ _ _ (by omega) (by omega))) | (go_at_call 100; exact quiet_add_left (containsI_any _ _ _ _ _ _ _ (HT.out.drewN _) lt (by omega) true Hs))))
          go_wp2
          go_ret
          exact ⟨ret_bool Fin.out.symm, _, World.drewN_drewN _ _ _⟩
        · have Hs := Lib.hid ((Bool.not_eq_true _).mp hs)
          have HT := Lib.hid ht
          have NT : Hid (∀ i, i < k → xs.getD i 0 ≠ xs.getD k 0) := Lib.hid fun i hi e => hs (decide_eq_true ⟨i, by rw [lt.out]; exact hi, by rw [take_getD hi, e, Ex.out]⟩)
          clear hs h1 ht
          go_wp2
          go_quiet ((first | (go_at_call 73; exact quiet_add_left (inR_true _ _ _ _ (by omega) (by omega))) | (go_at_call 100; exact quiet_add_left (containsI_any _ _ _ _ _ _ _ (HT.out.drewN _) lt (by omega) false Hs))))
          go_wp2
          go_roundw
          case rel => exact ⟨k + 1, by omega, by go_num, okTo_succ Ok.out (by rw [Ex.out]; omega) (by rw [Ex.out, lx.out]; omega) NT.out, _, rfl⟩
          case measure => simp [intOf]; omega
    · have hkn : k = n := by omega
      subst hkn
      have Fin : Hid (isP xs = true) := Lib.hid (isP_of_ok (by rw [lx.out]; exact hn1) (by rw [lx.out]; exact hn) (by rw [lx.out]; exact Ok.out))
      go_wp2
      go_ret
      exact ⟨ret_bool Fin.out.symm, _, rfl⟩

/-- The model's IsPermutation. -/
theorem specIsP (A : Option Addr) (c n : Nat) (xs : List Int) (w : World) (hx : RI w w.heap.size A xs) (lx : Hid (xs.length = n)) (hn : n ≤ 2097152) (hnc : n ≤ c) :
    Calls Try.prog 88 #[.slice A n c] w fun e w' => e = .returned (.bool (isP xs)) ∧ ∃ m, w' = w.drewN m := by
  by_cases h1 : n < 1 ∨ 20 < n
  · have Fin : Hid (isP xs = false) := Lib.hid (isP_no_len (by rw [lx.out]; exact h1))
    have H1 := Lib.hid h1
    clear h1
    go_enter Try.func88, Try.ntmps88
    go_wp2_with (go_at_call 73; refine (inR_false _ _ _ _ (by have := H1.out; omega)).mono ?_; rintro e w' ⟨rfl, rfl⟩)
    go_ret
    exact ⟨ret_bool Fin.out.symm, 0, rfl⟩
  · exact specIsP_core A c n xs w hx lx (by omega) (by omega) hnc
end Go.Proofs.Ytoaaoikmkomofaa

/- Identity, of the program and of the model. No condition. -/
namespace Go.Proofs.Ytoaaoikmkomofaa
open Go.RowKit

theorem idL_length (n : Nat) : (idL n).length = n := by simp [idL]
theorem idL_getD {n j : Nat} (h : j < n) : (idL n).getD j 0 = (j : Int) := by
  rw [List.getD_eq_getElem?_getD, List.getElem?_eq_getElem (by simp [idL, h])]; simp [idL]
theorem idL_succ (n : Nat) : idL (n + 1) = idL n ++ [(n : Int)] := by simp [idL, List.range_succ]

/-- What Identity answers. -/
def identL (n : Int) : List Int := if 1 ≤ n ∧ n ≤ 20 then idL n.toNat else []

set_option maxHeartbeats 400000 in
theorem implId_core (n : Nat) (w : World) (h1 : 1 ≤ n) (h2 : n ≤ 20) :
    Calls Try.prog 58 #[.int .i64 n] w fun e w' => ∃ A' c', e = .returned (.slice A' n c') ∧ Slc w' w.heap.size A' n c' (idL n) ∧ Below w.heap.size w w' := by
  obtain ⟨i0, hi, hz0, hz1, hz2⟩ := info_parts infoI
  have d1 : decide ((n : Int) < 1) = false := by simp; omega
  have d2 : decide ((20 : Int) < n) = false := by simp; omega
  go_enter Try.func58, Try.ntmps58
  go_wp2_with (first | (at_make; refine wpList_make_full _ rfl _ _ 25 rfl w.heap.size 2 i0 (.int .i64 0) 1 Try.underlying25 hi hz0 hz1 .i64 .i64 _ _ n rfl rfl rfl rfl (by rw [hz2]; omega) (by unfold maxLen; omega) (Nat.le_refl _) ?_; intro w1 hown1 hgrow1))
  have row1 := Row.made hown1
  have bel1 : Below w.heap.size w w1 := (Below.refl _ _).grown hgrow1 (Nat.le_refl _) (fun k e => nomatch e)
  clear hown1 hgrow1 d1 d2
  go_loopw [4, 15] (fun _ i wr => ∃ k ys, k ≤ n ∧ i = .int .i64 (k : Nat) ∧ Row wr w.heap.size w.heap.size n n ys ∧ (∀ j, j < k → ys.getD j 0 = (j : Int)) ∧ Below w.heap.size w wr) (fun _ i _ => n - (intOf i).toNat)
  case atStart => exact ⟨0, _, Nat.zero_le _, rfl, row1, fun j h => absurd h (by omega), bel1⟩
  case round =>
    clear row1 bel1
    obtain ⟨k, ys, hk, rfl, row, heq, bel⟩ := hrel
    have Heq := Lib.hid heq
    clear heq
    by_cases hlt : k < n
    · have c2 := row.cell hlt
      have f2 := row.free k
      have Row2 := Lib.hid (row.store k (k : Int))
      have Bel2 := Lib.hid (bel.setCell (p := ⟨w.heap.size, k, none⟩) (Nat.le_refl _) (.int .i64 (k : Int)))
      have hyl : Hid (ys.length = n) := Lib.hid row.1
      clear row bel
      go_wp2
      go_roundw
      case rel =>
        refine ⟨k + 1, _, by omega, by go_num, Row2.out, fun j hj => ?_, Bel2.out⟩
        rw [set_getD hyl.out (by omega)]
        by_cases e : k = j
        · subst e; rw [if_pos rfl]
        · rw [if_neg e]; exact Heq.out j (by omega)
      case measure => simp [intOf]; omega
    · have hkn : k = n := by omega
      subst hkn
      have Em : Hid (ys = idL k) := Lib.hid (ext_getD row.1 (idL_length k) fun j hj => by rw [Heq.out j hj, idL_getD hj])
      have Ro := Lib.hid row
      have Be := Lib.hid bel
      clear row bel
      go_wp2
      go_ret
      exact ⟨_, _, rfl, by rw [← Em.out]; exact Ro.out.slc, Be.out⟩

/-- The program's Identity. -/
theorem implId (n : Int) (w : World) :
    Calls Try.prog 58 #[.int .i64 n] w fun e w' => ∃ A' n' c', e = .returned (.slice A' n' c') ∧ Slc w' w.heap.size A' n' c' (identL n) ∧ n' ≤ 20 ∧ Below w.heap.size w w' := by
  by_cases h1 : n < 1
  · have Fin : Hid (identL n = []) := Lib.hid (if_neg (by omega))
    have d1 : decide ((n : Int) < 1) = true := by simp; omega
    go_enter Try.func58, Try.ntmps58
    go_wp2
    go_ret
    exact ⟨_, _, _, rfl, by rw [Fin.out]; exact Slc.nil_, Nat.zero_le _, Below.refl _ _⟩
  · by_cases h2 : 20 < n
    · have Fin : Hid (identL n = []) := Lib.hid (if_neg (by omega))
      have d1 : decide ((n : Int) < 1) = false := by simp; omega
      have d2 : decide ((20 : Int) < n) = true := by simp; omega
      go_enter Try.func58, Try.ntmps58
      go_wp2
      go_ret
      exact ⟨_, _, _, rfl, by rw [Fin.out]; exact Slc.nil_, Nat.zero_le _, Below.refl _ _⟩
    · obtain ⟨m, rfl⟩ := Int.eq_ofNat_of_zero_le (show 0 ≤ n by omega)
      refine (implId_core m w (by omega) (by omega)).mono fun e w' ⟨A', c', he, hs, hb⟩ => ⟨A', m, c', he, ?_, by omega, hb⟩
      rw [show identL (m : Int) = idL m from by unfold identL; rw [if_pos (by omega)]; rfl]
      exact hs

set_option maxHeartbeats 400000 in
theorem specIdent (n : Nat) (w : World) (h2 : n ≤ 1000000) :
    Calls Try.prog 87 #[.int .i64 n] w fun e w' => ∃ A' c', e = .returned (.slice A' n c') ∧ Slc w' w.heap.size A' n c' (idL n) ∧ Below w.heap.size w w' := by
  go_enter Try.func87, Try.ntmps87
  go_wp2
  go_loopw [3, 4] (fun v i wr => ∃ k A c, k ≤ n ∧ i = .int .i64 (k : Nat) ∧ v = .slice A k c ∧ Slc wr w.heap.size A k c (idL k) ∧ Below w.heap.size w wr) (fun _ i _ => n - (intOf i).toNat)
  case atStart => exact ⟨0, _, _, Nat.zero_le _, rfl, rfl, Slc.lit0 w _ (Nat.le_refl _), (Below.refl _ _).alloc (Nat.le_refl _) _⟩
  case round =>
    obtain ⟨k, A, c, hk, rfl, rfl, own, bel⟩ := hrel
    have Own' := Lib.hid own
    have Bel := Lib.hid bel
    clear own bel
    by_cases hlt : k < n
    · go_wp2_with (first | (at_builtin; refine wpList_app1 rfl _ _ rfl w.heap.size A k c (idL k) rfl (Own'.out.alloc _) wr.heap.size k rfl (by rw [World.cell?_alloc_at _ _ _ _ rfl]; rfl) (by omega) (by have := Bel.out.size; simp; omega) ?_; intro A' c' w1 own1 hg1))
      have Own1 := Lib.hid own1
      have Bel1 : Hid (Below w.heap.size w w1) := Lib.hid ((Bel.out.alloc Bel.out.size _).grown hg1 (by have := Bel.out.size; simp; omega) (fun j hj => (Own'.out.lt_ j hj).1))
      clear own1 hg1
      go_wp2
      go_roundw
      case rel => exact ⟨k + 1, A', c', by omega, by go_num, rfl, by rw [idL_succ]; exact Own1.out, Bel1.out⟩
      case measure => simp [intOf]; omega
    · have hkn : k = n := by omega
      subst hkn
      go_wp2
      go_ret
      exact ⟨_, _, rfl, Own'.out, Bel.out⟩

end Go.Proofs.Ytoaaoikmkomofaa

/- Compose and Inverse, of the program and of the model. Condition: at most 2097152 entries. -/
namespace Go.Proofs.Ytoaaoikmkomofaa
open Go.RowKit

def sameD (p q : List Int) : Bool := decide (p.length = q.length) && isP p && isP q
theorem sameD_iff {p q : List Int} : sameD p q = true ↔ p.length = q.length ∧ IsP p ∧ IsP q := by
  unfold sameD
  rw [Bool.and_eq_true, Bool.and_eq_true, decide_eq_true_eq, isP_iff, isP_iff]
  exact ⟨fun ⟨⟨a, b⟩, c⟩ => ⟨a, b, c⟩, fun ⟨a, b, c⟩ => ⟨⟨a, b⟩, c⟩⟩

set_option maxHeartbeats 400000 in
/-- areOfEqualDegree. -/
theorem implEq (A B : Option Addr) (c d n m : Nat) (p q : List Int) (w : World) (hp : RI w w.heap.size A p) (hq : RI w w.heap.size B q) (lp : Hid (p.length = n)) (lq : Hid (q.length = m)) (hn : n ≤ 2097152) (hm : m ≤ 2097152) :
    Calls Try.prog 64 #[.slice A n c, .slice B m d] w fun e w' => e = .returned (.bool (sameD p q)) ∧ Below w.heap.size w w' := by
  by_cases hl : n = m
  · have Hl := Lib.hid hl
    have hd : ((n : Int) == (m : Int)) = true := by rw [beq_iff_eq]; omega
    clear hl
    rcases h1 : isP p with _ | _
    · have Fin : Hid (sameD p q = false) := Lib.hid (by unfold sameD; rw [h1]; simp)
      go_enter Try.func64, Try.ntmps64
      go_wp2_with fail
      refine (implIsP A c n p w hp lp (by omega)).mono ?_
      rintro e w1 ⟨rfl, b1⟩
      have B1 := Lib.hid b1
      clear b1
      go_wp2_with fail
      go_ret
      exact ⟨ret_bool Fin.out.symm, B1.out⟩
    · have Fin : Hid (sameD p q = isP q) := Lib.hid (by unfold sameD; rw [h1, lp.out, lq.out, Hl.out]; simp)
      go_enter Try.func64, Try.ntmps64
      go_wp2_with fail
      refine (implIsP A c n p w hp lp (by omega)).mono ?_
      rintro e w1 ⟨rfl, b1⟩
      have B1 := Lib.hid b1
      clear b1
      go_wp2_with fail
      refine (implIsP B d m q w1 (hq.up B1.out) lq (by omega)).mono ?_
      rintro e w2 ⟨rfl, b2⟩
      have B2 : Hid (Below w.heap.size w w2) := Lib.hid (btr B1.out b2)
      clear b2
      go_wp2_with fail
      go_ret
      exact ⟨ret_bool Fin.out.symm, B2.out⟩
  · have Fin : Hid (sameD p q = false) := Lib.hid (by unfold sameD; rw [decide_eq_false (by rw [lp.out, lq.out]; exact hl)]; rfl)
    have hd : ((n : Int) == (m : Int)) = false := by rw [beq_eq_false_iff_ne]; omega
    clear hl
    go_enter Try.func64, Try.ntmps64
    go_wp2
    go_ret
    exact ⟨ret_bool Fin.out.symm, Below.refl _ _⟩

theorem compL_length (p q : List Int) : (compL p q).length = p.length := by simp [compL]
theorem compL_getD {p q : List Int} {k : Nat} (hk : k < p.length) : (compL p q).getD k 0 = q.getD (nx p k) 0 := by
  unfold compL nx
  rw [List.getD_eq_getElem?_getD, List.getElem?_map, List.getElem?_eq_getElem hk, List.getD_eq_getElem?_getD (l := p), List.getElem?_eq_getElem hk]
  rfl

set_option maxHeartbeats 400000 in
/-- permutation.then. -/
theorem implThen (A B : Option Addr) (c d n : Nat) (p q : List Int) (w : World) (hp : RI w w.heap.size A p) (hq : RI w w.heap.size B q) (lp : Hid (p.length = n)) (lq : Hid (q.length = n)) (ip : Hid (IsP p)) (hn : n ≤ 20) :
    Calls Try.prog 59 #[.slice A n c, .slice B n d] w fun e w' => ∃ A' c', e = .returned (.slice A' n c') ∧ Slc w' w.heap.size A' n c' (compL p q) ∧ Below w.heap.size w w' := by
  obtain ⟨i0, hi, hz0, hz1, hz2⟩ := info_parts infoI
  go_enter Try.func59, Try.ntmps59
  go_wp2_with (first | (at_make; refine wpList_make_full _ rfl _ _ 56 rfl w.heap.size 2 i0 (.int .i64 0) 1 Try.underlying56 hi hz0 hz1 .i64 .i64 _ _ n rfl rfl rfl rfl (by rw [hz2]; omega) (by unfold maxLen; omega) (Nat.le_refl _) ?_; intro w1 hown1 hgrow1))
  have row1 := Row.made hown1
  have bel1 : Below w.heap.size w w1 := (Below.refl _ _).grown hgrow1 (Nat.le_refl _) (fun k e => nomatch e)
  clear hown1 hgrow1
  go_loopw [6, 7, 13] (fun _ _ i wr => ∃ k ys, k ≤ n ∧ i = .int .i64 (k : Nat) ∧ Row wr w.heap.size w.heap.size n n ys ∧ (∀ j, j < k → ys.getD j 0 = q.getD (nx p j) 0) ∧ Below w.heap.size w wr) (fun _ _ i _ => n - (intOf i).toNat)
  case atStart => exact ⟨0, _, Nat.zero_le _, rfl, row1, fun j h => absurd h (by omega), bel1⟩
  case round =>
    clear row1 bel1
    obtain ⟨k, ys, hk, rfl, row, heq, bel⟩ := hrel
    have Heq := Lib.hid heq
    clear heq
    by_cases hlt : k < n
    · obtain ⟨b, off, rfl, hb, hc⟩ := hp (by rw [lp.out]; omega)
      obtain ⟨b', off', rfl, hb', hc'⟩ := hq (by rw [lq.out]; omega)
      obtain ⟨y, ey⟩ : ∃ y, nx p k = y := ⟨_, rfl⟩
      have hy : y < n := by rw [← ey, ← lp.out]; exact nx_lt ip.out (by rw [lp.out]; exact hlt)
      have c1 := (bel.cell (p := ⟨b, off + k, none⟩) hb).trans (hc k (by rw [lp.out]; omega))
      rw [nx_val ip.out (by rw [lp.out]; exact hlt), ey] at c1
      have c2 := (bel.cell (p := ⟨b', off' + y, none⟩) hb').trans (hc' y (by rw [lq.out]; omega))
      obtain ⟨x, ex⟩ : ∃ x, q.getD y 0 = x := ⟨_, rfl⟩
      rw [ex] at c2
      have c3 := row.cell hlt
      have f3 := row.free k
      have Ex := Lib.hid ex
      have Ey := Lib.hid ey
      clear ex ey hc hc' hp hq
      have Row2 := Lib.hid (row.store k x)
      have Bel2 := Lib.hid (bel.setCell (p := ⟨w.heap.size, k, none⟩) (Nat.le_refl _) (.int .i64 x))
      have hyl : Hid (ys.length = n) := Lib.hid row.1
      clear row bel
      go_wp2
      go_roundw
      case rel =>
        refine ⟨k + 1, _, by omega, by go_num, Row2.out, fun j hj => ?_, Bel2.out⟩
        rw [set_getD hyl.out (by omega)]
        by_cases e : k = j
        · subst e; rw [if_pos rfl, Ey.out, Ex.out]
        · rw [if_neg e]; exact Heq.out j (by omega)
      case measure => simp [intOf]; omega
    · have hkn : k = n := by omega
      subst hkn
      have Em : Hid (ys = compL p q) := Lib.hid (ext_getD row.1 ((compL_length p q).trans lp.out) fun j hj => by rw [Heq.out j hj, compL_getD (by rw [lp.out]; exact hj)])
      have Ro := Lib.hid row
      have Be := Lib.hid bel
      clear row bel
      go_wp2
      go_ret
      exact ⟨_, _, rfl, by rw [← Em.out]; exact Ro.out.slc, Be.out⟩

def composeL (p q : List Int) : List Int := if sameD p q = true then compL p q else []

set_option maxHeartbeats 400000 in
/-- The program's Compose. -/
theorem implCompose (A B : Option Addr) (c d n m : Nat) (p q : List Int) (w : World) (hp : RI w w.heap.size A p) (hq : RI w w.heap.size B q) (lp : Hid (p.length = n)) (lq : Hid (q.length = m)) (hn : n ≤ 2097152) (hm : m ≤ 2097152) :
    Calls Try.prog 21 #[.slice A n c, .slice B m d] w fun e w' => ∃ A' n' c', e = .returned (.tuple #[.slice A' n' c', .bool (sameD p q)]) ∧ Slc w' w.heap.size A' n' c' (composeL p q) ∧ n' ≤ 20 ∧ Below w.heap.size w w' := by
  rcases hs : sameD p q with _ | _
  · have Fin : Hid (composeL p q = []) := Lib.hid (if_neg (by rw [hs]; decide))
    go_enter Try.func21, Try.ntmps21
    go_wp2_with fail
    refine (implEq A B c d n m p q w hp hq lp lq hn hm).mono ?_
    rintro e w1 ⟨rfl, b1⟩
    have B1 := Lib.hid b1
    clear b1
    go_wp2_with fail
    go_ret2
    exact ⟨_, _, _, rfl, by rw [Fin.out]; exact Slc.nil_, Nat.zero_le _, B1.out⟩
  · have Fin : Hid (composeL p q = compL p q) := Lib.hid (if_pos hs)
    obtain ⟨h1, h2, h3⟩ := sameD_iff.1 hs
    have Ip := Lib.hid h2
    have hn20 : n ≤ 20 := by rw [← lp.out]; exact h2.le
    obtain rfl : n = m := by rw [← lp.out, ← lq.out, h1]
    clear h1 h2 h3
    go_enter Try.func21, Try.ntmps21
    go_wp2_with fail
    refine (implEq A B c d n n p q w hp hq lp lq hn hn).mono ?_
    rintro e w1 ⟨rfl, b1⟩
    have B1 := Lib.hid b1
    clear b1
    go_wp2_with fail
    refine (implThen A B c d n p q w1 (hp.up B1.out) (hq.up B1.out) lp lq Ip hn20).mono ?_
    rintro e w2 ⟨A2, c2, rfl, s2, b2⟩
    have S2 := Lib.hid (s2.mono B1.out.size)
    have B2 : Hid (Below w.heap.size w w2) := Lib.hid (btr B1.out b2)
    clear s2 b2
    go_wp2_with fail
    go_ret2
    exact ⟨_, _, _, rfl, by rw [Fin.out]; exact S2.out, hn20, B2.out⟩

theorem compL_snoc {p q : List Int} {k : Nat} (hk : k < p.length) : compL (p.take (k + 1)) q = compL (p.take k) q ++ [q.getD (nx p k) 0] := by
  unfold compL nx
  rw [List.take_succ_eq_append_getElem hk, List.map_append, List.getD_eq_getElem?_getD (l := p), List.getElem?_eq_getElem hk]
  rfl

set_option maxHeartbeats 400000 in
theorem specComp (A B : Option Addr) (c d n : Nat) (p q : List Int) (w : World) (hp : RI w w.heap.size A p) (hq : RI w w.heap.size B q) (lp : Hid (p.length = n)) (lq : Hid (q.length = n)) (ip : Hid (IsP p)) (hn : n ≤ 20) :
    Calls Try.prog 89 #[.slice A n c, .slice B n d] w fun e w' => ∃ A' c', e = .returned (.slice A' n c') ∧ Slc w' w.heap.size A' n c' (compL p q) ∧ Below w.heap.size w w' := by
  go_enter Try.func89, Try.ntmps89
  go_wp2
  go_loopw [5, 6] (fun v i wr => ∃ k A c, k ≤ n ∧ i = .int .i64 (k : Nat) ∧ v = .slice A k c ∧ Slc wr w.heap.size A k c (compL (p.take k) q) ∧ Below w.heap.size w wr) (fun _ i _ => n - (intOf i).toNat)
  case atStart => exact ⟨0, _, _, Nat.zero_le _, rfl, rfl, Slc.lit0 w _ (Nat.le_refl _), (Below.refl _ _).alloc (Nat.le_refl _) _⟩
  case round =>
    obtain ⟨k, A', c', hk, rfl, rfl, own, bel⟩ := hrel
    have Own' := Lib.hid own
    clear own
    by_cases hlt : k < n
    · obtain ⟨b, off, rfl, hb, hc⟩ := hp (by rw [lp.out]; omega)
      obtain ⟨b', off', rfl, hb', hc'⟩ := hq (by rw [lq.out]; omega)
      obtain ⟨y, ey⟩ : ∃ y, nx p k = y := ⟨_, rfl⟩
      have hy : y < n := by rw [← ey, ← lp.out]; exact nx_lt ip.out (by rw [lp.out]; exact hlt)
      have c1 := (bel.cell (p := ⟨b, off + k, none⟩) hb).trans (hc k (by rw [lp.out]; omega))
      rw [nx_val ip.out (by rw [lp.out]; exact hlt), ey] at c1
      have c2 := (bel.cell (p := ⟨b', off' + y, none⟩) hb').trans (hc' y (by rw [lq.out]; omega))
      obtain ⟨x, ex⟩ : ∃ x, q.getD y 0 = x := ⟨_, rfl⟩
      rw [ex] at c2
      have Ex := Lib.hid ex
      have Ey := Lib.hid ey
      have Bel := Lib.hid bel
      clear ex ey hc hc' hp hq bel
      go_wp2_with (first | (at_builtin; refine wpList_app1 rfl _ _ rfl w.heap.size A' k c' _ rfl (Own'.out.alloc _) wr.heap.size x rfl (by rw [World.cell?_alloc_at _ _ _ _ rfl]; rfl) (by omega) (by have := Bel.out.size; simp; omega) ?_; intro A1 c1' w1 own1 hg1))
      have Own1 := Lib.hid own1
      have Bel1 : Hid (Below w.heap.size w w1) := Lib.hid ((Bel.out.alloc Bel.out.size _).grown hg1 (by have := Bel.out.size; simp; omega) (fun j hj => (Own'.out.lt_ j hj).1))
      clear own1 hg1
      go_wp2
      go_roundw
      case rel => exact ⟨k + 1, A1, c1', by omega, by go_num, rfl, by rw [compL_snoc (by rw [lp.out]; exact hlt), Ey.out, Ex.out]; exact Own1.out, Bel1.out⟩
      case measure => simp [intOf]; omega
    · have hkn : k = n := by omega
      subst hkn
      have Bel := Lib.hid bel
      have Em : Hid (p.take k = p) := Lib.hid (List.take_of_length_le (by rw [lp.out]; exact Nat.le_refl _))
      clear bel
      go_wp2
      go_ret
      exact ⟨_, _, rfl, by have := Own'.out; rw [Em.out] at this; exact this, Bel.out⟩

end Go.Proofs.Ytoaaoikmkomofaa

/- Inverse and Support, of the program and of the model. Condition: at most 2097152 entries. -/
namespace Go.Proofs.Ytoaaoikmkomofaa
open Go.RowKit

theorem invL_length (p : List Int) (k : Nat) : (invL p k).length = p.length := by
  induction k with
  | zero => simp [invL]
  | succ k ih => simp [invL, ih]
def inverseL (p : List Int) : List Int := if isP p = true then invL p p.length else []

set_option maxHeartbeats 400000 in
/-- permutation.inverse. -/
theorem implInv (A : Option Addr) (c n : Nat) (p : List Int) (w : World) (hp : RI w w.heap.size A p) (lp : Hid (p.length = n)) (ip : Hid (IsP p)) (hn : n ≤ 20) :
    Calls Try.prog 68 #[.slice A n c] w fun e w' => ∃ A' c', e = .returned (.slice A' n c') ∧ Slc w' w.heap.size A' n c' (invL p n) ∧ Below w.heap.size w w' := by
  obtain ⟨i0, hi, hz0, hz1, hz2⟩ := info_parts infoI
  go_enter Try.func68, Try.ntmps68
  go_wp2_with (first | (at_make; refine wpList_make_full _ rfl _ _ 56 rfl w.heap.size 2 i0 (.int .i64 0) 1 Try.underlying56 hi hz0 hz1 .i64 .i64 _ _ n rfl rfl rfl rfl (by rw [hz2]; omega) (by unfold maxLen; omega) (Nat.le_refl _) ?_; intro w1 hown1 hgrow1))
  have row1 := Row.made hown1
  have bel1 : Below w.heap.size w w1 := (Below.refl _ _).grown hgrow1 (Nat.le_refl _) (fun k e => nomatch e)
  clear hown1 hgrow1
  go_loopw [4, 5, 11] (fun _ _ i wr => ∃ k : Nat, k ≤ n ∧ i = .int .i64 (k : Nat) ∧ Row wr w.heap.size w.heap.size n n (invL p k) ∧ Below w.heap.size w wr) (fun _ _ i _ => n - (intOf i).toNat)
  case atStart => exact ⟨0, Nat.zero_le _, rfl, by unfold invL; rw [lp.out]; exact row1, bel1⟩
  case round =>
    clear row1 bel1
    obtain ⟨k, hk, rfl, row, bel⟩ := hrel
    by_cases hlt : k < n
    · obtain ⟨b, off, rfl, hb, hc⟩ := hp (by rw [lp.out]; omega)
      obtain ⟨y, ey⟩ : ∃ y, nx p k = y := ⟨_, rfl⟩
      have hy : y < n := by rw [← ey, ← lp.out]; exact nx_lt ip.out (by rw [lp.out]; exact hlt)
      have c1 := (bel.cell (p := ⟨b, off + k, none⟩) hb).trans (hc k (by rw [lp.out]; omega))
      rw [nx_val ip.out (by rw [lp.out]; exact hlt), ey] at c1
      have c3 := row.cell hy
      have f3 := row.free y
      have Ey := Lib.hid ey
      clear ey hc hp
      have Row2 := Lib.hid (row.store y (k : Int))
      have Bel2 := Lib.hid (bel.setCell (p := ⟨w.heap.size, y, none⟩) (Nat.le_refl _) (.int .i64 (k : Int)))
      obtain ⟨z, hz⟩ : ∃ z, (invL p k).getD y 0 = z := ⟨_, rfl⟩
      rw [hz] at c3
      clear row bel hz
      go_wp2
      go_roundw
      case rel => exact ⟨k + 1, by omega, by go_num, by rw [show invL p (k + 1) = (invL p k).set y (k : Int) from by rw [← Ey.out]; rfl]; exact Row2.out, Bel2.out⟩
      case measure => simp [intOf]; omega
    · have hkn : k = n := by omega
      subst hkn
      have Ro := Lib.hid row
      have Be := Lib.hid bel
      clear row bel
      go_wp2
      go_ret
      exact ⟨_, _, rfl, Ro.out.slc, Be.out⟩

set_option maxHeartbeats 400000 in
theorem specInv (A : Option Addr) (c n : Nat) (p : List Int) (w : World) (hp : RI w w.heap.size A p) (lp : Hid (p.length = n)) (ip : Hid (IsP p)) (hn : n ≤ 20) :
    Calls Try.prog 101 #[.slice A n c] w fun e w' => ∃ A' c', e = .returned (.slice A' n c') ∧ Slc w' w.heap.size A' n c' (invL p n) ∧ Below w.heap.size w w' := by
  obtain ⟨i0, hi, hz0, hz1, hz2⟩ := info_parts infoI
  go_enter Try.func101, Try.ntmps101
  go_wp2_with (first | (at_make; refine wpList_make_full _ rfl _ _ 25 rfl w.heap.size 2 i0 (.int .i64 0) 1 Try.underlying25 hi hz0 hz1 .i64 .i64 _ _ n rfl rfl rfl rfl (by rw [hz2]; omega) (by unfold maxLen; omega) (Nat.le_refl _) ?_; intro w1 hown1 hgrow1))
  have row1 := Row.made hown1
  have bel1 : Below w.heap.size w w1 := (Below.refl _ _).grown hgrow1 (Nat.le_refl _) (fun k e => nomatch e)
  clear hown1 hgrow1
  go_loopw [4] (fun i wr => ∃ k : Nat, k ≤ n ∧ i = .int .i64 (k : Nat) ∧ Row wr w.heap.size w.heap.size n n (invL p k) ∧ Below w.heap.size w wr) (fun i _ => n - (intOf i).toNat)
  case atStart => exact ⟨0, Nat.zero_le _, rfl, by unfold invL; rw [lp.out]; exact row1, bel1⟩
  case round =>
    clear row1 bel1
    obtain ⟨k, hk, rfl, row, bel⟩ := hrel
    by_cases hlt : k < n
    · obtain ⟨b, off, rfl, hb, hc⟩ := hp (by rw [lp.out]; omega)
      obtain ⟨y, ey⟩ : ∃ y, nx p k = y := ⟨_, rfl⟩
      have hy : y < n := by rw [← ey, ← lp.out]; exact nx_lt ip.out (by rw [lp.out]; exact hlt)
      have c1 := (bel.cell (p := ⟨b, off + k, none⟩) hb).trans (hc k (by rw [lp.out]; omega))
      rw [nx_val ip.out (by rw [lp.out]; exact hlt), ey] at c1
      have c3 := row.cell hy
      have f3 := row.free y
      have Ey := Lib.hid ey
      clear ey hc hp
      have Row2 := Lib.hid (row.store y (k : Int))
      have Bel2 := Lib.hid (bel.setCell (p := ⟨w.heap.size, y, none⟩) (Nat.le_refl _) (.int .i64 (k : Int)))
      obtain ⟨z, hz⟩ : ∃ z, (invL p k).getD y 0 = z := ⟨_, rfl⟩
      rw [hz] at c3
      clear row bel hz
      go_wp2
      go_roundw
      case rel => exact ⟨k + 1, by omega, by go_num, by rw [show invL p (k + 1) = (invL p k).set y (k : Int) from by rw [← Ey.out]; rfl]; exact Row2.out, Bel2.out⟩
      case measure => simp [intOf]; omega
    · have hkn : k = n := by omega
      subst hkn
      have Ro := Lib.hid row
      have Be := Lib.hid bel
      clear row bel
      go_wp2
      go_ret
      exact ⟨_, _, rfl, Ro.out.slc, Be.out⟩

set_option maxHeartbeats 400000 in
/-- The program's Inverse. -/
theorem implInverse (A : Option Addr) (c n : Nat) (p : List Int) (w : World) (hp : RI w w.heap.size A p) (lp : Hid (p.length = n)) (hn : n ≤ 2097152) :
    Calls Try.prog 24 #[.slice A n c] w fun e w' => ∃ A' n' c', e = .returned (.slice A' n' c') ∧ Slc w' w.heap.size A' n' c' (inverseL p) ∧ n' ≤ 20 ∧ Below w.heap.size w w' := by
  rcases hs : isP p with _ | _
  · have Fin : Hid (inverseL p = []) := Lib.hid (if_neg (by rw [hs]; decide))
    go_enter Try.func24, Try.ntmps24
    go_wp2_with fail
    refine (implIsP A c n p w hp lp hn).mono ?_
    rintro e w1 ⟨rfl, b1⟩
    have B1 := Lib.hid b1
    clear b1
    go_wp2_with fail
    go_ret
    exact ⟨_, _, _, rfl, by rw [Fin.out]; exact Slc.nil_, Nat.zero_le _, B1.out⟩
  · have Fin : Hid (inverseL p = invL p n) := Lib.hid (by unfold inverseL; rw [if_pos hs, lp.out])
    have Ip := Lib.hid (isP_iff.1 hs)
    have hn20 : n ≤ 20 := by rw [← lp.out]; exact Ip.out.le
    go_enter Try.func24, Try.ntmps24
    go_wp2_with fail
    refine (implIsP A c n p w hp lp hn).mono ?_
    rintro e w1 ⟨rfl, b1⟩
    have B1 := Lib.hid b1
    clear b1
    go_wp2_with fail
    refine (implInv A c n p w1 (hp.up B1.out) lp Ip hn20).mono ?_
    rintro e w2 ⟨A2, c2, rfl, s2, b2⟩
    have S2 := Lib.hid (s2.mono B1.out.size)
    have B2 : Hid (Below w.heap.size w w2) := Lib.hid (btr B1.out b2)
    clear s2 b2
    go_wp2_with fail
    go_ret
    exact ⟨_, _, _, rfl, by rw [Fin.out]; exact S2.out, hn20, B2.out⟩

end Go.Proofs.Ytoaaoikmkomofaa

/- Plain facts: composition is associative, an inverse undoes. No Go in it. No condition. -/
namespace Go.Proofs.Ytoaaoikmkomofaa
open Go.RowKit

theorem nx_comp {p q : List Int} {k : Nat} (hk : k < p.length) : nx (compL p q) k = nx q (nx p k) := by
  unfold nx; rw [compL_getD hk]; rfl
theorem isP_comp {p q : List Int} (hp : IsP p) (hq : IsP q) (hl : p.length = q.length) : IsP (compL p q) := by
  have hlen := compL_length p q
  refine ⟨by rw [hlen]; exact hp.pos, by rw [hlen]; exact hp.le, fun i hi => ?_, fun i hi => ?_, fun i j hi hj e => ?_⟩
  · rw [hlen] at hi; rw [compL_getD hi]; exact hq.lo _ (by rw [← hl]; exact nx_lt hp hi)
  · rw [hlen] at hi ⊢; rw [compL_getD hi, hl]; exact hq.hi _ (by rw [← hl]; exact nx_lt hp hi)
  · rw [hlen] at hi hj
    rw [compL_getD hi, compL_getD hj] at e
    exact nx_inj hp hi hj (hq.inj _ _ (by rw [← hl]; exact nx_lt hp hi) (by rw [← hl]; exact nx_lt hp hj) e)
theorem comp_assoc {p q r : List Int} (hp : IsP p) (hl : p.length = q.length) : compL (compL p q) r = compL p (compL q r) := by
  refine ext_getD (n := p.length) ((compL_length _ _).trans (compL_length _ _)) (compL_length _ _) fun k hk => ?_
  rw [compL_getD (by rw [compL_length]; exact hk), nx_comp hk, compL_getD hk, compL_getD (by rw [← hl]; exact nx_lt hp hk)]

/-- The point before j. -/
def pre (p : List Int) (j : Nat) : Nat := it p (per p j - 1) j
theorem pre_lt {p : List Int} (hp : IsP p) {j : Nat} (hj : j < p.length) : pre p j < p.length := it_lt hp hj _
theorem nx_pre {p : List Int} (hp : IsP p) {j : Nat} (hj : j < p.length) : nx p (pre p j) = j := by
  obtain ⟨h1, _, h3, _⟩ := per_spec hp hj
  have : it p (per p j - 1 + 1) j = j := by rw [show per p j - 1 + 1 = per p j from by omega]; exact h3
  exact this
theorem invL_at {p : List Int} (hp : IsP p) : ∀ k, k ≤ p.length → ∀ i, i < k → (invL p k).getD (nx p i) 0 = (i : Int) := by
  intro k
  induction k with
  | zero => intro _ i h; omega
  | succ k ih =>
    intro hk i hi
    have hl := invL_length p k
    show ((invL p k).set (p.getD k 0).toNat (k : Int)).getD (nx p i) 0 = _
    rw [set_getD hl (nx_lt hp (by omega))]
    by_cases e : i = k
    · subst e; rw [if_pos (show (p.getD i 0).toNat = nx p i from rfl)]
    · rw [if_neg fun e2 => e (nx_inj hp (by omega) (by omega) (show nx p i = nx p k from e2.symm)), ih (by omega) i (by omega)]
theorem invL_getD {p : List Int} (hp : IsP p) {j : Nat} (hj : j < p.length) : (invL p p.length).getD j 0 = (pre p j : Int) := by
  have := invL_at hp p.length (Nat.le_refl _) (pre p j) (pre_lt hp hj)
  rw [nx_pre hp hj] at this
  exact this
theorem isP_inv {p : List Int} (hp : IsP p) : IsP (invL p p.length) := by
  have hl := invL_length p p.length
  refine ⟨by rw [hl]; exact hp.pos, by rw [hl]; exact hp.le, fun i hi => ?_, fun i hi => ?_, fun i j hi hj e => ?_⟩
  · rw [hl] at hi; rw [invL_getD hp hi]; omega
  · rw [hl] at hi ⊢; rw [invL_getD hp hi]; have := pre_lt hp hi; omega
  · rw [hl] at hi hj
    rw [invL_getD hp hi, invL_getD hp hj] at e
    rw [← nx_pre hp hi, ← nx_pre hp hj, show pre p i = pre p j from by omega]
theorem comp_inv {p : List Int} (hp : IsP p) : compL p (invL p p.length) = idL p.length := by
  refine ext_getD (compL_length _ _) (idL_length _) fun k hk => ?_
  rw [compL_getD hk, idL_getD hk, invL_at hp _ (Nat.le_refl _) k hk]
theorem inv_comp {p : List Int} (hp : IsP p) : compL (invL p p.length) p = idL p.length := by
  refine ext_getD ((compL_length _ _).trans (invL_length _ _)) (idL_length _) fun k hk => ?_
  rw [compL_getD (by rw [invL_length]; exact hk), idL_getD hk]
  have : nx (invL p p.length) k = pre p k := by unfold nx; rw [invL_getD hp hk]; omega
  rw [this, nx_val hp (pre_lt hp hk), nx_pre hp hk]

end Go.Proofs.Ytoaaoikmkomofaa

/- Groups of permutations and stabilizer chains: what a chain holds, when it is whole, how it grows. No Go in it. No condition. -/
namespace Go.Proofs.Ytoaaoikmkomofaa
open Go.RowKit

/-- A permutation of degree N. -/
def Pn (N : Nat) (p : List Int) : Prop := IsP p ∧ p.length = N
/-- It moves nothing below k. -/
def Fx (k : Nat) (p : List Int) : Prop := ∀ i, i < k → nx p i = i
def iv (p : List Int) : List Int := invL p p.length

section
variable {N k : Nat} {p q r : List Int}
theorem Pn.ext (hp : Pn N p) (hq : Pn N q) (h : ∀ x, x < N → nx p x = nx q x) : p = q :=
  ext_getD hp.2 hq.2 fun x hx => by rw [nx_val hp.1 (by rw [hp.2]; exact hx), nx_val hq.1 (by rw [hq.2]; exact hx), h x hx]
theorem Pn.lt (hp : Pn N p) {x : Nat} (hx : x < N) : nx p x < N := by have := nx_lt hp.1 (x := x) (by rw [hp.2]; exact hx); rw [hp.2] at this; exact this
theorem Pn.inj (hp : Pn N p) {x y : Nat} (hx : x < N) (hy : y < N) (e : nx p x = nx p y) : x = y := nx_inj hp.1 (by rw [hp.2]; exact hx) (by rw [hp.2]; exact hy) e
theorem Pn.pos (hp : Pn N p) : 1 ≤ N ∧ N ≤ 20 := by have h1 := hp.1.pos; have h2 := hp.1.le; rw [hp.2] at h1 h2; exact ⟨h1, h2⟩
theorem Pn.comp (hp : Pn N p) (hq : Pn N q) : Pn N (compL p q) := ⟨isP_comp hp.1 hq.1 (by rw [hp.2, hq.2]), by rw [compL_length]; exact hp.2⟩
theorem Pn.iv (hp : Pn N p) : Pn N (iv p) := ⟨isP_inv hp.1, by unfold Proofs.Ytoaaoikmkomofaa.iv; rw [invL_length]; exact hp.2⟩
theorem nx_id {n x : Nat} (hx : x < n) : nx (idL n) x = x := by unfold nx; rw [idL_getD hx]; rfl
theorem pn_id (h1 : 1 ≤ N) (h2 : N ≤ 20) : Pn N (idL N) := by
  refine ⟨⟨by rw [idL_length]; exact h1, by rw [idL_length]; exact h2, fun i hi => ?_, fun i hi => ?_, fun i j hi hj e => ?_⟩, idL_length N⟩
  · rw [idL_length] at hi; rw [idL_getD hi]; omega
  · rw [idL_length] at hi ⊢; rw [idL_getD hi]; omega
  · rw [idL_length] at hi hj; rw [idL_getD hi, idL_getD hj] at e; omega
theorem Pn.nxc (hp : Pn N p) {x : Nat} (hx : x < N) : nx (compL p q) x = nx q (nx p x) := nx_comp (by rw [hp.2]; exact hx)
theorem Pn.nxi (hp : Pn N p) {x : Nat} (hx : x < N) : nx (Proofs.Ytoaaoikmkomofaa.iv p) (nx p x) = x := by
  have h := invL_at hp.1 p.length (Nat.le_refl _) x (by rw [hp.2]; exact hx)
  show ((invL p p.length).getD (nx p x) 0).toNat = x
  rw [h]; omega
theorem Pn.nxi' (hp : Pn N p) {x : Nat} (hx : x < N) : nx p (nx (Proofs.Ytoaaoikmkomofaa.iv p) x) = x :=
  hp.iv.inj (hp.lt (hp.iv.lt hx)) hx (hp.nxi (hp.iv.lt hx))
theorem Pn.assoc (hp : Pn N p) (hq : Pn N q) : compL (compL p q) r = compL p (compL q r) := comp_assoc hp.1 (by rw [hp.2, hq.2])
theorem Pn.idl (hp : Pn N p) : compL (idL N) p = p :=
  ((pn_id hp.pos.1 hp.pos.2).comp hp).ext hp fun x hx => by rw [(pn_id hp.pos.1 hp.pos.2).nxc hx, nx_id hx]
theorem Pn.idr (hp : Pn N p) : compL p (idL N) = p :=
  (hp.comp (pn_id hp.pos.1 hp.pos.2)).ext hp fun x hx => by rw [hp.nxc hx, nx_id (hp.lt hx)]
theorem Pn.ci (hp : Pn N p) : compL p (Proofs.Ytoaaoikmkomofaa.iv p) = idL N :=
  (hp.comp hp.iv).ext (pn_id hp.pos.1 hp.pos.2) fun x hx => by rw [hp.nxc hx, hp.nxi hx, nx_id hx]
theorem Pn.ic (hp : Pn N p) : compL (Proofs.Ytoaaoikmkomofaa.iv p) p = idL N :=
  (hp.iv.comp hp).ext (pn_id hp.pos.1 hp.pos.2) fun x hx => by rw [hp.iv.nxc hx, hp.nxi' hx, nx_id hx]
theorem iv_id (h1 : 1 ≤ N) (h2 : N ≤ 20) : Proofs.Ytoaaoikmkomofaa.iv (idL N) = idL N :=
  (pn_id h1 h2).iv.ext (pn_id h1 h2) fun x hx => by
    have := (pn_id h1 h2).nxi hx
    rw [nx_id hx] at this ⊢; exact this
theorem Fx.mono {j : Nat} (h : Fx k p) (hj : j ≤ k) : Fx j p := fun i hi => h i (by omega)
theorem Fx.comp (hp : Pn N p) (h : Fx k p) (h2 : Fx k q) (hk : k ≤ N) : Fx k (compL p q) := fun i hi => by rw [hp.nxc (by omega), h i hi, h2 i hi]
theorem Fx.iv (hp : Pn N p) (h : Fx k p) (hk : k ≤ N) : Fx k (Proofs.Ytoaaoikmkomofaa.iv p) := fun i hi => by
  have := hp.nxi (x := i) (by omega)
  rw [h i hi] at this; exact this
theorem Fx.all (hp : Pn N p) (h : Fx N p) : p = idL N := hp.ext (pn_id hp.pos.1 hp.pos.2) fun x hx => by rw [h x hx, nx_id hx]
theorem fx_id (hk : k ≤ N) : Fx k (idL N) := fun i hi => nx_id (by omega)
theorem Fx.zero : Fx 0 p := fun _ hi => absurd hi (by omega)
theorem Fx.ge (hp : Pn N p) (h : Fx k p) (hk : k < N) : k ≤ nx p k := by
  rcases Nat.lt_or_ge (nx p k) k with hl | hl
  · have := hp.inj (x := nx p k) (y := k) (by omega) hk (h _ hl)
    omega
  · exact hl
theorem Fx.succ (h : Fx k p) (e : nx p k = k) : Fx (k + 1) p := fun i hi => by
  rcases Nat.lt_or_ge i k with hl | hl
  · exact h i hl
  · obtain rfl : i = k := by omega
    exact e
end

/-! ### what generators generate -/
inductive Mb (gs : List (List Int)) (N : Nat) : List Int → Prop
  | one : Mb gs N (idL N)
  | mul {p g : List Int} : Mb gs N p → g ∈ gs → Mb gs N (compL p g)

section
variable {gs hs : List (List Int)} {N k : Nat} {p q : List Int}
theorem Mb.pn (hg : ∀ g ∈ gs, Pn N g) (h1 : 1 ≤ N) (h2 : N ≤ 20) (h : Mb gs N p) : Pn N p := by
  induction h with
  | one => exact pn_id h1 h2
  | mul _ hm ih => exact ih.comp (hg _ hm)
theorem Mb.fx (hg : ∀ g ∈ gs, Pn N g ∧ Fx k g) (h1 : 1 ≤ N) (h2 : N ≤ 20) (hk : k ≤ N) (h : Mb gs N p) : Fx k p := by
  induction h with
  | one => exact fx_id hk
  | mul hm hg' ih => exact ih.comp (hm.pn (fun g h => (hg g h).1) h1 h2) (hg _ hg').2 hk
theorem Mb.of (hg : Pn N p) (hm : p ∈ gs) : Mb gs N p := by
  have := Mb.mul (Mb.one (gs := gs) (N := N)) hm
  rw [hg.idl] at this; exact this
theorem Mb.comp (hg : ∀ g ∈ gs, Pn N g) (h1 : 1 ≤ N) (h2 : N ≤ 20) (hp : Mb gs N p) (hq : Mb gs N q) : Mb gs N (compL p q) := by
  induction hq with
  | one => rw [(hp.pn hg h1 h2).idr]; exact hp
  | mul hq' hm ih =>
    rw [← (hp.pn hg h1 h2).assoc (hq'.pn hg h1 h2)]
    exact .mul ih hm
/-- Whatever lies in a set closed under products lies there. -/
theorem Mb.sub (hs1 : 1 ≤ N) (hs2 : N ≤ 20) (hg : ∀ g ∈ hs, Pn N g) (h : ∀ g ∈ gs, Mb hs N g) (hp : Mb gs N p) : Mb hs N p := by
  induction hp with
  | one => exact .one
  | mul _ hm ih => exact ih.comp hg hs1 hs2 (h _ hm)
def pw (N : Nat) (p : List Int) : Nat → List Int
  | 0 => idL N
  | k + 1 => compL (pw N p k) p
theorem pw_pn (hp : Pn N p) : ∀ k, Pn N (pw N p k)
  | 0 => pn_id hp.pos.1 hp.pos.2
  | k + 1 => (pw_pn hp k).comp hp
theorem pw_nx (hp : Pn N p) {x : Nat} (hx : x < N) : ∀ k, nx (pw N p k) x = it p k x
  | 0 => nx_id hx
  | k + 1 => by
    show nx (compL (pw N p k) p) x = nx p (it p k x)
    rw [(pw_pn hp k).nxc hx, pw_nx hp hx k]
theorem ord_pos (hp : Pn N p) : 1 ≤ ordL p := by
  refine (lcmL_pos fun a ha => ?_).1
  obtain ⟨x, hx, rfl⟩ := List.mem_map.1 ha
  have h := per_spec hp.1 (List.mem_range.1 hx)
  have := hp.1.le
  exact ⟨h.1, by have := h.2.1; omega⟩
theorem iv_pw (hp : Pn N p) : iv p = pw N p (ordL p - 1) := by
  refine hp.iv.ext (pw_pn hp _) fun x hx => ?_
  have e : nx p (nx (pw N p (ordL p - 1)) x) = x := by
    rw [pw_nx hp hx]
    show it p (ordL p - 1 + 1) x = x
    rw [Nat.sub_add_cancel (ord_pos hp)]
    refine (it_eq_iff hp.1 (by rw [hp.2]; exact hx) _).2 (Nat.mod_eq_zero_of_dvd ?_)
    exact dvd_lcmL (List.mem_map.2 ⟨x, List.mem_range.2 (by rw [hp.2]; exact hx), rfl⟩)
  have := hp.nxi ((pw_pn hp (ordL p - 1)).lt hx)
  rw [e] at this; exact this
theorem Mb.inv (hg : ∀ g ∈ gs, Pn N g) (h1 : 1 ≤ N) (h2 : N ≤ 20) (hp : Mb gs N p) : Mb gs N (iv p) := by
  rw [iv_pw (hp.pn hg h1 h2)]
  have : ∀ k, Mb gs N (pw N p k) := fun k => by
    induction k with
    | zero => exact .one
    | succ k ih => exact ih.comp hg h1 h2 hp
  exact this _
theorem Mb.none_ (h : Mb [] N p) : p = idL N := by
  cases h with
  | one => rfl
  | mul _ hm => cases hm
theorem Mb.more (h : Mb gs N p) (hsub : ∀ g ∈ gs, g ∈ hs) : Mb hs N p := by
  induction h with
  | one => exact .one
  | mul _ hm ih => exact .mul ih (hsub _ hm)
end
end Go.Proofs.Ytoaaoikmkomofaa

/- Stabilizer chains: when a chain is whole from a level on, what one insertion asks of it and leaves. No Go in it. No condition. -/
namespace Go.Proofs.Ytoaaoikmkomofaa
open Go.RowKit

/-- Representatives by level and point ([] where there is none), generators by level. -/
structure Ch where
  rep : Nat → Nat → List Int
  gen : Nat → List (List Int)

/-- p is divided away by representatives from level i on. -/
inductive Sv (N : Nat) (c : Ch) : Nat → List Int → Prop
  | top : Sv N c N (idL N)
  | low {i : Nat} {p : List Int} : i < N → Pn N p → Fx i p → c.rep i (nx p i) ≠ [] → Sv N c (i + 1) (compL p (iv (c.rep i (nx p i)))) → Sv N c i p

section
variable {N k i : Nat} {c c' : Ch} {p q : List Int}
theorem Sv.inv_low (h : Sv N c i p) (hi : i < N) : Pn N p ∧ Fx i p ∧ c.rep i (nx p i) ≠ [] ∧ Sv N c (i + 1) (compL p (iv (c.rep i (nx p i)))) := by
  cases h with
  | top => omega
  | low _ a b d e => exact ⟨a, b, d, e⟩
theorem Sv.inv_top (h : Sv N c N p) : p = idL N := by
  cases h with
  | top => rfl
  | low h _ _ _ _ => omega
theorem Sv.le (h : Sv N c i p) : i ≤ N := by cases h <;> omega
/-- It asks only for the representatives at its level and above. -/
theorem Sv.congr (h : Sv N c i p) (e : ∀ j, i ≤ j → ∀ y, c'.rep j y = c.rep j y) : Sv N c' i p := by
  induction h with
  | top => exact .top
  | low hi a b d _ ih =>
    refine .low hi a b (by rw [e _ (Nat.le_refl _)]; exact d) ?_
    rw [e _ (Nat.le_refl _)]
    exact ih fun j hj => e j (by omega)

theorem sv_back {j : Nat} (h : Sv N c i p) (hj : j ≤ i) (e : ∀ t y, j ≤ t → t < N → y < N → c'.rep t y = c.rep t y) : Sv N c' i p := by
  induction h with
  | top => exact .top
  | @low i p hi a b d _ ih =>
    have e2 := e i (nx p i) hj hi (a.lt hi)
    refine .low hi a b (by rw [e2]; exact d) ?_
    rw [e2]
    exact ih (by omega)

/-- The representatives of a level. -/
structure RepOK (N : Nat) (c : Ch) (k : Nat) : Prop where
  at_ : ∀ y, c.rep k y ≠ [] → y < N ∧ Pn N (c.rep k y) ∧ Fx k (c.rep k y) ∧ nx (c.rep k y) k = y
  one : c.rep k k = idL N
def GenOK (N : Nat) (c : Ch) (k : Nat) : Prop := ∀ g ∈ c.gen k, Pn N g ∧ Fx k g
/-- How many representatives there are from a level on. -/
def cnt (N : Nat) (c : Ch) (k : Nat) : Nat := (List.range (N * N)).countP fun t => decide (k ≤ t / N) && !(c.rep (t / N) (t % N)).isEmpty

/-- The chain is whole from level k on. -/
structure UpTo (N : Nat) (c : Ch) (k : Nat) : Prop where
  rep : ∀ i, k ≤ i → i < N → RepOK N c i
  gp : ∀ i, k ≤ i → i < N → GenOK N c i
  sv : ∀ i, k ≤ i → i ≤ N → ∀ p, Sv N c i p ↔ Mb (c.gen i) N p
  len : ∀ i, k ≤ i → i < N → (c.gen i).length ≤ cnt N c i
  top : c.gen N = []
/-- The chain grew from level k on. -/
structure Grw (k : Nat) (c c' : Ch) : Prop where
  keep : ∀ i y, c.rep i y ≠ [] → c'.rep i y = c.rep i y
  rep : ∀ i y, i < k → c'.rep i y = c.rep i y
  gen : ∀ i, i < k → c'.gen i = c.gen i
theorem Grw.refl (k : Nat) (c : Ch) : Grw k c c := ⟨fun _ _ _ => rfl, fun _ _ _ => rfl, fun _ _ => rfl⟩
theorem Grw.trans {d : Ch} (h : Grw k c c') (h2 : Grw k c' d) : Grw k c d :=
  ⟨fun i y e => by rw [h2.keep i y (by rw [h.keep i y e]; exact e), h.keep i y e], fun i y hi => by rw [h2.rep i y hi, h.rep i y hi], fun i hi => by rw [h2.gen i hi, h.gen i hi]⟩
theorem Grw.mono {j : Nat} (h : Grw k c c') (hj : j ≤ k) : Grw j c c' := ⟨h.keep, fun i y hi => h.rep i y (by omega), fun i hi => h.gen i (by omega)⟩

/-- The state in which products are added at level k. -/
structure Low (N : Nat) (c : Ch) (k : Nat) : Prop where
  up : UpTo N c (k + 1)
  rep : RepOK N c k
  gp : GenOK N c k
  sub : ∀ p, Mb (c.gen (k + 1)) N p → Mb (c.gen k) N p
  inn : ∀ y, c.rep k y ≠ [] → Mb (c.gen k) N (c.rep k y)

theorem UpTo.pn (h : UpTo N c k) (hi : k ≤ i) (hN : i ≤ N) : ∀ g ∈ c.gen i, Pn N g := fun g hg => by
  rcases Nat.lt_or_ge i N with hl | hl
  · exact (h.gp i hi hl g hg).1
  · obtain rfl : i = N := by omega
    rw [h.top] at hg; cases hg
theorem UpTo.mono {j : Nat} (h : UpTo N c k) (hj : k ≤ j) : UpTo N c j :=
  ⟨fun i hi => h.rep i (by omega), fun i hi => h.gp i (by omega), fun i hi => h.sv i (by omega), fun i hi => h.len i (by omega), h.top⟩
theorem cnt_congr (e : ∀ j, k ≤ j → ∀ y, c'.rep j y = c.rep j y) : cnt N c' k = cnt N c k := by
  unfold cnt
  refine List.countP_congr fun t _ => ?_
  by_cases h : k ≤ t / N
  · rw [e _ h]
  · simp [h]
theorem UpTo.congr (h : UpTo N c k) (e : ∀ j, k ≤ j → ∀ y, c'.rep j y = c.rep j y) (g : ∀ j, k ≤ j → c'.gen j = c.gen j) (hk : k ≤ N) : UpTo N c' k := by
  refine ⟨fun i hi hN => ⟨fun y hy => ?_, ?_⟩, fun i hi hN => ?_, fun i hi hN p => ?_, fun i hi hN => ?_, ?_⟩
  · rw [e i hi] at hy ⊢; exact (h.rep i hi hN).at_ y hy
  · rw [e i hi]; exact (h.rep i hi hN).one
  · intro x hx; rw [g i hi] at hx; exact h.gp i hi hN x hx
  · rw [g i hi]
    exact ⟨fun hs => (h.sv i hi hN p).1 (hs.congr fun j hj y => (e j (by omega) y).symm), fun hm => ((h.sv i hi hN p).2 hm).congr fun j hj y => e j (by omega) y⟩
  · rw [g i hi, cnt_congr fun j hj => e j (by omega)]; exact h.len i hi hN
  · rw [g N hk]; exact h.top
theorem cnt_le (N : Nat) (c : Ch) (k : Nat) : cnt N c k ≤ N * N := by
  have := List.countP_le_length (p := fun t => decide (k ≤ t / N) && !(c.rep (t / N) (t % N)).isEmpty) (l := List.range (N * N))
  rw [List.length_range] at this; exact this
theorem cnt_mono (h : Grw k c c') (i : Nat) : cnt N c i ≤ cnt N c' i := by
  refine List.countP_mono_left fun t _ ht => ?_
  rw [Bool.and_eq_true, decide_eq_true_eq, Bool.not_eq_true', List.isEmpty_eq_false_iff] at ht ⊢
  exact ⟨ht.1, by rw [h.keep _ _ ht.2]; exact ht.2⟩
theorem countP_lt {l : List Nat} {f g : Nat → Bool} (h : ∀ t, f t = true → g t = true) {x : Nat} (hx : x ∈ l) (h1 : f x = false) (h2 : g x = true) : l.countP f < l.countP g := by
  induction l with
  | nil => cases hx
  | cons a t ih =>
    have hm : t.countP f ≤ t.countP g := List.countP_mono_left fun y _ => h y
    rw [List.countP_cons, List.countP_cons]
    rcases List.mem_cons.1 hx with rfl | hx
    · rw [h1, h2]; simp; omega
    · have := ih hx
      rcases ha : f a with _ | _
      · simp; split <;> omega
      · rw [h a ha]; simp; omega
/-- No more representatives: nothing has changed. -/
theorem cnt_same (h : Grw k c c') (e : cnt N c' i ≤ cnt N c i) {j y : Nat} (hj : i ≤ j) (hj2 : j < N) (hy : y < N) : c'.rep j y = c.rep j y := by
  by_cases hc : c.rep j y = []
  · by_cases hc' : c'.rep j y = []
    · rw [hc, hc']
    · exfalso
      have hlt : cnt N c i < cnt N c' i := by
        have hd : (j * N + y) / N = j := by
          rw [Nat.mul_comm, Nat.mul_add_div (by omega), Nat.div_eq_of_lt hy]; rfl
        have hm : (j * N + y) % N = y := by
          rw [Nat.mul_comm, Nat.mul_add_mod, Nat.mod_eq_of_lt hy]
        refine countP_lt (x := j * N + y) (fun t ht => ?_) ?_ ?_ ?_
        · rw [Bool.and_eq_true, decide_eq_true_eq, Bool.not_eq_true', List.isEmpty_eq_false_iff] at ht ⊢
          exact ⟨ht.1, by rw [h.keep _ _ ht.2]; exact ht.2⟩
        · rw [List.mem_range]
          have : (j + 1) * N ≤ N * N := Nat.mul_le_mul_right N (by omega)
          rw [Nat.add_mul] at this; omega
        · rw [hd, hm, hc]; simp
        · rw [hd, hm]; simp [hj, hc']
      omega
  · exact h.keep j y hc

/-- One level down: what fixes one point more. -/
theorem sv_down (h : RepOK N c k) (hk : k < N) (hp : Pn N p) (hf : Fx k p) (e : nx p k = k) : Sv N c k p ↔ Sv N c (k + 1) p := by
  have h1 := hp.pos
  constructor
  · intro hs
    have := (hs.inv_low hk).2.2.2
    rw [e, h.one, iv_id h1.1 h1.2, hp.idr] at this
    exact this
  · intro hs
    refine .low hk hp hf ?_ ?_
    · rw [e, h.one]; intro e2; have := idL_length N; rw [e2] at this; simp at this; omega
    · rw [e, h.one, iv_id h1.1 h1.2, hp.idr]; exact hs
theorem Low.mono_sv (h : Low N c k) (h' : Low N c' k) (g : Grw k c c') (hk : k < N) (hm : ∀ p, Mb (c.gen (k + 1)) N p → Mb (c'.gen (k + 1)) N p) (hs : Sv N c k p) : Sv N c' k p := by
  obtain ⟨a, b, d, e⟩ := hs.inv_low hk
  refine .low hk a b (by rw [g.keep _ _ d]; exact d) ?_
  rw [g.keep _ _ d]
  exact (h'.up.sv (k + 1) (Nat.le_refl _) hk _).2 (hm _ ((h.up.sv (k + 1) (Nat.le_refl _) hk _).1 e))
theorem Low.rep_sv (h : Low N c k) (hk : k < N) {y : Nat} (hy : c.rep k y ≠ []) : Sv N c k (c.rep k y) := by
  obtain ⟨h1, h2, h3, h4⟩ := h.rep.at_ y hy
  refine .low hk h2 h3 (by rw [h4]; exact hy) ?_
  rw [h4, h2.ci]
  exact (h.up.sv (k + 1) (Nat.le_refl _) hk _).2 .one
theorem Low.pn (h : Low N c k) : ∀ g ∈ c.gen k, Pn N g := fun g hg => (h.gp g hg).1
/-- Where every representative times every generator is divided away, the level is whole. -/
theorem Low.whole (h : Low N c k) (hk : k < N) (h1 : 1 ≤ N) (h2 : N ≤ 20) (hc : ∀ y, c.rep k y ≠ [] → ∀ g ∈ c.gen k, Sv N c k (compL (c.rep k y) g)) (hlen : (c.gen k).length ≤ cnt N c k) : UpTo N c k := by
  have hsv : ∀ p, Sv N c k p ↔ Mb (c.gen k) N p := fun p => by
    constructor
    · intro hs
      obtain ⟨a, b, d, e⟩ := hs.inv_low hk
      have e2 := h.sub _ ((h.up.sv (k + 1) (Nat.le_refl _) hk _).1 e)
      have hr := (h.rep.at_ _ d).2.1
      have := e2.comp h.pn h1 h2 (h.inn _ d)
      rw [a.assoc hr.iv, hr.ic, a.idr] at this
      exact this
    · intro hm
      induction hm with
      | one =>
        have hid : nx (idL N) k = k := nx_id hk
        exact (sv_down h.rep hk (pn_id h1 h2) (fx_id (by omega)) hid).2 ((h.up.sv (k + 1) (Nat.le_refl _) hk _).2 .one)
      | @mul p g hm hg ih =>
        obtain ⟨a, b, d, e⟩ := ih.inv_low hk
        obtain ⟨hyN, hr, hrf, hrk⟩ := h.rep.at_ _ d
        obtain ⟨r, er⟩ : ∃ r, c.rep k (nx p k) = r := ⟨_, rfl⟩
        rw [er] at d e hr hrf hrk
        have hs := hc (nx p k) (by rw [er]; exact d) g hg
        rw [er] at hs
        obtain ⟨a', b', d', e'⟩ := hs.inv_low hk
        have hgP := h.gp g hg
        have hpg : nx (compL p g) k = nx (compL r g) k := by rw [a.nxc hk, hr.nxc hk, hrk]
        have hr' := (h.rep.at_ _ d').2.1
        refine .low hk (a.comp hgP.1) (b.comp a hgP.2 (by omega)) (by rw [hpg]; exact d') ?_
        rw [hpg]
        have m1 := (h.up.sv (k + 1) (Nat.le_refl _) hk _).1 e
        have m2 := (h.up.sv (k + 1) (Nat.le_refl _) hk _).1 e'
        have m3 := m1.comp (h.up.pn (Nat.le_refl _) hk) h1 h2 m2
        refine (h.up.sv (k + 1) (Nat.le_refl _) hk _).2 ?_
        rw [← (a.comp hr.iv).assoc (hr.comp hgP.1), ← (a.comp hr.iv).assoc hr, a.assoc hr.iv, hr.ic, a.idr] at m3
        exact m3
  refine ⟨fun i hi hN => ?_, fun i hi hN => ?_, fun i hi hN => ?_, fun i hi hN => ?_, h.up.top⟩
  · rcases Nat.lt_or_ge k i with hl | hl
    · exact h.up.rep i hl hN
    · obtain rfl : i = k := by omega
      exact h.rep
  · rcases Nat.lt_or_ge k i with hl | hl
    · exact h.up.gp i hl hN
    · obtain rfl : i = k := by omega
      exact h.gp
  · rcases Nat.lt_or_ge k i with hl | hl
    · exact h.up.sv i hl hN
    · obtain rfl : i = k := by omega
      exact hsv
  · rcases Nat.lt_or_ge k i with hl | hl
    · exact h.up.len i hl hN
    · obtain rfl : i = k := by omega
      exact hlen
/-- A whole level is one in which products may be added. -/
theorem UpTo.low (h : UpTo N c k) (hk : k < N) (h1 : 1 ≤ N) (h2 : N ≤ 20) : Low N c k := by
  have hr := h.rep k (Nat.le_refl _) hk
  have hg := h.gp k (Nat.le_refl _) hk
  have hu := h.mono (Nat.le_succ k)
  refine ⟨hu, hr, hg, fun p hm => ?_, fun y hy => ?_⟩
  · have hpn := hm.pn (hu.pn (Nat.le_refl _) hk) h1 h2
    have hfx : Fx (k + 1) p := by
      rcases Nat.lt_or_ge (k + 1) N with hl | hl
      · exact hm.fx (h.gp (k + 1) (by omega) hl) h1 h2 hk
      · obtain rfl : k + 1 = N := by omega
        rw [h.top] at hm
        rw [hm.none_]; exact fx_id (Nat.le_refl _)
    refine (h.sv k (Nat.le_refl _) (by omega) p).1 ((sv_down hr hk hpn (hfx.mono (by omega)) (hfx k (by omega))).2 ((h.sv (k + 1) (by omega) hk p).2 hm))
  · obtain ⟨a1, a2, a3, a4⟩ := hr.at_ y hy
    refine (h.sv k (Nat.le_refl _) (by omega) _).1 (.low hk a2 a3 (by rw [a4]; exact hy) ?_)
    rw [a4, a2.ci]
    exact (h.sv (k + 1) (by omega) hk _).2 .one

def Ch.set (c : Ch) (k y : Nat) (q : List Int) : Ch := ⟨fun i z => if i = k ∧ z = y then q else c.rep i z, c.gen⟩
def Ch.push (c : Ch) (k : Nat) (p : List Int) : Ch := ⟨c.rep, fun i => if i = k then c.gen k ++ [p] else c.gen i⟩
theorem set_at (c : Ch) (k y : Nat) (q : List Int) : (c.set k y q).rep k y = q := if_pos ⟨rfl, rfl⟩
theorem set_ne {j z y : Nat} (h : j ≠ k ∨ z ≠ y) : (c.set k y q).rep j z = c.rep j z := if_neg (by rintro ⟨rfl, rfl⟩; rcases h with h | h <;> exact h rfl)
theorem push_at (c : Ch) (k : Nat) (p : List Int) : (c.push k p).gen k = c.gen k ++ [p] := if_pos rfl
theorem push_ne {j : Nat} (h : j ≠ k) : (c.push k p).gen j = c.gen j := if_neg h

/-- What adding a product leaves. -/
structure Bp (N k : Nat) (c c' : Ch) (q : List Int) : Prop where
  low : Low N c' k
  grw : Grw k c c'
  gen : c'.gen k = c.gen k
  sv : Sv N c' k q
  mono : ∀ p, Sv N c k p → Sv N c' k p
  new_ : ∀ y, c.rep k y = [] → c'.rep k y ≠ [] → ∀ g ∈ c.gen k, Sv N c' k (compL (c'.rep k y) g)
/-- What adding a generator leaves. -/
structure Ap (N k : Nat) (c c' : Ch) (p : List Int) : Prop where
  up : UpTo N c' k
  grw : Grw k c c'
  gen : ∀ q, Mb (c'.gen k) N q ↔ Mb (c.gen k ++ [p]) N q

/-- The rest that goes one level down. -/
theorem Low.rest (h : Low N c k) (hk : k < N) (h1 : 1 ≤ N) (h2 : N ≤ 20) (hq : Mb (c.gen k) N q) (hr : c.rep k (nx q k) ≠ []) : Pn N (compL q (iv (c.rep k (nx q k)))) ∧ Fx (k + 1) (compL q (iv (c.rep k (nx q k)))) := by
  obtain ⟨a1, a2, a3, a4⟩ := h.rep.at_ _ hr
  have hp := hq.pn h.pn h1 h2
  have hf := hq.fx h.gp h1 h2 (by omega)
  refine ⟨hp.comp a2.iv, (hf.comp hp (a3.iv a2 (by omega)) (by omega)).succ ?_⟩
  rw [hp.nxc hk]
  have := a2.nxi hk
  rw [a4] at this
  exact this
theorem Bp.old (h : Low N c k) (hk : k < N) (h1 : 1 ≤ N) (h2 : N ≤ 20) (hq : Mb (c.gen k) N q) (hr : c.rep k (nx q k) ≠ []) (ha : Ap N (k + 1) c c' (compL q (iv (c.rep k (nx q k))))) : Bp N k c c' q := by
  have er : ∀ y, c'.rep k y = c.rep k y := fun y => ha.grw.rep k y (by omega)
  have eg : c'.gen k = c.gen k := ha.grw.gen k (by omega)
  obtain ⟨a1, a2, a3, a4⟩ := h.rep.at_ _ hr
  have hp := hq.pn h.pn h1 h2
  have hf := hq.fx h.gp h1 h2 (by omega)
  have hm : Mb (c.gen k) N (compL q (iv (c.rep k (nx q k)))) := hq.comp h.pn h1 h2 ((h.inn _ hr).inv h.pn h1 h2)
  have hl : Low N c' k := by
    refine ⟨ha.up, ⟨fun y hy => by rw [er] at hy ⊢; exact h.rep.at_ y hy, by rw [er]; exact h.rep.one⟩, fun g hg => h.gp g (by rw [← eg]; exact hg), fun p hp => ?_, fun y hy => by rw [er] at hy ⊢; rw [eg]; exact h.inn y hy⟩
    rw [eg]
    refine ((ha.gen p).1 hp).sub h1 h2 h.pn fun g hg => ?_
    rcases List.mem_append.1 hg with hg | hg
    · exact h.sub _ (.of (h.up.pn (Nat.le_refl _) hk g hg) hg)
    · obtain rfl := List.mem_singleton.1 hg
      exact hm
  have hmono : ∀ p, Mb (c.gen (k + 1)) N p → Mb (c'.gen (k + 1)) N p := fun p hp => (ha.gen p).2 (hp.more fun g hg => List.mem_append_left _ hg)
  refine ⟨hl, ha.grw.mono (by omega), eg, .low hk hp hf (by rw [er]; exact hr) ?_, fun p hs => h.mono_sv hl (ha.grw.mono (by omega)) hk hmono hs, fun y hy hy' => absurd (by rw [er]; exact hy) hy'⟩
  rw [er]
  refine (ha.up.sv (k + 1) (Nat.le_refl _) hk _).2 ((ha.gen _).2 (.of (h.rest hk h1 h2 hq hr).1 (by simp)))
theorem Low.put (h : Low N c k) (hk : k < N) (h1 : 1 ≤ N) (h2 : N ≤ 20) (hq : Mb (c.gen k) N q) (hr : c.rep k (nx q k) = []) : Low N (c.set k (nx q k) q) k ∧ Grw k c (c.set k (nx q k) q) := by
  have hp := hq.pn h.pn h1 h2
  have hf := hq.fx h.gp h1 h2 (by omega)
  refine ⟨⟨h.up.congr (fun j hj y => set_ne (.inl (by omega))) (fun j _ => rfl) hk, ⟨fun y hy => ?_, ?_⟩, h.gp, h.sub, fun y hy => ?_⟩, ⟨fun i y hy => ?_, fun i y hi => set_ne (.inl (by omega)), fun i _ => rfl⟩⟩
  · by_cases e : y = nx q k
    · subst e; rw [set_at]; exact ⟨hp.lt hk, hp, hf, rfl⟩
    · rw [set_ne (.inr e)] at hy ⊢; exact h.rep.at_ y hy
  · rw [set_ne]; · exact h.rep.one
    · right; intro e
      rw [← e, h.rep.one] at hr
      have := idL_length N; rw [hr] at this; simp at this; omega
  · by_cases e : y = nx q k
    · subst e; rw [set_at]; exact hq
    · rw [set_ne (.inr e)] at hy ⊢; exact h.inn y hy
  · by_cases e : i = k ∧ y = nx q k
    · obtain ⟨rfl, rfl⟩ := e; exact absurd hr hy
    · exact if_neg e
/-- The loop over the generators behind a new representative. -/
structure Bl (N k : Nat) (c1 cj : Ch) (q : List Int) (j : Nat) : Prop where
  low : Low N cj k
  grw : Grw k c1 cj
  gen : cj.gen k = c1.gen k
  mono : ∀ p, Sv N c1 k p → Sv N cj k p
  new_ : ∀ y, c1.rep k y = [] → cj.rep k y ≠ [] → ∀ g ∈ c1.gen k, Sv N cj k (compL (cj.rep k y) g)
  done : ∀ t, t < j → Sv N cj k (compL q ((c1.gen k).getD t []))
theorem Bl.start (h : Low N c k) : Bl N k c c q 0 := ⟨h, .refl _ _, rfl, fun _ h => h, fun y a b => absurd a b, fun t ht => absurd ht (by omega)⟩
theorem Bl.next {c1 cj : Ch} {j : Nat} (h : Bl N k c1 cj q j) (hb : Bp N k cj c' (compL q ((c1.gen k).getD j []))) : Bl N k c1 c' q (j + 1) := by
  refine ⟨hb.low, h.grw.trans hb.grw, by rw [hb.gen, h.gen], fun p hs => hb.mono _ (h.mono _ hs), fun y hy hy' g hg => ?_, fun t ht => ?_⟩
  · by_cases e : cj.rep k y = []
    · exact hb.new_ y e hy' g (by rw [h.gen]; exact hg)
    · rw [hb.grw.keep _ _ e]
      exact hb.mono _ (h.new_ y hy e g hg)
  · rcases Nat.lt_or_ge t j with hl | hl
    · exact hb.mono _ (h.done t hl)
    · obtain rfl : t = j := by omega
      exact hb.sv
theorem mem_at {l : List (List Int)} {g : List Int} (h : g ∈ l) : ∃ t, t < l.length ∧ l.getD t [] = g := by
  obtain ⟨t, ht, e⟩ := List.mem_iff_getElem.1 h
  exact ⟨t, ht, by rw [List.getD_eq_getElem?_getD, List.getElem?_eq_getElem ht, ← e]; rfl⟩
theorem Bl.all {cj : Ch} (h : Low N c k) (hk : k < N) (h1 : 1 ≤ N) (h2 : N ≤ 20) (hq : Mb (c.gen k) N q) (hr : c.rep k (nx q k) = []) (hb : Bl N k (c.set k (nx q k) q) cj q (c.gen k).length) : Bp N k c cj q := by
  obtain ⟨l1, g1⟩ := h.put hk h1 h2 hq hr
  have hp := hq.pn h.pn h1 h2
  have hne : q ≠ [] := by intro e; have := hp.2; rw [e] at this; simp at this; omega
  have e0 : cj.rep k (nx q k) = q := by rw [hb.grw.keep _ _ (by rw [set_at]; exact hne), set_at]
  refine ⟨hb.low, g1.trans hb.grw, hb.gen, ?_, fun p hs => hb.mono _ (h.mono_sv l1 g1 hk (fun _ h => h) hs), fun y hy hy' g hg => ?_⟩
  · have := hb.low.rep_sv hk (y := nx q k) (by rw [e0]; exact hne)
    rw [e0] at this; exact this
  · by_cases e : y = nx q k
    · subst e
      rw [e0]
      obtain ⟨t, ht, rfl⟩ := mem_at hg
      exact hb.done t ht
    · exact hb.new_ y (by rw [set_ne (.inr e)]; exact hy) hy' g hg

/-! ### adding a generator -/
theorem Ap.same (h : UpTo N c k) (hkN : k ≤ N) (h1 : 1 ≤ N) (h2 : N ≤ 20) (hs : Sv N c k p) : Ap N k c c p := by
  have hp := (h.sv k (Nat.le_refl _) hkN p).1 hs
  refine ⟨h, .refl _ _, fun q => ⟨fun hq => hq.more fun g hg => List.mem_append_left _ hg, fun hq => hq.sub h1 h2 (h.pn (Nat.le_refl _) hkN) fun g hg => ?_⟩⟩
  rcases List.mem_append.1 hg with hg | hg
  · exact .of (h.pn (Nat.le_refl _) hkN g hg) hg
  · obtain rfl := List.mem_singleton.1 hg
    exact hp
/-- At the top there is nothing to add. -/
theorem Ap.top (h : UpTo N c N) (h1 : 1 ≤ N) (h2 : N ≤ 20) (hp : Pn N p) (hf : Fx N p) : Ap N N c c p := by
  refine .same h (Nat.le_refl _) h1 h2 ?_
  rw [hf.all hp]; exact .top
theorem UpTo.pushed (h : UpTo N c k) (hk : k < N) (h1 : 1 ≤ N) (h2 : N ≤ 20) (hp : Pn N p) (hf : Fx k p) : Low N (c.push k p) k := by
  have hl := h.low hk h1 h2
  refine ⟨hl.up.congr (fun _ _ _ => rfl) (fun j hj => push_ne (by omega)) hk, ⟨hl.rep.at_, hl.rep.one⟩, fun g hg => ?_, fun q hq => ?_, fun y hy => ?_⟩
  · rw [push_at] at hg
    rcases List.mem_append.1 hg with hg | hg
    · exact hl.gp g hg
    · obtain rfl := List.mem_singleton.1 hg
      exact ⟨hp, hf⟩
  · rw [push_ne (by omega)] at hq
    rw [push_at]
    exact (hl.sub _ hq).more fun g hg => List.mem_append_left _ hg
  · rw [push_at]
    exact (hl.inn _ hy).more fun g hg => List.mem_append_left _ hg
/-- The representatives of level k among the first m points, in order. -/
def knL (c : Ch) (k m : Nat) : List (List Int) := ((List.range m).filter fun y => !(c.rep k y).isEmpty).map (c.rep k)
theorem knL_mem {m : Nat} {r : List Int} : r ∈ knL c k m ↔ ∃ y, y < m ∧ c.rep k y ≠ [] ∧ c.rep k y = r := by
  simp only [knL, List.mem_map, List.mem_filter, List.mem_range, Bool.not_eq_true', List.isEmpty_eq_false_iff, and_assoc]
theorem knL_yes {m : Nat} (h : c.rep k m ≠ []) : knL c k (m + 1) = knL c k m ++ [c.rep k m] := by
  unfold knL; rw [List.range_succ, List.filter_append]; simp [List.isEmpty_eq_false_iff.2 h]
theorem knL_no {m : Nat} (h : c.rep k m = []) : knL c k (m + 1) = knL c k m := by
  unfold knL; rw [List.range_succ, List.filter_append]; simp [h]
theorem knL_len (m : Nat) : (knL c k m).length ≤ m := by
  unfold knL; rw [List.length_map]
  have := List.length_filter_le (fun y => !(c.rep k y).isEmpty) (List.range m)
  simpa using this
/-- The loop over the known representatives. -/
structure Al (N k : Nat) (c1 cj : Ch) (p : List Int) (j : Nat) : Prop where
  low : Low N cj k
  grw : Grw k c1 cj
  gen : cj.gen k = c1.gen k
  mono : ∀ p, Sv N c1 k p → Sv N cj k p
  new_ : ∀ y, c1.rep k y = [] → cj.rep k y ≠ [] → ∀ g ∈ c1.gen k, Sv N cj k (compL (cj.rep k y) g)
  done : ∀ t, t < j → Sv N cj k (compL ((knL c1 k N).getD t []) p)
theorem Al.start (h : Low N c k) : Al N k c c p 0 := ⟨h, .refl _ _, rfl, fun _ h => h, fun y a b => absurd a b, fun t ht => absurd ht (by omega)⟩
theorem Al.next {c1 cj : Ch} {j : Nat} (h : Al N k c1 cj p j) (hb : Bp N k cj c' (compL ((knL c1 k N).getD j []) p)) : Al N k c1 c' p (j + 1) := by
  refine ⟨hb.low, h.grw.trans hb.grw, by rw [hb.gen, h.gen], fun p hs => hb.mono _ (h.mono _ hs), fun y hy hy' g hg => ?_, fun t ht => ?_⟩
  · by_cases e : cj.rep k y = []
    · exact hb.new_ y e hy' g (by rw [h.gen]; exact hg)
    · rw [hb.grw.keep _ _ e]
      exact hb.mono _ (h.new_ y hy e g hg)
  · rcases Nat.lt_or_ge t j with hl | hl
    · exact hb.mono _ (h.done t hl)
    · obtain rfl : t = j := by omega
      exact hb.sv
/-- The products that the loop adds are of the level. -/
theorem kn_mb (h : Low N c k) {j : Nat} (hj : j < (knL c k N).length) (hp : p ∈ c.gen k) : Mb (c.gen k) N (compL ((knL c k N).getD j []) p) ∧ Pn N ((knL c k N).getD j []) := by
  have hm : (knL c k N).getD j [] ∈ knL c k N := by
    rw [List.getD_eq_getElem?_getD, List.getElem?_eq_getElem hj]; exact List.getElem_mem _
  obtain ⟨y, _, hy, e⟩ := knL_mem.1 hm
  rw [← e]
  exact ⟨.mul (h.inn y hy) hp, (h.rep.at_ y hy).2.1⟩
theorem Al.all {cj : Ch} (h : UpTo N c k) (hk : k < N) (h1 : 1 ≤ N) (h2 : N ≤ 20) (hp : Pn N p) (hf : Fx k p) (hs : ¬ Sv N c k p) (hb : Al N k (c.push k p) cj p (knL (c.push k p) k N).length) : Ap N k c cj p := by
  have hl := h.low hk h1 h2
  have hg1 : cj.gen k = c.gen k ++ [p] := by rw [hb.gen, push_at]
  have g0 : Grw k c (c.push k p) := ⟨fun _ _ _ => rfl, fun _ _ _ => rfl, fun i hi => push_ne (by omega)⟩
  have hG := g0.trans hb.grw
  have hclose : ∀ y, cj.rep k y ≠ [] → ∀ g ∈ cj.gen k, Sv N cj k (compL (cj.rep k y) g) := fun y hy g hg => by
    by_cases e : c.rep k y = []
    · exact hb.new_ y e hy g (by rw [← hb.gen]; exact hg)
    · rw [hG.keep _ _ e]
      rw [hg1] at hg
      rcases List.mem_append.1 hg with hg | hg
      · refine hb.mono _ (Sv.congr (c := c) ?_ fun _ _ _ => rfl)
        exact (h.sv k (Nat.le_refl _) (by omega) _).2 (.mul (hl.inn y e) hg)
      · obtain rfl := List.mem_singleton.1 hg
        obtain ⟨t, ht, et⟩ := mem_at (knL_mem.2 ⟨y, (hl.rep.at_ y e).1, e, rfl⟩ : c.rep k y ∈ knL (c.push k g) k N)
        rw [← et]
        exact hb.done t ht
  have hsv : Sv N cj k p := by
    obtain ⟨t, ht, et⟩ := mem_at (knL_mem.2 ⟨k, hk, by show c.rep k k ≠ []; rw [hl.rep.one]; intro e; have := idL_length N; rw [e] at this; simp at this; omega, rfl⟩ : c.rep k k ∈ knL (c.push k p) k N)
    have := hb.done t ht
    rw [et, hl.rep.one, hp.idl] at this
    exact this
  have hcnt : cnt N c k < cnt N cj k := by
    have hle := cnt_mono (N := N) hG k
    rcases Nat.lt_or_ge (cnt N c k) (cnt N cj k) with hlt | hge
    · exact hlt
    · exfalso
      refine hs (sv_back hsv (Nat.le_refl _) fun j y hj hjN hy => (cnt_same hG hge hj hjN hy).symm)
  refine ⟨hb.low.whole hk h1 h2 hclose ?_, hG, fun q => by rw [hg1]⟩
  rw [hg1, List.length_append]
  have := h.len k (Nat.le_refl _) hk
  simp; omega
end
end Go.Proofs.Ytoaaoikmkomofaa

/- Words for slices of slices of int64 that the call itself made. No condition. -/
namespace Go.Proofs.Ytoaaoikmkomofaa
open Go.RowKit

abbrev SV := Option Addr × Nat × Nat
def sval (d : SV) : Value := .slice d.1 d.2.1 d.2.2
def sd0 : SV := (none, 0, 0)

/-- '.slice A n c' is a row of the call's own of n slices vs, which are rows of the call's own that hold the lists xss; no two of them share a block. -/
structure SS (w : World) (base bi : Nat) (A : Option Addr) (n c : Nat) (vs : List SV) (xss : List (List Int)) : Prop where
  own : w.ownsRow base 25 1 (.slice A n c) n (vs.map sval)
  lv : vs.length = n
  lx : xss.length = n
  row : ∀ i, i < n → Slc w bi (vs.getD i sd0).1 (vs.getD i sd0).2.1 (vs.getD i sd0).2.2 (xss.getD i [])
  dis : ∀ i j, i < j → j < n → (sval (vs.getD i sd0)).ownBlock = none ∨ (sval (vs.getD i sd0)).ownBlock ≠ (sval (vs.getD j sd0)).ownBlock

theorem infoS : (Try.prog.info? 25).map (fun i => (i.zero, i.size, i.bytes)) = some (some (.slice none 0 0), 1, 24) := by kernel_rfl

theorem getD_app {α : Type} (l l' : List α) (d : α) (i : Nat) (h : i < l.length) : (l ++ l').getD i d = l.getD i d := by
  rw [List.getD_eq_getElem?_getD, List.getElem?_append_left h, ← List.getD_eq_getElem?_getD]
theorem getD_snoc {α : Type} (l : List α) (x d : α) (i : Nat) (h : i = l.length) : (l ++ [x]).getD i d = x := by
  subst h
  rw [List.getD_eq_getElem?_getD, List.getElem?_append_right (Nat.le_refl _), Nat.sub_self]; rfl

section
variable {w w' : World} {base bi n c B : Nat} {A : Option Addr} {vs : List SV} {xss : List (List Int)}
theorem SS.nil_ : SS w base bi none 0 0 [] [] := ⟨World.ownsRow_nil _ _ _ _, rfl, rfl, fun i h => absurd h (by omega), fun i j _ h => absurd h (by omega)⟩
theorem SS.lit0 (w : World) (base bi : Nat) (hb : base ≤ w.heap.size) : SS (w.alloc (.cells #[] 25)) base bi (some ⟨w.heap.size, 0, none⟩) 0 0 [] [] :=
  ⟨World.ownsRow_lit (size := 1) w #[] 0 hb (Nat.zero_le _) rfl, rfl, rfl, fun i h => absurd h (by omega), fun i j _ h => absurd h (by omega)⟩
/-- An inner row never lies in the outer row's block: their elements' types differ. -/
theorem apart_types {a n' c' : Nat} {A' : Option Addr} {xs : List Int} {base' : Nat} {v : Value} {ys : List Value} (h : Slc w base' A' n' c' xs) (ho : w.ownsRow base 25 1 v a ys) :
    (Value.slice A' n' c').ownBlock = none ∨ (Value.slice A' n' c').ownBlock ≠ v.ownBlock := by
  rcases h.2.2 with ⟨e, _⟩ | ⟨g, cap, cur, e, hb, hg, _⟩
  · left; rw [e]; rfl
  · right
    rw [e]
    rcases ho.2 with ⟨rfl, _⟩ | ⟨g', cap', cur', rfl, hb', hg', _⟩
    · simp [Value.ownBlock]
    · simp only [Value.ownBlock]
      intro e2
      injection e2 with e2
      subst e2
      rw [hg] at hg'
      injection hg' with hg'
      injection hg' with _ ht
      exact absurd ht (by decide)
theorem SS.below_lt (h : SS w base bi A n c vs xss) (hb : Below B w w') (hB : w.heap.size ≤ B) : SS w' base bi A n c vs xss := by
  refine ⟨⟨h.own.1, ?_⟩, h.lv, h.lx, fun i hi => (h.row i hi).below hb hB, h.dis⟩
  rcases h.own.2 with hn | ⟨g, cap, cur, e, hb', hg, rest⟩
  · exact .inl hn
  · exact .inr ⟨g, cap, cur, e, hb', by rw [hb.block g (by have := (Array.getElem?_eq_some_iff.1 hg).1; omega)]; exact hg, rest⟩
theorem SS.up (h : SS w base bi A n c vs xss) (hb : Below w.heap.size w w') : SS w' base bi A n c vs xss := h.below_lt hb (Nat.le_refl _)
theorem SS.drewN (h : SS w base bi A n c vs xss) (k : Nat) : SS (w.drewN k) base bi A n c vs xss := ⟨h.own, h.lv, h.lx, fun i hi => (h.row i hi).drewN k, h.dis⟩
theorem SS.mono (h : SS w base bi A n c vs xss) {base' bi' : Nat} (hb : base' ≤ base) (hi' : bi' ≤ bi) : SS w base' bi' A n c vs xss := by
  refine ⟨⟨h.own.1, ?_⟩, h.lv, h.lx, fun i hi => (h.row i hi).mono hi', h.dis⟩
  rcases h.own.2 with hn | ⟨g, cap, cur, e, hb', rest⟩
  · exact .inl hn
  · exact .inr ⟨g, cap, cur, e, by omega, rest⟩
theorem SS.alloc (h : SS w base bi A n c vs xss) (o : Obj) : SS (w.alloc o) base bi A n c vs xss := ⟨World.ownsRow.alloc h.own o, h.lv, h.lx, fun i hi => (h.row i hi).alloc o, h.dis⟩
/-- The outer row's cells. -/
theorem SS.at_ (h : SS w base bi A n c vs xss) (hn : 0 < n) : ∃ g, A = some ⟨g, 0, none⟩ ∧ base ≤ g ∧ g < w.heap.size ∧ ∀ i, i < n → w.cell? ⟨g, i, none⟩ = some (.slice (vs.getD i sd0).1 (vs.getD i sd0).2.1 (vs.getD i sd0).2.2) := by
  rcases h.own.2 with ⟨e, h0⟩ | ⟨g, cap, cur, e, hb, hg, rest⟩
  · omega
  · injection e with e1 e2 e3
    subst e1
    refine ⟨g, rfl, hb, (Array.getElem?_eq_some_iff.1 hg).1, fun i hi => ?_⟩
    rw [h.own.cellAt i (by omega), List.getElem?_map, List.getD_eq_getElem?_getD, List.getElem?_eq_getElem (by rw [h.lv]; exact hi)]
    rfl
theorem SS.lt_ (h : SS w base bi A n c vs xss) : ∀ k, (Value.slice A n c).ownBlock = some k → base ≤ k ∧ k < w.heap.size := World.ownsRow.lt h.own

/-- append of one slice onto a slice of slices of the call's own. -/
theorem wpList_app2_at {ops : Array Oper} {rest : List Oper} {o : Oper} {a : Act} {Q : Exit → Act → World → Prop} (hgd : o.guard = none) (s x : Operand)
    (ho : o.op = .call { callee := .builtin .append, args := #[s, x], argTypes := #[24, 24] })
    (hs : a.eval s = .slice A n c) (hss : SS w base bi A n c vs xss) (g : Nat) (dA : Option Addr) (dn dc : Nat) (ys : List Int) (hx : a.eval x = .slice (some ⟨g, 0, none⟩) 1 1)
    (hcell : w.cell? ⟨g, 0, none⟩ = some (.slice dA dn dc)) (hys : Slc w bi dA dn dc ys)
    (hdis : ∀ i, i < n → (sval (vs.getD i sd0)).ownBlock = none ∨ (sval (vs.getD i sd0)).ownBlock ≠ (Value.slice dA dn dc).ownBlock) (hn : n ≤ 1000000000) (hbase : base ≤ w.heap.size)
    (h : ∀ A' c' w', SS w' base bi A' (n + 1) c' (vs ++ [(dA, dn, dc)]) (xss ++ [ys]) → w.grownBy w' (Value.slice A n c).ownBlock → ((Value.slice A' (n + 1) c').ownBlock = (Value.slice A n c).ownBlock ∨ (Value.slice A' (n + 1) c').ownBlock = some w.heap.size) → wpList Try.prog ops Q rest (a.put o.dst (.slice A' (n + 1) c')) w') : wpList Try.prog ops Q (o :: rest) a w := by
  obtain ⟨i0, hi, hz0, hz1, hz2⟩ := info_parts infoS
  refine wpList_append_own_at w hgd s x 24 ho base 25 i0 (.slice none 0 0) 1 24 Try.underlying24 hi hz0 hz1 hz2 rfl (by decide) _ n _ hs hss.own ⟨g, 0, none⟩ 1 1 [.slice dA dn dc] hx rfl ?_ ?_ ?_ (by omega) hbase ?_
  · intro j v hj
    match j, hj with
    | 0, hj => simp at hj; subst hj; simpa [Addr.add] using hcell
    | j + 1, hj => simp at hj
  · intro v hv; simp at hv; subst hv; rfl
  · unfold maxLen; omega
  · intro v' w' hown' hg _ hat
    have hform : ∃ A' c', v' = .slice A' (n + 1) c' := by
      rcases hown'.2 with ⟨rfl, h0⟩ | ⟨g', cap, cur, rfl, _⟩
      · omega
      · exact ⟨_, _, rfl⟩
    obtain ⟨A', c', rfl⟩ := hform
    refine h A' c' w' ⟨?_, by simp [hss.lv], by simp [hss.lx], fun i hi' => ?_, fun i j hij hj => ?_⟩ hg hat
    · rw [List.map_append]; exact hown'
    · by_cases e : i < n
      · rw [getD_app _ _ _ _ (by rw [hss.lv]; exact e), getD_app _ _ _ _ (by rw [hss.lx]; exact e)]
        exact (hss.row i e).kept hg (apart_types (hss.row i e) hss.own)
      · obtain rfl : i = n := by omega
        rw [getD_snoc _ _ _ _ hss.lv.symm, getD_snoc _ _ _ _ hss.lx.symm]
        exact hys.kept hg (apart_types hys hss.own)
    · rw [getD_app _ _ _ i (by rw [hss.lv]; omega)]
      by_cases e : j < n
      · rw [getD_app _ _ _ j (by rw [hss.lv]; exact e)]; exact hss.dis i j hij e
      · obtain rfl : j = n := by omega
        rw [getD_snoc _ _ _ _ hss.lv.symm]
        exact hdis i hij
/-- append of one slice onto a slice of slices of the call's own. -/
theorem wpList_app2 {ops : Array Oper} {rest : List Oper} {o : Oper} {a : Act} {Q : Exit → Act → World → Prop} (hgd : o.guard = none) (s x : Operand)
    (ho : o.op = .call { callee := .builtin .append, args := #[s, x], argTypes := #[24, 24] })
    (hs : a.eval s = .slice A n c) (hss : SS w base bi A n c vs xss) (g : Nat) (dA : Option Addr) (dn dc : Nat) (ys : List Int) (hx : a.eval x = .slice (some ⟨g, 0, none⟩) 1 1)
    (hcell : w.cell? ⟨g, 0, none⟩ = some (.slice dA dn dc)) (hys : Slc w bi dA dn dc ys)
    (hdis : ∀ i, i < n → (sval (vs.getD i sd0)).ownBlock = none ∨ (sval (vs.getD i sd0)).ownBlock ≠ (Value.slice dA dn dc).ownBlock) (hn : n ≤ 1000000000) (hbase : base ≤ w.heap.size)
    (h : ∀ A' c' w', SS w' base bi A' (n + 1) c' (vs ++ [(dA, dn, dc)]) (xss ++ [ys]) → w.grownBy w' (Value.slice A n c).ownBlock → wpList Try.prog ops Q rest (a.put o.dst (.slice A' (n + 1) c')) w') : wpList Try.prog ops Q (o :: rest) a w :=
  wpList_app2_at hgd s x ho hs hss g dA dn dc ys hx hcell hys hdis hn hbase fun A' c' w' h1 h2 _ => h A' c' w' h1 h2
/-- What lies from block lo on is kept where those blocks are. -/
theorem Slc.mid {base n c lo : Nat} {A : Option Addr} {xs : List Int} (h : Slc w base A n c xs) (hm : ∀ k, lo ≤ k → k < w.heap.size → w'.heap[k]? = w.heap[k]?) (hl : lo ≤ base) : Slc w' base A n c xs := by
  refine ⟨h.1, h.2.1, ?_⟩
  rcases h.2.2 with hn | ⟨g, cap, cur, e, hb, hg, rest⟩
  · exact .inl hn
  · exact .inr ⟨g, cap, cur, e, hb, by rw [hm g (by omega) (Array.getElem?_eq_some_iff.1 hg).1]; exact hg, rest⟩
theorem SS.mid {lo : Nat} (h : SS w base bi A n c vs xss) (hm : ∀ k, lo ≤ k → k < w.heap.size → w'.heap[k]? = w.heap[k]?) (hl : lo ≤ base) (hi : lo ≤ bi) : SS w' base bi A n c vs xss := by
  refine ⟨⟨h.own.1, ?_⟩, h.lv, h.lx, fun i hi' => (h.row i hi').mid hm hi, h.dis⟩
  rcases h.own.2 with hn | ⟨g, cap, cur, e, hb, hg, rest⟩
  · exact .inl hn
  · exact .inr ⟨g, cap, cur, e, hb, by rw [hm g (by omega) (Array.getElem?_eq_some_iff.1 hg).1]; exact hg, rest⟩
end
theorem lies_dis {w : World} {base bi n c : Nat} {A : Option Addr} {vs : List SV} {xss : List (List Int)} (h : SS w base bi A n c vs xss) {dA : Option Addr} {dn dc lo hi : Nat} (l : Lies dA dn dc lo hi) (hlo : w.heap.size ≤ lo) :
    ∀ i, i < n → (sval (vs.getD i sd0)).ownBlock = none ∨ (sval (vs.getD i sd0)).ownBlock ≠ (Value.slice dA dn dc).ownBlock :=
  fun i hi => (h.row i hi).lies.apart l (.inl hlo)
end Go.Proofs.Ytoaaoikmkomofaa
