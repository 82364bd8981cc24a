/- Part 1 of the texts: Base, Help, SS, SSx, Math, Perm, OrM, Gen, Ident, Comp, Inv, GrpM. No condition of its own: each text tells its own. -/
import Derived.WalkKit
import Derived.Test.YtkjokchhffjidaaProg
import Derived.Maps.AppendAt
import Derived.Deep.Draws
import Derived.Lib.Hide
import Derived.Deep.QuietTactic
import Derived.BigQuiet
import Derived.WalkSpells
set_option linter.unusedVariables false
set_option linter.unusedSimpArgs false

/- Words for the walks of this seat: a slice of int64 that reads as a list; a row of the call's own; how both are kept. No condition. -/
namespace Go.Proofs.Ytkjokchhffjidaa
open Go.RowKit

/-- The slice at A reads as the numbers xs, in blocks below B. -/
def RI (w : World) (B : Nat) (A : Option Addr) (xs : List Int) : Prop :=
  0 < xs.length → ∃ b off, A = some ⟨b, off, none⟩ ∧ b < B ∧ ∀ j, j < xs.length → w.cell? ⟨b, off + j, none⟩ = some (.int .i64 (xs.getD j 0))

section
variable {w w' : World} {B B' : Nat} {A : Option Addr} {xs : List Int}
theorem RI.nil_ : RI w B A [] := fun h => absurd h (by simp)
theorem RI.keep (h : RI w B A xs) (hk : ∀ p : Addr, p.block < B → w'.cell? p = w.cell? p) : RI w' B A xs := fun hn => by
  obtain ⟨b, off, e, hb, hc⟩ := h hn
  exact ⟨b, off, e, hb, fun j hj => (hk ⟨b, off + j, none⟩ hb).trans (hc j hj)⟩
theorem RI.more (h : RI w B A xs) (hB : B ≤ B') : RI w B' A xs := fun hn => by
  obtain ⟨b, off, e, hb, hc⟩ := h hn
  exact ⟨b, off, e, by omega, hc⟩
theorem RI.below (h : RI w B A xs) {B' : Nat} (hb : Below B' w w') (hB : B ≤ B') : RI w' B A xs := h.keep fun _ hp => hb.cell (by omega)
theorem RI.drew (h : RI w B A xs) : RI w.drew B A xs := h
theorem RI.drewN (h : RI w B A xs) (k : Nat) : RI (w.drewN k) B A xs := h
theorem RI.alloc (h : RI w B A xs) (hB : B ≤ w.heap.size) (o : Obj) : RI (w.alloc o) B A xs := h.keep fun p hp => World.cell?_alloc_lt w o p (by omega)
theorem RI.setCell (h : RI w B A xs) {p : Addr} (hB : B ≤ p.block) (u : Value) : RI (w.setCell p u) B A xs :=
  h.keep fun q hq => World.cell?_setCell_other w p q u (fun e => by subst e; omega)
theorem RI.grown (h : RI w B A xs) {row : Option Nat} (hg : w.grownBy w' row) (hB : B ≤ w.heap.size) (hr : ∀ g, row = some g → B ≤ g) : RI w' B A xs :=
  h.keep fun p hp => World.cell?_of_block (hg.block p.block (by omega) (fun e => by have := hr _ e.symm; omega))
end

/-- v is a row of the call's own, from block base on, that holds the numbers xs. -/
def Own (w : World) (base : Nat) (v : Value) (xs : List Int) : Prop := w.ownsRow base 2 1 v xs.length (xs.map (Value.int .i64))

section
variable {w w' : World} {base B : Nat} {v : Value} {xs : List Int}
/-- The value written out: its address, its capacity; it reads as xs. -/
theorem Own.form (h : Own w base v xs) : ∃ A c, v = .slice A xs.length c ∧ RI w w.heap.size A xs ∧ (∀ b off, A = some ⟨b, off, none⟩ → base ≤ b ∧ b < w.heap.size ∧ off = 0) ∧ (A = none → xs = [] ∧ c = 0) ∧ xs.length ≤ maxLen := by
  rcases h.2 with ⟨rfl, h0⟩ | ⟨g, cap, cur, rfl, hb, hg, hn, hm, hcs, htake⟩
  · obtain rfl : xs = [] := List.eq_nil_of_length_eq_zero h0
    exact ⟨none, 0, rfl, RI.nil_, fun _ _ e => (nomatch e), fun _ => ⟨rfl, rfl⟩, Nat.zero_le _⟩
  · have hlt : g < w.heap.size := (Array.getElem?_eq_some_iff.1 hg).1
    refine ⟨some ⟨g, 0, none⟩, cap, rfl, fun _ => ⟨g, 0, rfl, hlt, fun j hj => ?_⟩, fun b off e => (by injection e with e; injection e with e1 e2; subst e1; subst e2; exact ⟨hb, hlt, rfl⟩), fun e => (nomatch e), Nat.le_trans hn hm⟩
    have := h.cells (g := g) rfl j (.int .i64 (xs.getD j 0)) (by rw [List.getElem?_map, List.getD_eq_getElem?_getD, List.getElem?_eq_getElem hj]; rfl)
    rw [← this]
    unfold Addr.add
    split <;> simp_all
theorem Own.kept (h : Own w base v xs) {row : Option Nat} (hg : w.grownBy w' row) (hne : v.ownBlock = none ∨ v.ownBlock ≠ row) : Own w' base v xs := World.ownsRow.kept h hg hne
theorem Own.alloc (h : Own w base v xs) (o : Obj) : Own (w.alloc o) base v xs := World.ownsRow.alloc h o
theorem Own.below (h : Own w base v xs) (hb : Below B w w') (hv : ∀ k, v.ownBlock = some k → k < B) : Own w' base v xs := by
  refine ⟨h.1, ?_⟩
  rcases h.2 with hn | ⟨g, cap, cur, rfl, hb', hg, rest⟩
  · exact .inl hn
  · exact .inr ⟨g, cap, cur, rfl, hb', by rw [hb.block g (hv g rfl)]; exact hg, rest⟩
theorem Own.drewN (h : Own w base v xs) (n : Nat) : Own (w.drewN n) base v xs := h
theorem Own.mono (h : Own w base v xs) {base' : Nat} (hb : base' ≤ base) : Own w base' v xs := by
  refine ⟨h.1, ?_⟩
  rcases h.2 with hn | ⟨g, cap, cur, rfl, hb', rest⟩
  · exact .inl hn
  · exact .inr ⟨g, cap, cur, rfl, by omega, rest⟩
theorem Own.lt_ (h : Own w base v xs) : ∀ k, v.ownBlock = some k → base ≤ k ∧ k < w.heap.size := World.ownsRow.lt h
end

/-- The slice value '.slice A n c' is a row of the call's own, from block base on; it holds the numbers xs. -/
def Slc (w : World) (base : Nat) (A : Option Addr) (n c : Nat) (xs : List Int) : Prop := xs.length = n ∧ Own w base (.slice A n c) xs
section
variable {w w' : World} {base n c B : Nat} {A : Option Addr} {xs : List Int}
theorem Slc.hid (h : Slc w base A n c xs) : Hid (xs.length = n) := Lib.hid h.1
theorem Slc.of_own {v : Value} (h : Own w base v xs) (hn : xs.length = n) : ∃ A c, v = .slice A n c ∧ Slc w base A n c xs := by
  subst hn
  obtain ⟨A, c, rfl, _⟩ := h.form
  exact ⟨A, c, rfl, rfl, h⟩
theorem Slc.ri (h : Slc w base A n c xs) (hB : w.heap.size ≤ B) : RI w B A xs := by
  obtain ⟨A', c', e, r, _⟩ := h.2.form
  injection e with e1 e2 e3
  subst e1
  exact r.more hB
theorem Slc.le (h : Slc w base A n c xs) : n ≤ c ∧ n ≤ maxLen := by
  rcases h.2.2 with ⟨e, h0⟩ | ⟨g, cap, cur, e, hb, hg, hn, hm, hcs, htake⟩
  · injection e with e1 e2 e3; subst e2; subst e3; exact ⟨Nat.zero_le _, Nat.zero_le _⟩
  · injection e with e1 e2 e3; subst e2; subst e3; exact ⟨hn, Nat.le_trans hn hm⟩
theorem Slc.at_ (h : Slc w base A n c xs) : (A = none ∧ xs = [] ∧ n = 0 ∧ c = 0) ∨ ∃ g, A = some ⟨g, 0, none⟩ ∧ base ≤ g ∧ g < w.heap.size := by
  rcases h.2.2 with ⟨e, h0⟩ | ⟨g, cap, cur, e, hb, hg, hn, hm, hcs, htake⟩
  · injection e with e1 e2 e3; exact .inl ⟨e1, List.eq_nil_of_length_eq_zero h0, e2, e3⟩
  · injection e with e1 e2 e3; exact .inr ⟨g, e1, hb, (Array.getElem?_eq_some_iff.1 hg).1⟩
theorem Slc.lt_ (h : Slc w base A n c xs) : ∀ k, (Value.slice A n c).ownBlock = some k → base ≤ k ∧ k < w.heap.size := h.2.lt_
theorem Slc.kept (h : Slc w base A n c xs) {row : Option Nat} (hg : w.grownBy w' row) (hne : (Value.slice A n c).ownBlock = none ∨ (Value.slice A n c).ownBlock ≠ row) : Slc w' base A n c xs := ⟨h.1, h.2.kept hg hne⟩
theorem Slc.below (h : Slc w base A n c xs) (hb : Below B w w') (hB : w.heap.size ≤ B) : Slc w' base A n c xs := ⟨h.1, h.2.below hb fun k e => by have := (h.lt_ k e).2; omega⟩
theorem Slc.below_lt (h : Slc w base A n c xs) (hb : Below B w w') (hB : ∀ k, (Value.slice A n c).ownBlock = some k → k < B) : Slc w' base A n c xs := ⟨h.1, h.2.below hb hB⟩
theorem Slc.mono (h : Slc w base A n c xs) {base' : Nat} (hb : base' ≤ base) : Slc w base' A n c xs := ⟨h.1, h.2.mono hb⟩
theorem Slc.alloc (h : Slc w base A n c xs) (o : Obj) : Slc (w.alloc o) base A n c xs := ⟨h.1, h.2.alloc o⟩
theorem Slc.drewN (h : Slc w base A n c xs) (k : Nat) : Slc (w.drewN k) base A n c xs := h
theorem Slc.nil_ : Slc w base none 0 0 [] := ⟨rfl, World.ownsRow_nil _ _ _ _⟩
end

/-- What the frame of a proof knows of a slice of int64 that came in, as RI. -/
theorem RI.of_row {w : World} {a : Option Addr} {len cap : Nat} {zs : List Int}
    (h : (a = none ∧ len = 0 ∧ cap = 0 ∧ zs = []) ∨ ∃ x, a = some x ∧ len ≤ cap ∧ cap ≤ maxLen ∧ zs.length = cap ∧ (∀ i, i < zs.length → w.cell? (x.add i) = some (.int .i64 (zs.getD i 0))) ∧ ∀ n ∈ zs, (Lit.int .i64 n).wf = true) :
    ∃ xs : List Int, Hid (xs.length = len) ∧ RI w w.heap.size a xs := by
  rcases h with ⟨rfl, rfl, rfl, rfl⟩ | ⟨⟨b, off, spot⟩, rfl, hl, hm, hz, hc, hw⟩
  · exact ⟨[], Lib.hid rfl, RI.nil_⟩
  · refine ⟨zs.take len, Lib.hid (by rw [List.length_take]; omega), fun hp => ?_⟩
    rw [List.length_take] at hp
    have h0 := hc 0 (by omega)
    have hspot : spot = none := by simpa [Addr.add] using World.cell?_spot h0
    subst hspot
    refine ⟨b, off, rfl, ?_, fun j hj => ?_⟩
    · have := World.block_lt_of_cell? w _ h0
      simpa [Addr.add] using this
    · rw [List.length_take] at hj
      rw [List.getD_eq_getElem?_getD, List.getElem?_take, if_pos (by omega), ← List.getD_eq_getElem?_getD, ← hc j (by omega)]
      unfold Addr.add
      split <;> simp_all

/-- A row at the head of block g, of length n, that holds the numbers xs. -/
def Row (w : World) (base g n c : Nat) (xs : List Int) : Prop := xs.length = n ∧ w.ownsRow base 2 1 (.slice (some ⟨g, 0, none⟩) n c) n (xs.map (Value.int .i64))
section
variable {w w' : World} {base g n c B : Nat} {xs : List Int}
theorem Row.own (h : Row w base g n c xs) : Own w base (.slice (some ⟨g, 0, none⟩) n c) xs := by
  obtain ⟨rfl, h⟩ := h; exact h
theorem Row.slc (h : Row w base g n c xs) : Slc w base (some ⟨g, 0, none⟩) n c xs := ⟨h.1, by obtain ⟨rfl, h⟩ := h; exact h⟩
theorem Row.of_own (h : Own w base (.slice (some ⟨g, 0, none⟩) n c) xs) : Row w base g n c xs := by
  obtain ⟨A, c', e, _⟩ := h.form
  injection e with _ e1
  subst e1
  exact ⟨rfl, h⟩
theorem Row.cell (h : Row w base g n c xs) {j : Nat} (hj : j < n) : w.cell? ⟨g, j, none⟩ = some (.int .i64 (xs.getD j 0)) := by
  have hl := h.1
  rw [h.2.cellAt j (by omega), List.getElem?_map, List.getD_eq_getElem?_getD, List.getElem?_eq_getElem (by omega)]; rfl
theorem Row.free (h : Row w base g n c xs) (j : Nat) : w.frozen? ⟨g, j, none⟩ = false := h.2.frozenAt j
theorem Row.store (h : Row w base g n c xs) (j : Nat) (u : Int) : Row (w.setCell ⟨g, j, none⟩ (.int .i64 u)) base g n c (xs.set j u) := by
  refine ⟨by rw [List.length_set]; exact h.1, ?_⟩
  rw [List.map_set]
  exact (h.2.stored j _).1
theorem Row.lt_ (h : Row w base g n c xs) : base ≤ g ∧ g < w.heap.size := World.ownsRow.lt h.2 g rfl
theorem Row.ri (h : Row w base g n c xs) (hB : g < B) : RI w B (some ⟨g, 0, none⟩) xs := fun _ => ⟨g, 0, rfl, hB, fun j hj => by rw [Nat.zero_add]; exact h.cell (by have := h.1; omega)⟩
theorem Row.kept (h : Row w base g n c xs) {row : Option Nat} (hg : w.grownBy w' row) (hne : some g ≠ row) : Row w' base g n c xs := ⟨h.1, World.ownsRow.kept h.2 hg (.inr hne)⟩
theorem Row.alloc (h : Row w base g n c xs) (o : Obj) : Row (w.alloc o) base g n c xs := ⟨h.1, World.ownsRow.alloc h.2 o⟩
theorem Row.drew (h : Row w base g n c xs) : Row w.drew base g n c xs := h
theorem Row.drewN (h : Row w base g n c xs) (k : Nat) : Row (w.drewN k) base g n c xs := h
theorem Row.below (h : Row w base g n c xs) (hb : Below B w w') (hg : g < B) : Row w' base g n c xs :=
  Row.of_own (h.own.below hb fun k e => by simp [Value.ownBlock] at e; omega)
theorem Row.mono (h : Row w base g n c xs) {base' : Nat} (hb : base' ≤ base) : Row w base' g n c xs := ⟨h.1, (Own.mono h.own hb).1.trans (by rw [h.1]), by have := (Own.mono h.own hb).2; rw [h.1] at this; exact this⟩
theorem Row.made (h : w.ownsRow base 2 1 (.slice (some ⟨g, 0, none⟩) n c) n (madeCells (Value.int .i64 0).cells (n * 1)).toList) : Row w base g n c (List.replicate n 0) := by
  refine ⟨by simp, ?_⟩
  have e : (madeCells (Value.int .i64 0).cells (n * 1)).toList = (List.replicate n (0 : Int)).map (Value.int .i64) := by
    show (madeCells #[Value.int .i64 0] (n * 1)).toList = _
    rw [toList_madeCells_one]; simp
  rw [← e]; exact h
end

/-- Where a slice's block may lie: from lo on, below hi. -/
def Lies (A : Option Addr) (n c lo hi : Nat) : Prop := ∀ k, (Value.slice A n c).ownBlock = some k → lo ≤ k ∧ k < hi
theorem Slc.lies {w : World} {base n c : Nat} {A : Option Addr} {xs : List Int} (h : Slc w base A n c xs) : Lies A n c base w.heap.size := h.lt_
theorem Lies.apart {A A' : Option Addr} {n c n' c' lo hi lo' hi' : Nat} (h : Lies A n c lo hi) (h' : Lies A' n' c' lo' hi') (hb : hi ≤ lo' ∨ hi' ≤ lo) :
    (Value.slice A n c).ownBlock = none ∨ (Value.slice A n c).ownBlock ≠ (Value.slice A' n' c').ownBlock := by
  rcases e : (Value.slice A n c).ownBlock with _ | k
  · exact .inl rfl
  · right
    intro e'
    have := h k e
    have := h' k e'.symm
    omega
theorem Slc.far {w w' : World} {base n c lo hi n' c' lo' hi' : Nat} {A A' : Option Addr} {xs : List Int} (h : Slc w base A n c xs) (hg : w.grownBy w' (Value.slice A' n' c').ownBlock)
    (l : Lies A n c lo hi) (l' : Lies A' n' c' lo' hi') (hb : hi ≤ lo' ∨ hi' ≤ lo) : Slc w' base A n c xs := h.kept hg (l.apart l' hb)
theorem below_mark {B : Nat} {w w' : World} {n c lo hi : Nat} {A : Option Addr} (hg : w.grownBy w' (Value.slice A n c).ownBlock) (l : Lies A n c lo hi) (hB : B ≤ lo) (hw : B ≤ w.heap.size) : Below B w w' :=
  (Below.refl B w).grown hg hw (fun k e => by have := l k e; omega)

/-- Block g is just the cells cs of type t, none frozen. -/
def Blk (w : World) (g : Nat) (t : TypeId) (cs : Array Value) : Prop := w.heap[g]? = some (.cells cs t (0, 0))
section
variable {w w' : World} {g : Nat} {t : TypeId} {cs : Array Value}
theorem Blk.lt (h : Blk w g t cs) : g < w.heap.size := by
  rcases Nat.lt_or_ge g w.heap.size with hlt | hge
  · exact hlt
  · unfold Blk at h; rw [Array.getElem?_eq_none hge] at h; cases h
theorem Blk.cell (h : Blk w g t cs) (i : Nat) : w.cell? ⟨g, i, none⟩ = cs[i]? := cell_of_row w g i cs t (0, 0) h
theorem Blk.frozen (h : Blk w g t cs) (i : Nat) : w.frozen? ⟨g, i, none⟩ = false := by
  unfold Blk at h
  simp [World.frozen?, h]
theorem Blk.new (w : World) (t : TypeId) (cs : Array Value) : Blk (w.alloc (.cells cs t)) w.heap.size t cs := heap_alloc_new w _
theorem Blk.drewN (h : Blk w g t cs) (n : Nat) : Blk (w.drewN n) g t cs := h
theorem Blk.alloc (h : Blk w g t cs) (o : Obj) : Blk (w.alloc o) g t cs := (Below.heap_alloc w o g h.lt).trans h
theorem Blk.set_ (h : Blk w g t cs) (i : Nat) (u : Value) : Blk (w.setCell ⟨g, i, none⟩ u) g t (cs.setIfInBounds i u) := by
  unfold Blk at h ⊢
  simp [World.setCell, Array.getElem?_modify, h]
theorem Blk.far (h : Blk w g t cs) {p : Addr} (hp : g ≠ p.block) (u : Value) : Blk (w.setCell p u) g t cs := (Below.heap_setCell w p u g hp).trans h
theorem Blk.below {B : Nat} (h : Blk w g t cs) (hb : Below B w w') (hg : g < B) : Blk w' g t cs := (hb.block g hg).trans h
theorem Blk.grown {row : Option Nat} (h : Blk w g t cs) (hb : w.grownBy w' row) (hg : some g ≠ row) : Blk w' g t cs := (hb.block g h.lt hg).trans h
end

theorem quiet_add {P : Program} {f : FuncId} {args : Array Value} {w : World} {a n : Nat} {v : Value}
    (h : Calls P f args (w.drewN (a + n)) fun e w' => e = .returned v ∧ ∃ m, w' = (w.drewN (a + n)).drewN m) :
    Calls P f args (w.drewN (a + n)) fun e w'' => e = .returned v ∧ ∃ m, w'' = w.drewN (a + m) :=
  h.mono fun _ _ ⟨he, m, hm⟩ => ⟨he, n + m, by rw [hm, World.drewN_drewN, Nat.add_assoc]⟩
theorem quiet_add_left {P : Program} {f : FuncId} {args : Array Value} {w : World} {a n : Nat} {v : Value}
    (h : Calls P f args (w.drewN (a + n)) fun e w' => e = .returned v ∧ w.drewN (a + n) = w') :
    Calls P f args (w.drewN (a + n)) fun e w'' => e = .returned v ∧ ∃ m, w'' = w.drewN (a + m) :=
  h.mono fun _ _ ⟨he, hm⟩ => ⟨he, n, hm.symm⟩
theorem quiet_left {P : Program} {f : FuncId} {args : Array Value} {w : World} {n : Nat} {v : Value}
    (h : Calls P f args (w.drewN n) fun e w' => e = .returned v ∧ w.drewN n = w') : Calls P f args (w.drewN n) fun e w'' => e = .returned v ∧ ∃ m, w'' = w.drewN m :=
  h.mono fun _ _ ⟨he, hm⟩ => ⟨he, n, hm.symm⟩
theorem btr {a b c : World} (h : Below a.heap.size a b) (k : Below b.heap.size b c) : Below a.heap.size a c := h.trans (k.mono h.size)
theorem quiet_below {P : Program} {f : FuncId} {args : Array Value} {w : World} {e0 : Ending}
    (h : Calls P f args w fun e w' => e = e0 ∧ ∃ m, w' = w.drewN m) : Calls P f args w fun e w' => e = e0 ∧ Below w.heap.size w w' :=
  h.mono fun _ _ ⟨he, m, hm⟩ => ⟨he, by rw [hm]; exact ⟨rfl, rfl, rfl, Nat.le_refl _, fun _ _ => rfl⟩⟩
/-- What came in still reads so behind the call. -/
theorem RI.up {w w' : World} {A : Option Addr} {xs : List Int} (h : RI w w.heap.size A xs) (hb : Below w.heap.size w w') : RI w' w'.heap.size A xs := (h.below hb (Nat.le_refl _)).more hb.size
theorem Slc.up {w w' : World} {base n c : Nat} {A : Option Addr} {xs : List Int} (h : Slc w base A n c xs) (hb : Below w.heap.size w w') : Slc w' base A n c xs := h.below hb (Nat.le_refl _)
theorem Slc.ri_ {w : World} {base n c : Nat} {A : Option Addr} {xs : List Int} (h : Slc w base A n c xs) : RI w w.heap.size A xs := h.ri (Nat.le_refl _)
theorem infoI : (Try.prog.info? 2).map (fun i => (i.zero, i.size, i.bytes)) = some (some (.int .i64 0), 1, 8) := by kernel_rfl

/-- append of one number onto a slice of the call's own. -/
theorem wpList_app1 {w : World} {ops : Array Oper} {rest : List Oper} {o : Oper} {a : Act} {Q : Exit → Act → World → Prop} (hgd : o.guard = none) (s x : Operand)
    (ho : o.op = .call { callee := .builtin .append, args := #[s, x], argTypes := #[27, 27] })
    (base : Nat) (A : Option Addr) (n c : Nat) (xs : List Int) (hs : a.eval s = .slice A n c) (hown : Slc w base A n c xs) (g : Nat) (u : Int) (hx : a.eval x = .slice (some ⟨g, 0, none⟩) 1 1)
    (hcell : w.cell? ⟨g, 0, none⟩ = some (.int .i64 u)) (hn : n ≤ 1000000000000) (hbase : base ≤ w.heap.size)
    (h : ∀ A' c' w', Slc w' base A' (n + 1) c' (xs ++ [u]) → w.grownBy w' (Value.slice A n c).ownBlock → wpList Try.prog ops Q rest (a.put o.dst (.slice A' (n + 1) c')) w') : wpList Try.prog ops Q (o :: rest) a w := by
  obtain ⟨i0, hi, hz0, hz1, hz2⟩ := info_parts infoI
  obtain ⟨hl, ho'⟩ := hown
  subst hl
  refine wpList_append_own w hgd s x 27 ho base 2 i0 (.int .i64 0) 1 8 Try.underlying27 hi hz0 hz1 hz2 rfl (by decide) _ xs.length _ hs ho' ⟨g, 0, none⟩ 1 1 [.int .i64 u] hx rfl ?_ ?_ ?_ (by omega) hbase ?_
  · intro j v hj
    match j, hj with
    | 0, hj => simp at hj; subst hj; simpa [Addr.add] using hcell
    | j + 1, hj => simp at hj
  · intro v hv; simp at hv; subst hv; rfl
  · unfold maxLen; omega
  · intro v' w' hown' hg _
    have hO : Own w' base v' (xs ++ [u]) := by
      unfold Own
      rw [List.length_append, List.map_append]
      exact hown'
    obtain ⟨A', c', rfl, hS⟩ := Slc.of_own (n := xs.length + 1) hO (by simp)
    exact h A' c' w' hS hg

def marks (k n : Nat) : List Int := (List.range n).map fun i => ((k + i : Nat) : Int)
theorem marks_length (k n : Nat) : (marks k n).length = n := by simp [marks]
theorem marks_getD {k n j : Nat} (h : j < n) : (marks k n).getD j 0 = ((k + j : Nat) : Int) := by
  rw [List.getD_eq_getElem?_getD, List.getElem?_eq_getElem (by simp [marks, h])]; simp [marks]
theorem ext_getD {xs ys : List Int} {n : Nat} (hx : xs.length = n) (hy : ys.length = n) (h : ∀ j, j < n → xs.getD j 0 = ys.getD j 0) : xs = ys := by
  apply List.ext_getElem (by omega)
  intro i h1 h2
  have := h i (by omega)
  simp only [List.getD_eq_getElem?_getD, List.getElem?_eq_getElem h1, List.getElem?_eq_getElem h2, Option.getD_some] at this
  exact this
theorem set_getD {xs : List Int} {n i j : Nat} (hl : xs.length = n) (hj : j < n) (u : Int) : (xs.set i u).getD j 0 = if i = j then u else xs.getD j 0 := by
  rw [List.getD_eq_getElem?_getD, List.getElem?_set]
  by_cases e : i = j
  · subst e; rw [if_pos rfl, if_pos (by omega), if_pos rfl]; rfl
  · rw [if_neg e, if_neg e, ← List.getD_eq_getElem?_getD]
theorem grown_refl (w : World) (row : Option Nat) : w.grownBy w row := ⟨rfl, rfl, rfl, Nat.le_refl _, fun _ _ _ => rfl⟩
theorem grown_set {a w : World} {g : Nat} (h : a.grownBy w (some g)) (j : Nat) (u : Value) : a.grownBy (w.setCell ⟨g, j, none⟩ u) (some g) :=
  ⟨h.os, h.tape, h.output, by simpa [World.setCell] using h.size, fun i hi hne => (Below.heap_setCell w ⟨g, j, none⟩ u i (fun e => hne (by rw [e]))).trans (h.block i hi hne)⟩
theorem grown_drewN {a w : World} {row : Option Nat} (h : a.grownBy w row) (n : Nat) : a.grownBy (w.drewN n) row := ⟨h.os, h.tape, h.output, h.size, h.block⟩
theorem below_of_grown {B : Nat} {w w' : World} {row : Option Nat} (h : w.grownBy w' row) (hB : B ≤ w.heap.size) (hr : ∀ k, row = some k → B ≤ k) : Below B w w' := (Below.refl B w).grown h hB hr

/-- '[]int64{}': a new empty row. -/
theorem Slc.lit0 (w : World) (base : Nat) (hb : base ≤ w.heap.size) : Slc (w.alloc (.cells #[] 2)) base (some ⟨w.heap.size, 0, none⟩) 0 0 [] :=
  ⟨rfl, World.ownsRow_lit (size := 1) w #[] 0 hb (Nat.zero_le _) rfl⟩
theorem Slc.lit1 (w : World) (base : Nat) (x : Int) (hb : base ≤ w.heap.size) : Slc (w.alloc (.cells #[.int .i64 x] 2)) base (some ⟨w.heap.size, 0, none⟩) 1 1 [x] :=
  ⟨rfl, World.ownsRow_lit (size := 1) w #[.int .i64 x] 1 hb (by unfold maxLen; omega) rfl⟩
theorem getD_eq {xs : List Int} {j : Nat} (hj : j < xs.length) : xs.getD j 0 = xs[j] := by rw [List.getD_eq_getElem?_getD, List.getElem?_eq_getElem hj]; rfl
theorem below_drewN {B : Nat} {a w : World} (h : Below B a w) (n : Nat) : Below B a (w.drewN n) := ⟨h.os, h.tape, h.output, h.size, h.block⟩
theorem below_quiet (w : World) (n : Nat) : Below w.heap.size w (w.drewN n) := ⟨rfl, rfl, rfl, Nat.le_refl _, fun _ _ => rfl⟩
theorem ret_int {k : IntKind} {a b : Int} (h : a = b) : Ending.returned (.int k a) = .returned (.int k b) := by rw [h]
theorem ret_bool {a b : Bool} (h : a = b) : Ending.returned (.bool a) = .returned (.bool b) := by rw [h]
end Go.Proofs.Ytkjokchhffjidaa

/- The helpers of the laws: copy, comparison, marking. No condition but lengths. -/
namespace Go.Proofs.Ytkjokchhffjidaa
open Go.RowKit

set_option maxHeartbeats 400000 in
theorem eqS_core (A B : Option Addr) (c d n : Nat) (xs ys : List Int) (w : World) (hx : RI w w.heap.size A xs) (hy : RI w w.heap.size B ys) (lx : Hid (xs.length = n)) (ly : Hid (ys.length = n)) (hn : n ≤ 2097152) :
    Calls Try.prog 32 #[.slice A n c, .slice B n d] w fun e w' => e = .returned (.bool (decide (xs = ys))) ∧ ∃ m, w' = w.drewN m := by
  go_enter Try.func32, Try.ntmps32
  go_wp2
  go_loopw [5] (fun i wr => ∃ k : Nat, k ≤ n ∧ i = .int .i64 k ∧ (∀ j, j < k → xs.getD j 0 = ys.getD j 0) ∧ ∃ m, wr = w.drewN m) (fun i _ => n - (intOf i).toNat)
  case atStart => exact ⟨0, Nat.zero_le _, rfl, fun j h => absurd h (by omega), 0, rfl⟩
  case round =>
    obtain ⟨k, hk, rfl, heq, m, rfl⟩ := hrel
    have Heq := Lib.hid heq
    clear heq
    by_cases hlt : k < n
    · obtain ⟨b, off, rfl, hb, hc⟩ := hx (by rw [lx.out]; omega)
      obtain ⟨b', off', rfl, hb', hc'⟩ := hy (by rw [ly.out]; omega)
      have c1 := hc k (by rw [lx.out]; omega)
      have c2 := hc' k (by rw [ly.out]; omega)
      obtain ⟨x, ex⟩ : ∃ x, xs.getD k 0 = x := ⟨_, rfl⟩
      obtain ⟨y, ey⟩ : ∃ y, ys.getD k 0 = y := ⟨_, rfl⟩
      rw [ex] at c1
      rw [ey] at c2
      have Ex := Lib.hid ex
      have Ey := Lib.hid ey
      clear ex ey hc hc' hx hy
      have p1 : (0 : Int) ≤ k := by omega
      have p2 : (k : Int) < n := by omega
      by_cases hxy : x = y
      · subst hxy
        go_wp2
        go_quiet (fail)
        go_wp2
        go_roundw
        case rel => exact ⟨k + 1, by omega, by go_num, fun j hj => by
          by_cases e : j = k
          · subst e; rw [Ex.out, Ey.out]
          · exact Heq.out j (by omega), _, rfl⟩
        case measure => simp [intOf]; omega
      · have hd : (x != y) = true := by simpa using hxy
        have hd' : (x == y) = false := by simpa using hxy
        go_wp2
        go_quiet (fail)
        go_wp2
        go_ret
        refine ⟨ret_bool (Eq.symm (decide_eq_false fun e => hxy ?_)), _, World.drewN_drewN _ _ _⟩
        rw [← Ex.out, ← Ey.out, e]
    · go_wp2
      go_ret
      have : k = n := by omega
      subst this
      exact ⟨ret_bool (Eq.symm (decide_eq_true (ext_getD lx.out ly.out Heq.out))), _, rfl⟩

/-- eqInt64S compares two lists. -/
theorem eqS_any (A B : Option Addr) (c d n m : Nat) (xs ys : List Int) (w : World) (hx : RI w w.heap.size A xs) (hy : RI w w.heap.size B ys) (lx : Hid (xs.length = n)) (ly : Hid (ys.length = m)) (hn : n ≤ 2097152) (hm : m ≤ 2097152) :
    Calls Try.prog 32 #[.slice A n c, .slice B m d] w fun e w' => e = .returned (.bool (decide (xs = ys))) ∧ ∃ m, w' = w.drewN m := by
  by_cases hl : n = m
  · subst hl
    exact eqS_core A B c d n xs ys w hx hy lx ly hn
  · have hd : ((n : Int) != (m : Int)) = true := by rw [bne_iff_ne]; omega
    have hd' : ((n : Int) == (m : Int)) = false := by rw [beq_eq_false_iff_ne]; omega
    go_enter Try.func32, Try.ntmps32
    go_wp2
    go_ret
    refine ⟨ret_bool (Eq.symm (decide_eq_false fun e => hl ?_)), 0, rfl⟩
    rw [← lx.out, ← ly.out, e]
set_option maxHeartbeats 400000 in
theorem likeI_core (A B : Option Addr) (c d n : Nat) (xs ys : List Int) (w : World) (hx : RI w w.heap.size A xs) (hy : RI w w.heap.size B ys) (lx : Hid (xs.length = n)) (ly : Hid (ys.length = n)) (hn : n ≤ 2097152) :
    Calls Try.prog 16 #[.slice A n c, .slice B n d] w fun e w' => e = .returned (.bool (decide (xs = ys))) ∧ ∃ m, w' = w.drewN m := by
  go_enter Try.func16, Try.ntmps16
  go_wp2
  go_loopw [5] (fun i wr => ∃ k : Nat, k ≤ n ∧ i = .int .i64 k ∧ (∀ j, j < k → xs.getD j 0 = ys.getD j 0) ∧ ∃ m, wr = w.drewN m) (fun i _ => n - (intOf i).toNat)
  case atStart => exact ⟨0, Nat.zero_le _, rfl, fun j h => absurd h (by omega), 0, rfl⟩
  case round =>
    obtain ⟨k, hk, rfl, heq, m, rfl⟩ := hrel
    have Heq := Lib.hid heq
    clear heq
    by_cases hlt : k < n
    · obtain ⟨b, off, rfl, hb, hc⟩ := hx (by rw [lx.out]; omega)
      obtain ⟨b', off', rfl, hb', hc'⟩ := hy (by rw [ly.out]; omega)
      have c1 := hc k (by rw [lx.out]; omega)
      have c2 := hc' k (by rw [ly.out]; omega)
      obtain ⟨x, ex⟩ : ∃ x, xs.getD k 0 = x := ⟨_, rfl⟩
      obtain ⟨y, ey⟩ : ∃ y, ys.getD k 0 = y := ⟨_, rfl⟩
      rw [ex] at c1
      rw [ey] at c2
      have Ex := Lib.hid ex
      have Ey := Lib.hid ey
      clear ex ey hc hc' hx hy
      have p1 : (0 : Int) ≤ k := by omega
      have p2 : (k : Int) < n := by omega
      by_cases hxy : x = y
      · subst hxy
        go_wp2
        go_quiet (fail)
        go_wp2
        go_roundw
        case rel => exact ⟨k + 1, by omega, by go_num, fun j hj => by
          by_cases e : j = k
          · subst e; rw [Ex.out, Ey.out]
          · exact Heq.out j (by omega), _, rfl⟩
        case measure => simp [intOf]; omega
      · have hd : (x != y) = true := by simpa using hxy
        have hd' : (x == y) = false := by simpa using hxy
        go_wp2
        go_quiet (fail)
        go_wp2
        go_ret
        refine ⟨ret_bool (Eq.symm (decide_eq_false fun e => hxy ?_)), _, World.drewN_drewN _ _ _⟩
        rw [← Ex.out, ← Ey.out, e]
    · go_wp2
      go_ret
      have : k = n := by omega
      subst this
      exact ⟨ret_bool (Eq.symm (decide_eq_true (ext_getD lx.out ly.out Heq.out))), _, rfl⟩

/-- likeInts compares two lists. -/
theorem likeI_any (A B : Option Addr) (c d n m : Nat) (xs ys : List Int) (w : World) (hx : RI w w.heap.size A xs) (hy : RI w w.heap.size B ys) (lx : Hid (xs.length = n)) (ly : Hid (ys.length = m)) (hn : n ≤ 2097152) (hm : m ≤ 2097152) :
    Calls Try.prog 16 #[.slice A n c, .slice B m d] w fun e w' => e = .returned (.bool (decide (xs = ys))) ∧ ∃ m, w' = w.drewN m := by
  by_cases hl : n = m
  · subst hl
    exact likeI_core A B c d n xs ys w hx hy lx ly hn
  · have hd : ((n : Int) != (m : Int)) = true := by rw [bne_iff_ne]; omega
    have hd' : ((n : Int) == (m : Int)) = false := by rw [beq_eq_false_iff_ne]; omega
    go_enter Try.func16, Try.ntmps16
    go_wp2
    go_ret
    refine ⟨ret_bool (Eq.symm (decide_eq_false fun e => hl ?_)), 0, rfl⟩
    rw [← lx.out, ← ly.out, e]

set_option maxHeartbeats 400000 in
/-- toInt64S copies a slice. -/
theorem toS_any (A : Option Addr) (c n : Nat) (xs : List Int) (w : World) (hx : RI w w.heap.size A xs) (lx : Hid (xs.length = n)) (hn : n ≤ 2097152) :
    Calls Try.prog 31 #[.slice A n c] w fun e w' => ∃ A' c', e = .returned (.slice A' n c') ∧ Slc w' w.heap.size A' n c' xs ∧ Below w.heap.size w w' := by
  obtain ⟨i0, hi, hz0, hz1, hz2⟩ := info_parts infoI
  go_enter Try.func31, Try.ntmps31
  go_wp2_with (first | (at_make; refine wpList_make_full _ rfl _ _ 27 rfl w.heap.size 2 i0 (.int .i64 0) 1 Try.underlying27 hi hz0 hz1 .i64 .i64 _ _ n rfl rfl rfl rfl (by rw [hz2]; omega) (by unfold maxLen; omega) (Nat.le_refl _) ?_; intro w1 hown1 hgrow1))
  have row1 := Row.made hown1
  have bel1 : Below w.heap.size w w1 := (Below.refl _ _).grown hgrow1 (Nat.le_refl _) (fun k e => nomatch e)
  clear hown1 hgrow1
  go_loopw [4] (fun i wr => ∃ k ys, k ≤ n ∧ i = .int .i64 (k : Nat) ∧ Row wr w.heap.size w.heap.size n n ys ∧ (∀ j, j < k → ys.getD j 0 = xs.getD j 0) ∧ Below w.heap.size w wr) (fun i _ => n - (intOf i).toNat)
  case atStart => exact ⟨0, _, Nat.zero_le _, rfl, row1, fun j h => absurd h (by omega), bel1⟩
  case round =>
    clear row1 bel1
    obtain ⟨k, ys, hk, rfl, row, heq, bel⟩ := hrel
    have Heq := Lib.hid heq
    clear heq
    by_cases hlt : k < n
    · obtain ⟨b, off, rfl, hb, hc⟩ := hx (by rw [lx.out]; omega)
      have c1 := (bel.cell (p := ⟨b, off + k, none⟩) hb).trans (hc k (by rw [lx.out]; omega))
      have c2 := row.cell hlt
      have f2 := row.free k
      obtain ⟨x, ex⟩ : ∃ x, xs.getD k 0 = x := ⟨_, rfl⟩
      rw [ex] at c1
      have Ex := Lib.hid ex
      clear ex hc hx
      have row2 := row.store k x
      have bel2 := bel.setCell (p := ⟨w.heap.size, k, none⟩) (Nat.le_refl _) (.int .i64 x)
      have Row2 := Lib.hid row2
      have Bel2 := Lib.hid bel2
      have hyl : Hid (ys.length = n) := Lib.hid row.1
      clear row2 bel2 row bel
      go_wp2
      go_roundw
      case rel =>
        refine ⟨k + 1, _, by omega, by go_num, Row2.out, fun j hj => ?_, Bel2.out⟩
        rw [set_getD hyl.out (by omega)]
        by_cases e : k = j
        · subst e; rw [if_pos rfl, Ex.out]
        · rw [if_neg e]; exact Heq.out j (by omega)
      case measure => simp [intOf]; omega
    · have hkn : k = n := by omega
      subst hkn
      obtain rfl : ys = xs := ext_getD row.1 lx.out Heq.out
      have Ro := Lib.hid row
      have Be := Lib.hid bel
      clear row bel
      go_wp2
      go_ret
      exact ⟨_, _, rfl, Ro.out.slc, Be.out⟩

set_option maxHeartbeats 400000 in
theorem markS_row (base g n c k0 : Nat) (xs : List Int) (w : World) (hr : Row w base g n c xs) (hn : n ≤ 2097152) (hk0 : k0 ≤ 1000000000000) :
    Calls Try.prog 34 #[.slice (some ⟨g, 0, none⟩) n c, .int .i64 k0] w fun e w' => e = .returned (.int .i64 ((k0 + n : Nat) : Int)) ∧ Row w' base g n c (marks k0 n) ∧ w.grownBy w' (some g) := by
  go_enter Try.func34, Try.ntmps34
  go_wp2
  go_loopw [1, 5] (fun v i wr => ∃ k ys, k ≤ n ∧ i = .int .i64 (k : Nat) ∧ v = .int .i64 ((k0 + k : Nat) : Int) ∧ Row wr base g n c ys ∧ (∀ j, j < k → ys.getD j 0 = ((k0 + j : Nat) : Int)) ∧ w.grownBy wr (some g)) (fun _ i _ => n - (intOf i).toNat)
  case atStart => exact ⟨0, _, Nat.zero_le _, rfl, rfl, hr, fun j h => absurd h (by omega), grown_refl _ _⟩
  case round =>
    clear hr
    obtain ⟨k, ys, hk, rfl, rfl, row, heq, gro⟩ := hrel
    have Heq := Lib.hid heq
    clear heq
    by_cases hlt : k < n
    · have c2 := row.cell hlt
      have f2 := row.free k
      have row2 := row.store k ((k0 + k : Nat) : Int)
      have gro2 := grown_set gro k (.int .i64 ((k0 + k : Nat) : Int))
      have Row2 := Lib.hid row2
      have Gro2 := Lib.hid gro2
      have hyl : Hid (ys.length = n) := Lib.hid row.1
      clear row2 gro2 row gro
      go_wp2
      go_roundw
      case rel =>
        refine ⟨k + 1, _, by omega, by go_num, by go_num, Row2.out, fun j hj => ?_, Gro2.out⟩
        rw [set_getD hyl.out (by omega)]
        by_cases e : k = j
        · subst e; rw [if_pos rfl]
        · rw [if_neg e]; exact Heq.out j (by omega)
      case measure => simp [intOf]; omega
    · have hkn : k = n := by omega
      subst hkn
      have Em : Hid (ys = marks k0 k) := Lib.hid (ext_getD row.1 (marks_length k0 k) fun j hj => by rw [Heq.out j hj, marks_getD hj])
      have Ro := Lib.hid row
      have Gr := Lib.hid gro
      clear row gro
      go_wp2
      go_ret
      exact ⟨rfl, by rw [← Em.out]; exact Ro.out, Gr.out⟩

theorem markS_nil (k0 : Nat) (w : World) : Calls Try.prog 34 #[.slice none 0 0, .int .i64 k0] w fun e w' => e = .returned (.int .i64 k0) ∧ w = w' := by
  go_enter Try.func34, Try.ntmps34
  go_wp2
  refine wp_loop_rounds 1 ?_
  rw [rounds_succ]
  go_wp2
  go_ret
  exact ⟨rfl, rfl⟩

/-- markInt64S fills a slice of the call's own with k0, k0 + 1 and so on. -/
theorem markS_any (base k0 : Nat) (A : Option Addr) (n c : Nat) (xs : List Int) (w : World) (hr : Slc w base A n c xs) (hn : n ≤ 2097152) (hk0 : k0 ≤ 1000000000000) :
    Calls Try.prog 34 #[.slice A n c, .int .i64 k0] w fun e w' => e = .returned (.int .i64 ((k0 + n : Nat) : Int)) ∧ Slc w' base A n c (marks k0 n) ∧ w.grownBy w' (Value.slice A n c).ownBlock := by
  rcases hr.at_ with ⟨rfl, rfl, rfl, rfl⟩ | ⟨g, rfl, _, _⟩
  · exact (markS_nil k0 w).mono fun e w' ⟨he, hw⟩ => by subst hw; exact ⟨by simpa using he, hr, grown_refl _ _⟩
  · have row : Row w base g n c xs := by obtain ⟨rfl, h⟩ := hr; exact Row.of_own h
    exact (markS_row base g n c k0 xs w row hn hk0).mono fun e w' ⟨he, h1, h2⟩ => ⟨he, h1.slc, h2⟩

set_option maxHeartbeats 400000 in
theorem heldS_core (A : Option Addr) (c n k0 : Nat) (xs : List Int) (w : World) (hx : RI w w.heap.size A xs) (lx : Hid (xs.length = n)) (hn : n ≤ 2097152) (hk0 : k0 ≤ 1000000000000) (hm : Hid (xs = marks k0 n)) :
    Calls Try.prog 35 #[.slice A n c, .int .i64 k0] w fun e w' => e = .returned (.int .i64 ((k0 + n : Nat) : Int)) ∧ w = w' := by
  go_enter Try.func35, Try.ntmps35
  go_wp2
  go_loop [1, 5] (fun v i => ∃ k : Nat, k ≤ n ∧ i = .int .i64 (k : Nat) ∧ v = .int .i64 ((k0 + k : Nat) : Int)) (fun _ i => n - (intOf i).toNat)
  case atStart => exact ⟨0, Nat.zero_le _, rfl, rfl⟩
  case round =>
    obtain ⟨k, hk, rfl, rfl⟩ := hrel
    by_cases hlt : k < n
    · obtain ⟨b, off, rfl, hb, hc⟩ := hx (by rw [lx.out]; omega)
      have c1 := hc k (by rw [lx.out]; omega)
      rw [show xs.getD k 0 = ((k0 + k : Nat) : Int) from by rw [hm.out, marks_getD hlt]] at c1
      clear hc hx
      go_wp2
      go_round
      case rel => exact ⟨k + 1, by omega, by go_num, by go_num⟩
      case measure => simp [intOf]; omega
    · have hkn : k = n := by omega
      subst hkn
      go_wp2
      go_ret
      exact ⟨rfl, rfl⟩

theorem markK (base k0 : Nat) (K : Int) (A : Option Addr) (n c : Nat) (xs : List Int) (w : World) (hr : Slc w base A n c xs) (hn : n ≤ 2097152) (hk0 : k0 ≤ 1000000000000) (hK : K = (k0 : Int)) :
    Calls Try.prog 34 #[.slice A n c, .int .i64 K] w fun e w' => e = .returned (.int .i64 (K + (n : Int))) ∧ Slc w' base A n c (marks k0 n) ∧ w.grownBy w' (Value.slice A n c).ownBlock := by
  subst hK
  exact (markS_any base k0 A n c xs w hr hn hk0).mono fun e w' ⟨he, h1, h2⟩ => ⟨he.trans (ret_int (by omega)), h1, h2⟩
theorem heldK (k0 : Nat) (K : Int) (A : Option Addr) (n c : Nat) (xs : List Int) (w : World) (hx : RI w w.heap.size A xs) (lx : Hid (xs.length = n)) (hn : n ≤ 2097152) (hk0 : k0 ≤ 1000000000000) (hm : Hid (xs = marks k0 n)) (hK : K = (k0 : Int)) :
    Calls Try.prog 35 #[.slice A n c, .int .i64 K] w fun e w' => e = .returned (.int .i64 (K + (n : Int))) ∧ w = w' := by
  subst hK
  exact (heldS_core A c n k0 xs w hx lx hn hk0 hm).mono fun e w' ⟨he, h1⟩ => ⟨he.trans (ret_int (by omega)), h1⟩
theorem mark1 (base : Nat) (A : Option Addr) (n c : Nat) (xs : List Int) (w : World) (hr : Slc w base A n c xs) (hn : n ≤ 2097152) :
    Calls Try.prog 34 #[.slice A n c, .int .i64 1] w fun e w' => e = .returned (.int .i64 (1 + (n : Int))) ∧ Slc w' base A n c (marks 1 n) ∧ w.grownBy w' (Value.slice A n c).ownBlock :=
  (markS_any base 1 A n c xs w hr hn (by decide)).mono fun e w' ⟨he, h1, h2⟩ => ⟨he.trans (ret_int (by omega)), h1, h2⟩
theorem held1 (base : Nat) (A : Option Addr) (n c : Nat) (w : World) (hr : Slc w base A n c (marks 1 n)) (hn : n ≤ 2097152) :
    Calls Try.prog 35 #[.slice A n c, .int .i64 1] w fun e w' => e = .returned (.int .i64 (1 + (n : Int))) ∧ w = w' :=
  (heldS_core A c n 1 _ w hr.ri_ hr.hid hn (by decide) (Lib.hid rfl)).mono fun e w' ⟨he, h1⟩ => ⟨he.trans (ret_int (by omega)), h1⟩
theorem eqS_same {xs : List Int} (base base' : Nat) (A B : Option Addr) (n c m d : Nat) (w : World) (hx : Slc w base A n c xs) (hy : Slc w base' B m d xs) (hn : n ≤ 2097152) :
    Calls Try.prog 32 #[.slice A n c, .slice B m d] w fun e w' => e = .returned (.bool true) ∧ Below w.heap.size w w' :=
  (quiet_below (eqS_any A B c d n m _ _ w hx.ri_ hy.ri_ hx.hid hy.hid hn (by rw [← hy.1, hx.1]; exact hn))).mono fun e w' ⟨he, hb⟩ => ⟨he.trans (ret_bool (by simp)), hb⟩
end Go.Proofs.Ytkjokchhffjidaa

/- Words for slices of slices of int64 that the call itself made. No condition. -/
namespace Go.Proofs.Ytkjokchhffjidaa
open Go.RowKit

abbrev SV := Option Addr × Nat × Nat
def sval (d : SV) : Value := .slice d.1 d.2.1 d.2.2
def sd0 : SV := (none, 0, 0)

/-- '.slice A n c' is a row of the call's own of n slices vs, which are rows of the call's own that hold the lists xss; no two of them share a block. -/
structure SS (w : World) (base bi : Nat) (A : Option Addr) (n c : Nat) (vs : List SV) (xss : List (List Int)) : Prop where
  own : w.ownsRow base 27 1 (.slice A n c) n (vs.map sval)
  lv : vs.length = n
  lx : xss.length = n
  row : ∀ i, i < n → Slc w bi (vs.getD i sd0).1 (vs.getD i sd0).2.1 (vs.getD i sd0).2.2 (xss.getD i [])
  dis : ∀ i j, i < j → j < n → (sval (vs.getD i sd0)).ownBlock = none ∨ (sval (vs.getD i sd0)).ownBlock ≠ (sval (vs.getD j sd0)).ownBlock

theorem infoS : (Try.prog.info? 27).map (fun i => (i.zero, i.size, i.bytes)) = some (some (.slice none 0 0), 1, 24) := by kernel_rfl

theorem getD_app {α : Type} (l l' : List α) (d : α) (i : Nat) (h : i < l.length) : (l ++ l').getD i d = l.getD i d := by
  rw [List.getD_eq_getElem?_getD, List.getElem?_append_left h, ← List.getD_eq_getElem?_getD]
theorem getD_snoc {α : Type} (l : List α) (x d : α) (i : Nat) (h : i = l.length) : (l ++ [x]).getD i d = x := by
  subst h
  rw [List.getD_eq_getElem?_getD, List.getElem?_append_right (Nat.le_refl _), Nat.sub_self]; rfl

section
variable {w w' : World} {base bi n c B : Nat} {A : Option Addr} {vs : List SV} {xss : List (List Int)}
theorem SS.nil_ : SS w base bi none 0 0 [] [] := ⟨World.ownsRow_nil _ _ _ _, rfl, rfl, fun i h => absurd h (by omega), fun i j _ h => absurd h (by omega)⟩
theorem SS.lit0 (w : World) (base bi : Nat) (hb : base ≤ w.heap.size) : SS (w.alloc (.cells #[] 27)) base bi (some ⟨w.heap.size, 0, none⟩) 0 0 [] [] :=
  ⟨World.ownsRow_lit (size := 1) w #[] 0 hb (Nat.zero_le _) rfl, rfl, rfl, fun i h => absurd h (by omega), fun i j _ h => absurd h (by omega)⟩
/-- An inner row never lies in the outer row's block: their elements' types differ. -/
theorem apart_types {a n' c' : Nat} {A' : Option Addr} {xs : List Int} {base' : Nat} {v : Value} {ys : List Value} (h : Slc w base' A' n' c' xs) (ho : w.ownsRow base 27 1 v a ys) :
    (Value.slice A' n' c').ownBlock = none ∨ (Value.slice A' n' c').ownBlock ≠ v.ownBlock := by
  rcases h.2.2 with ⟨e, _⟩ | ⟨g, cap, cur, e, hb, hg, _⟩
  · left; rw [e]; rfl
  · right
    rw [e]
    rcases ho.2 with ⟨rfl, _⟩ | ⟨g', cap', cur', rfl, hb', hg', _⟩
    · simp [Value.ownBlock]
    · simp only [Value.ownBlock]
      intro e2
      injection e2 with e2
      subst e2
      rw [hg] at hg'
      injection hg' with hg'
      injection hg' with _ ht
      exact absurd ht (by decide)
theorem SS.below_lt (h : SS w base bi A n c vs xss) (hb : Below B w w') (hB : w.heap.size ≤ B) : SS w' base bi A n c vs xss := by
  refine ⟨⟨h.own.1, ?_⟩, h.lv, h.lx, fun i hi => (h.row i hi).below hb hB, h.dis⟩
  rcases h.own.2 with hn | ⟨g, cap, cur, e, hb', hg, rest⟩
  · exact .inl hn
  · exact .inr ⟨g, cap, cur, e, hb', by rw [hb.block g (by have := (Array.getElem?_eq_some_iff.1 hg).1; omega)]; exact hg, rest⟩
theorem SS.up (h : SS w base bi A n c vs xss) (hb : Below w.heap.size w w') : SS w' base bi A n c vs xss := h.below_lt hb (Nat.le_refl _)
theorem SS.drewN (h : SS w base bi A n c vs xss) (k : Nat) : SS (w.drewN k) base bi A n c vs xss := ⟨h.own, h.lv, h.lx, fun i hi => (h.row i hi).drewN k, h.dis⟩
theorem SS.mono (h : SS w base bi A n c vs xss) {base' bi' : Nat} (hb : base' ≤ base) (hi' : bi' ≤ bi) : SS w base' bi' A n c vs xss := by
  refine ⟨⟨h.own.1, ?_⟩, h.lv, h.lx, fun i hi => (h.row i hi).mono hi', h.dis⟩
  rcases h.own.2 with hn | ⟨g, cap, cur, e, hb', rest⟩
  · exact .inl hn
  · exact .inr ⟨g, cap, cur, e, by omega, rest⟩
theorem SS.alloc (h : SS w base bi A n c vs xss) (o : Obj) : SS (w.alloc o) base bi A n c vs xss := ⟨World.ownsRow.alloc h.own o, h.lv, h.lx, fun i hi => (h.row i hi).alloc o, h.dis⟩
/-- The outer row's cells. -/
theorem SS.at_ (h : SS w base bi A n c vs xss) (hn : 0 < n) : ∃ g, A = some ⟨g, 0, none⟩ ∧ base ≤ g ∧ g < w.heap.size ∧ ∀ i, i < n → w.cell? ⟨g, i, none⟩ = some (.slice (vs.getD i sd0).1 (vs.getD i sd0).2.1 (vs.getD i sd0).2.2) := by
  rcases h.own.2 with ⟨e, h0⟩ | ⟨g, cap, cur, e, hb, hg, rest⟩
  · omega
  · injection e with e1 e2 e3
    subst e1
    refine ⟨g, rfl, hb, (Array.getElem?_eq_some_iff.1 hg).1, fun i hi => ?_⟩
    rw [h.own.cellAt i (by omega), List.getElem?_map, List.getD_eq_getElem?_getD, List.getElem?_eq_getElem (by rw [h.lv]; exact hi)]
    rfl
theorem SS.lt_ (h : SS w base bi A n c vs xss) : ∀ k, (Value.slice A n c).ownBlock = some k → base ≤ k ∧ k < w.heap.size := World.ownsRow.lt h.own

/-- append of one slice onto a slice of slices of the call's own. -/
theorem wpList_app2_at {ops : Array Oper} {rest : List Oper} {o : Oper} {a : Act} {Q : Exit → Act → World → Prop} (hgd : o.guard = none) (s x : Operand)
    (ho : o.op = .call { callee := .builtin .append, args := #[s, x], argTypes := #[24, 24] })
    (hs : a.eval s = .slice A n c) (hss : SS w base bi A n c vs xss) (g : Nat) (dA : Option Addr) (dn dc : Nat) (ys : List Int) (hx : a.eval x = .slice (some ⟨g, 0, none⟩) 1 1)
    (hcell : w.cell? ⟨g, 0, none⟩ = some (.slice dA dn dc)) (hys : Slc w bi dA dn dc ys)
    (hdis : ∀ i, i < n → (sval (vs.getD i sd0)).ownBlock = none ∨ (sval (vs.getD i sd0)).ownBlock ≠ (Value.slice dA dn dc).ownBlock) (hn : n ≤ 1000000000) (hbase : base ≤ w.heap.size)
    (h : ∀ A' c' w', SS w' base bi A' (n + 1) c' (vs ++ [(dA, dn, dc)]) (xss ++ [ys]) → w.grownBy w' (Value.slice A n c).ownBlock → ((Value.slice A' (n + 1) c').ownBlock = (Value.slice A n c).ownBlock ∨ (Value.slice A' (n + 1) c').ownBlock = some w.heap.size) → wpList Try.prog ops Q rest (a.put o.dst (.slice A' (n + 1) c')) w') : wpList Try.prog ops Q (o :: rest) a w := by
  obtain ⟨i0, hi, hz0, hz1, hz2⟩ := info_parts infoS
  refine wpList_append_own_at w hgd s x 24 ho base 27 i0 (.slice none 0 0) 1 24 Try.underlying24 hi hz0 hz1 hz2 rfl (by decide) _ n _ hs hss.own ⟨g, 0, none⟩ 1 1 [.slice dA dn dc] hx rfl ?_ ?_ ?_ (by omega) hbase ?_
  · intro j v hj
    match j, hj with
    | 0, hj => simp at hj; subst hj; simpa [Addr.add] using hcell
    | j + 1, hj => simp at hj
  · intro v hv; simp at hv; subst hv; rfl
  · unfold maxLen; omega
  · intro v' w' hown' hg _ hat
    have hform : ∃ A' c', v' = .slice A' (n + 1) c' := by
      rcases hown'.2 with ⟨rfl, h0⟩ | ⟨g', cap, cur, rfl, _⟩
      · omega
      · exact ⟨_, _, rfl⟩
    obtain ⟨A', c', rfl⟩ := hform
    refine h A' c' w' ⟨?_, by simp [hss.lv], by simp [hss.lx], fun i hi' => ?_, fun i j hij hj => ?_⟩ hg hat
    · rw [List.map_append]; exact hown'
    · by_cases e : i < n
      · rw [getD_app _ _ _ _ (by rw [hss.lv]; exact e), getD_app _ _ _ _ (by rw [hss.lx]; exact e)]
        exact (hss.row i e).kept hg (apart_types (hss.row i e) hss.own)
      · obtain rfl : i = n := by omega
        rw [getD_snoc _ _ _ _ hss.lv.symm, getD_snoc _ _ _ _ hss.lx.symm]
        exact hys.kept hg (apart_types hys hss.own)
    · rw [getD_app _ _ _ i (by rw [hss.lv]; omega)]
      by_cases e : j < n
      · rw [getD_app _ _ _ j (by rw [hss.lv]; exact e)]; exact hss.dis i j hij e
      · obtain rfl : j = n := by omega
        rw [getD_snoc _ _ _ _ hss.lv.symm]
        exact hdis i hij
/-- append of one slice onto a slice of slices of the call's own. -/
theorem wpList_app2 {ops : Array Oper} {rest : List Oper} {o : Oper} {a : Act} {Q : Exit → Act → World → Prop} (hgd : o.guard = none) (s x : Operand)
    (ho : o.op = .call { callee := .builtin .append, args := #[s, x], argTypes := #[24, 24] })
    (hs : a.eval s = .slice A n c) (hss : SS w base bi A n c vs xss) (g : Nat) (dA : Option Addr) (dn dc : Nat) (ys : List Int) (hx : a.eval x = .slice (some ⟨g, 0, none⟩) 1 1)
    (hcell : w.cell? ⟨g, 0, none⟩ = some (.slice dA dn dc)) (hys : Slc w bi dA dn dc ys)
    (hdis : ∀ i, i < n → (sval (vs.getD i sd0)).ownBlock = none ∨ (sval (vs.getD i sd0)).ownBlock ≠ (Value.slice dA dn dc).ownBlock) (hn : n ≤ 1000000000) (hbase : base ≤ w.heap.size)
    (h : ∀ A' c' w', SS w' base bi A' (n + 1) c' (vs ++ [(dA, dn, dc)]) (xss ++ [ys]) → w.grownBy w' (Value.slice A n c).ownBlock → wpList Try.prog ops Q rest (a.put o.dst (.slice A' (n + 1) c')) w') : wpList Try.prog ops Q (o :: rest) a w :=
  wpList_app2_at hgd s x ho hs hss g dA dn dc ys hx hcell hys hdis hn hbase fun A' c' w' h1 h2 _ => h A' c' w' h1 h2
/-- What lies from block lo on is kept where those blocks are. -/
theorem Slc.mid {base n c lo : Nat} {A : Option Addr} {xs : List Int} (h : Slc w base A n c xs) (hm : ∀ k, lo ≤ k → k < w.heap.size → w'.heap[k]? = w.heap[k]?) (hl : lo ≤ base) : Slc w' base A n c xs := by
  refine ⟨h.1, h.2.1, ?_⟩
  rcases h.2.2 with hn | ⟨g, cap, cur, e, hb, hg, rest⟩
  · exact .inl hn
  · exact .inr ⟨g, cap, cur, e, hb, by rw [hm g (by omega) (Array.getElem?_eq_some_iff.1 hg).1]; exact hg, rest⟩
theorem SS.mid {lo : Nat} (h : SS w base bi A n c vs xss) (hm : ∀ k, lo ≤ k → k < w.heap.size → w'.heap[k]? = w.heap[k]?) (hl : lo ≤ base) (hi : lo ≤ bi) : SS w' base bi A n c vs xss := by
  refine ⟨⟨h.own.1, ?_⟩, h.lv, h.lx, fun i hi' => (h.row i hi').mid hm hi, h.dis⟩
  rcases h.own.2 with hn | ⟨g, cap, cur, e, hb, hg, rest⟩
  · exact .inl hn
  · exact .inr ⟨g, cap, cur, e, hb, by rw [hm g (by omega) (Array.getElem?_eq_some_iff.1 hg).1]; exact hg, rest⟩
end
theorem lies_dis {w : World} {base bi n c : Nat} {A : Option Addr} {vs : List SV} {xss : List (List Int)} (h : SS w base bi A n c vs xss) {dA : Option Addr} {dn dc lo hi : Nat} (l : Lies dA dn dc lo hi) (hlo : w.heap.size ≤ lo) :
    ∀ i, i < n → (sval (vs.getD i sd0)).ownBlock = none ∨ (sval (vs.getD i sd0)).ownBlock ≠ (Value.slice dA dn dc).ownBlock :=
  fun i hi => (h.row i hi).lies.apart l (.inl hlo)
end Go.Proofs.Ytkjokchhffjidaa

/- Slices of slices of int64 that are only read, and the laws' helpers on them. Conditions: at most 1048576 slices, numbers in all. -/
namespace Go.Proofs.Ytkjokchhffjidaa
open Go.RowKit

/-- '.slice A n _' reads as the slices vs, which read as the lists xss, all in blocks below B. -/
structure RR (w : World) (B : Nat) (A : Option Addr) (n : Nat) (vs : List SV) (xss : List (List Int)) : Prop where
  lv : vs.length = n
  lx : xss.length = n
  cells : 0 < n → ∃ b off, A = some ⟨b, off, none⟩ ∧ b < B ∧ ∀ j, j < n → w.cell? ⟨b, off + j, none⟩ = some (.slice (vs.getD j sd0).1 (vs.getD j sd0).2.1 (vs.getD j sd0).2.2)
  rows : ∀ j, j < n → RI w B (vs.getD j sd0).1 (xss.getD j [])
  lens : ∀ j, j < n → (xss.getD j []).length = (vs.getD j sd0).2.1
  caps : ∀ j, j < n → (vs.getD j sd0).2.1 ≤ (vs.getD j sd0).2.2

section
variable {w w' : World} {B B' n : Nat} {A : Option Addr} {vs : List SV} {xss : List (List Int)}
theorem RR.keep (h : RR w B A n vs xss) (hk : ∀ p : Addr, p.block < B → w'.cell? p = w.cell? p) : RR w' B A n vs xss :=
  ⟨h.lv, h.lx, fun hn => by obtain ⟨b, off, e, hb, hc⟩ := h.cells hn; exact ⟨b, off, e, hb, fun j hj => (hk ⟨b, off + j, none⟩ hb).trans (hc j hj)⟩, fun j hj => (h.rows j hj).keep hk, h.lens, h.caps⟩
theorem RR.more (h : RR w B A n vs xss) (hB : B ≤ B') : RR w B' A n vs xss :=
  ⟨h.lv, h.lx, fun hn => by obtain ⟨b, off, e, hb, hc⟩ := h.cells hn; exact ⟨b, off, e, by omega, hc⟩, fun j hj => (h.rows j hj).more hB, h.lens, h.caps⟩
theorem RR.below (h : RR w B A n vs xss) {B' : Nat} (hb : Below B' w w') (hB : B ≤ B') : RR w' B A n vs xss := h.keep fun _ hp => hb.cell (by omega)
theorem RR.up (h : RR w w.heap.size A n vs xss) (hb : Below w.heap.size w w') : RR w' w'.heap.size A n vs xss := (h.below hb (Nat.le_refl _)).more hb.size
theorem RR.drewN (h : RR w B A n vs xss) (k : Nat) : RR (w.drewN k) B A n vs xss := h.keep fun _ _ => rfl
theorem RR.alloc (h : RR w B A n vs xss) (hB : B ≤ w.heap.size) (o : Obj) : RR (w.alloc o) B A n vs xss := h.keep fun p hp => World.cell?_alloc_lt w o p (by omega)
theorem RR.grown (h : RR w B A n vs xss) {row : Option Nat} (hg : w.grownBy w' row) (hB : B ≤ w.heap.size) (hr : ∀ g, row = some g → B ≤ g) : RR w' B A n vs xss :=
  h.keep fun p hp => World.cell?_of_block (hg.block p.block (by omega) (fun e => by have := hr _ e.symm; omega))
theorem RR.setCell (h : RR w B A n vs xss) {p : Addr} (hB : B ≤ p.block) (u : Value) : RR (w.setCell p u) B A n vs xss :=
  h.keep fun q hq => World.cell?_setCell_other w p q u (fun e => by subst e; omega)
theorem RR.nil_ : RR w B A 0 [] [] := ⟨rfl, rfl, fun h => absurd h (by omega), fun j h => absurd h (by omega), fun j h => absurd h (by omega), fun j h => absurd h (by omega)⟩
/-- What the k-th slice is. -/
theorem RR.at_ (h : RR w B A n vs xss) {k : Nat} (hk : k < n) : ∃ b off A5 l c5 y, A = some ⟨b, off, none⟩ ∧ b < B ∧ vs.getD k sd0 = (A5, l, c5) ∧ xss.getD k [] = y ∧
    w.cell? ⟨b, off + k, none⟩ = some (.slice A5 l c5) ∧ RI w B A5 y ∧ y.length = l ∧ l ≤ c5 := by
  obtain ⟨b, off, e, hb, hc⟩ := h.cells (by omega)
  exact ⟨b, off, _, _, _, _, e, hb, rfl, rfl, hc k hk, h.rows k hk, h.lens k hk, h.caps k hk⟩
theorem SS.rr {bo bi c : Nat} (h : SS w bo bi A n c vs xss) : RR w w.heap.size A n vs xss :=
  ⟨h.lv, h.lx, fun hn => by obtain ⟨g, e, _, hg, hc⟩ := h.at_ hn; exact ⟨g, 0, e, hg, fun j hj => by rw [Nat.zero_add]; exact hc j hj⟩, fun j hj => (h.row j hj).ri_, fun j hj => (h.row j hj).1, fun j hj => (h.row j hj).le.1⟩
end

/-- The sum of the first k lengths. -/
def tot : List SV → Nat → Nat
  | _, 0 => 0
  | vs, k + 1 => tot vs k + (vs.getD k sd0).2.1
theorem tot_succ (vs : List SV) (k : Nat) : tot vs (k + 1) = tot vs k + (vs.getD k sd0).2.1 := rfl
theorem tot_mono {vs : List SV} {a b : Nat} (h : a ≤ b) : tot vs a ≤ tot vs b := by
  induction b with
  | zero => obtain rfl : a = 0 := by omega
            exact Nat.le_refl _
  | succ b ih =>
    by_cases e : a = b + 1
    · subst e; exact Nat.le_refl _
    · have := ih (by omega); rw [tot_succ]; omega
theorem tot_row {vs : List SV} {k n : Nat} (h : k < n) : (vs.getD k sd0).2.1 ≤ tot vs n := by
  have := tot_mono (vs := vs) (show k + 1 ≤ n from h)
  rw [tot_succ] at this; omega
theorem tot_eq {vs us : List SV} : ∀ n, (∀ i, i < n → (vs.getD i sd0).2.1 = (us.getD i sd0).2.1) → tot vs n = tot us n
  | 0, _ => rfl
  | n + 1, h => by rw [tot_succ, tot_succ, tot_eq n (fun i hi => h i (by omega)), h n (by omega)]
theorem tot_le_mul {vs : List SV} {n m : Nat} (h : ∀ i, i < n → (vs.getD i sd0).2.1 ≤ m) : tot vs n ≤ n * m := by
  induction n with
  | zero => exact Nat.zero_le _
  | succ n ih => have := ih (fun i hi => h i (by omega)); have := h n (by omega); rw [tot_succ, Nat.succ_mul]; omega

/-- szInt64S. -/
theorem szS (A : Option Addr) (n c : Nat) (left : Int) (w : World) (h0 : 0 ≤ left) (h1 : left ≤ 1048576) (hn : n ≤ maxLen) :
    Calls Try.prog 90 #[.slice A n c, .int .i64 left] w fun e w' => e = .returned (.int .i64 (if (n : Int) ≤ left then left - n else -1)) ∧ w = w' := by
  unfold maxLen at hn
  by_cases h : (n : Int) ≤ left
  · have d : decide (left - (n : Int) < 0) = false := by simp; omega
    rw [if_pos h]
    go_enter Try.func90, Try.ntmps90
    go_wp2
    go_ret
    exact ⟨rfl, rfl⟩
  · have d : decide (left - (n : Int) < 0) = true := by simp; omega
    rw [if_neg h]
    go_enter Try.func90, Try.ntmps90
    go_wp2
    go_ret
    exact ⟨rfl, rfl⟩

set_option maxHeartbeats 800000 in
/-- szInt64SS at a slice of slices. -/
theorem szSS (A : Option Addr) (n c : Nat) (vs : List SV) (xss : List (List Int)) (w : World) (hx : RR w w.heap.size A n vs xss) (hn : n ≤ maxLen) (hl : Hid (∀ i, i < n → (vs.getD i sd0).2.1 ≤ maxLen)) :
    Calls Try.prog 63 #[.slice A n c, .int .i64 1048576] w fun e w' => e = .returned (.int .i64 (if n + tot vs n ≤ 1048576 then 1048576 - ((n + tot vs n : Nat) : Int) else -1)) ∧ w = w' := by
  have HX := Lib.hid hx
  clear hx
  have hn' := hn
  unfold maxLen at hn'
  obtain ⟨r, er⟩ : ∃ r : Int, (if n + tot vs n ≤ 1048576 then 1048576 - ((n + tot vs n : Nat) : Int) else -1) = r := ⟨_, rfl⟩
  rw [er]
  have Er := Lib.hid er
  clear er
  by_cases h : n ≤ 1048576
  · have d : decide ((1048576 : Int) - (n : Int) < 0) = false := by simp; omega
    go_enter Try.func63, Try.ntmps63
    go_wp2
    go_loop [1, 5] (fun v i => ∃ (k T : Nat), k ≤ n ∧ Hid (tot vs k = T) ∧ n + T ≤ 1048576 ∧ i = .int .i64 (k : Nat) ∧ v = .int .i64 (1048576 - ((n + T : Nat) : Int))) (fun _ i => n - (intOf i).toNat)
    case atStart => exact ⟨0, 0, Nat.zero_le _, Lib.hid rfl, by omega, rfl, by go_num⟩
    case round =>
      obtain ⟨k, T, hk, hT, hT1, rfl, rfl⟩ := hrel
      by_cases hlt : k < n
      · obtain ⟨b, off, A5, l, c5, y, rfl, hb, ev, ey, hc, hr, hy, hlc⟩ := HX.out.at_ hlt
        have hl1 := hl.out k hlt
        have hT2 : Hid (tot vs (k + 1) = T + l) := Lib.hid (by rw [tot_succ, hT.out, ev])
        have hm : Hid (tot vs (k + 1) ≤ tot vs n) := Lib.hid (tot_mono hlt)
        rw [ev] at hl1
        clear ev ey hr
        by_cases hfit : n + T + l ≤ 1048576
        · have d2 : decide ((1048576 : Int) - ((n + T : Nat) : Int) - (l : Int) < 0) = false := by simp; omega
          go_wp2_with fail
          refine (szS A5 l c5 _ w (by omega) (by omega) hl1).mono ?_
          rintro e w1 ⟨rfl, rfl⟩
          rw [if_pos (by omega)]
          go_wp2
          go_round
          case rel => exact ⟨k + 1, T + l, by omega, hT2, by omega, by go_num, by go_num⟩
          case measure => simp [intOf]; omega
        · go_wp2_with fail
          refine (szS A5 l c5 _ w (by omega) (by omega) hl1).mono ?_
          rintro e w1 ⟨rfl, rfl⟩
          rw [if_neg (by omega)]
          go_wp2
          go_ret
          exact ⟨by rw [← Er.out, if_neg (by have := hm.out; rw [hT2.out] at this; omega)]; rfl, rfl⟩
      · have hkn : k = n := by omega
        subst hkn
        go_wp2
        go_ret
        exact ⟨by rw [← Er.out, hT.out, if_pos hT1]; go_num, rfl⟩
  · have d : decide ((1048576 : Int) - (n : Int) < 0) = true := by simp; omega
    have er2 : r = -1 := by rw [← Er.out, if_neg (by omega)]
    subst er2
    go_enter Try.func63, Try.ntmps63
    go_wp2
    go_ret
    exact ⟨rfl, rfl⟩

theorem getD_set_ne {α : Type} {l : List α} {i j : Nat} {x d : α} (h : i ≠ j) : (l.set i x).getD j d = l.getD j d := by
  rw [List.getD_eq_getElem?_getD, List.getElem?_set, if_neg h, ← List.getD_eq_getElem?_getD]
theorem getD_set_eq {α : Type} {l : List α} {i : Nat} {x d : α} (h : i < l.length) : (l.set i x).getD i d = x := by
  rw [List.getD_eq_getElem?_getD, List.getElem?_set, if_pos rfl, if_pos h]; rfl
theorem getD_rep {α : Type} {n i : Nat} {d : α} : (List.replicate n d).getD i d = d := by
  rw [List.getD_eq_getElem?_getD, List.getElem?_replicate]; split <;> rfl
/-- 'make([][]int64, n)': a row of nil slices. -/
theorem SS.made {w : World} {base bi g n : Nat} (h : w.ownsRow base 27 1 (.slice (some ⟨g, 0, none⟩) n n) n (madeCells (Value.slice none 0 0).cells (n * 1)).toList) : SS w base bi (some ⟨g, 0, none⟩) n n (List.replicate n sd0) (List.replicate n []) := by
  refine ⟨?_, by simp, by simp, fun i _ => ?_, fun i j _ _ => ?_⟩
  · have e : (madeCells (Value.slice none 0 0).cells (n * 1)).toList = (List.replicate n sd0).map sval := by
      show (madeCells #[Value.slice none 0 0] (n * 1)).toList = _
      rw [toList_madeCells_one]; simp [sval, sd0]
    rw [← e]; exact h
  · rw [getD_rep, getD_rep]; exact Slc.nil_
  · rw [getD_rep]; exact .inl rfl
/-- Where cell j of the outer row takes another slice. -/
theorem SS.store {w : World} {base bi g n c j dn dc : Nat} {dA : Option Addr} {vs : List SV} {xss : List (List Int)} {ys : List Int} (h : SS w base bi (some ⟨g, 0, none⟩) n c vs xss) (hj : j < n) (hs : Slc w bi dA dn dc ys)
    (hd : ∀ i, i < n → i ≠ j → (sval (vs.getD i sd0)).ownBlock = none ∨ (sval (vs.getD i sd0)).ownBlock ≠ (Value.slice dA dn dc).ownBlock) :
    SS (w.setCell ⟨g, j, none⟩ (.slice dA dn dc)) base bi (some ⟨g, 0, none⟩) n c (vs.set j (dA, dn, dc)) (xss.set j ys) ∧ w.grownBy (w.setCell ⟨g, j, none⟩ (.slice dA dn dc)) (some g) := by
  obtain ⟨hown, hgr⟩ := h.own.stored j (.slice dA dn dc)
  refine ⟨⟨by rw [List.map_set]; exact hown, by rw [List.length_set]; exact h.lv, by rw [List.length_set]; exact h.lx, fun i hi => ?_, fun a b hab hb => ?_⟩, hgr⟩
  · by_cases e : j = i
    · subst e
      rw [getD_set_eq (by rw [h.lv]; exact hj), getD_set_eq (by rw [h.lx]; exact hj)]
      exact hs.kept hgr (apart_types hs h.own)
    · rw [getD_set_ne e, getD_set_ne e]
      exact (h.row i hi).kept hgr (apart_types (h.row i hi) h.own)
  · by_cases ea : j = a
    · subst ea
      rw [getD_set_eq (by rw [h.lv]; exact hj), getD_set_ne (by omega)]
      rcases hd b hb (by omega) with e | e
      · rw [e]
        rcases (sval (dA, dn, dc)).ownBlock with _ | q
        · exact .inl rfl
        · exact .inr (by simp)
      · exact .inr fun e2 => e e2.symm
    · rw [getD_set_ne ea]
      by_cases eb : j = b
      · subst eb
        rw [getD_set_eq (by rw [h.lv]; exact hj)]
        exact hd a (by omega) (by omega)
      · rw [getD_set_ne eb]; exact h.dis a b hab hb

set_option maxHeartbeats 1600000 in
/-- toInt64SS: a copy of the call's own. -/
theorem toSS (A : Option Addr) (n c : Nat) (vs : List SV) (xss : List (List Int)) (w : World) (hx : RR w w.heap.size A n vs xss) (hn : n ≤ 1048576) (hl : Hid (∀ i, i < n → (vs.getD i sd0).2.1 ≤ 1048576)) :
    Calls Try.prog 66 #[.slice A n c] w fun e w' => ∃ A' c' vs', e = .returned (.slice A' n c') ∧ SS w' w.heap.size w.heap.size A' n c' vs' xss ∧ (∀ i, i < n → (vs'.getD i sd0).2.1 = (vs.getD i sd0).2.1) ∧ Below w.heap.size w w' := by
  obtain ⟨i0, hi, hz0, hz1, hz2⟩ := info_parts infoS
  have HX := Lib.hid hx
  clear hx
  go_enter Try.func66, Try.ntmps66
  go_wp2_with (first | (at_make; refine wpList_make_full _ rfl _ _ 24 rfl w.heap.size 27 i0 (.slice none 0 0) 1 Try.underlying24 hi hz0 hz1 .i64 .i64 _ _ n rfl rfl rfl rfl (by rw [hz2]; omega) (by unfold maxLen; omega) (Nat.le_refl _) ?_; intro w1 hown1 hgrow1))
  have S1 : Hid (SS w1 w.heap.size w.heap.size (some ⟨w.heap.size, 0, none⟩) n n (List.replicate n sd0) (List.replicate n [])) := Lib.hid (SS.made hown1)
  have bel1 : Below w.heap.size w w1 := (Below.refl _ _).grown hgrow1 (Nat.le_refl _) (fun k e => nomatch e)
  clear hown1 hgrow1
  go_loopw [4] (fun i wr => ∃ k us zss, k ≤ n ∧ i = .int .i64 (k : Nat) ∧ SS wr w.heap.size w.heap.size (some ⟨w.heap.size, 0, none⟩) n n us zss ∧
    (∀ j, j < k → zss.getD j [] = xss.getD j []) ∧ (∀ j, j < k → (us.getD j sd0).2.1 = (vs.getD j sd0).2.1) ∧ Below w.heap.size w wr) (fun i _ => n - (intOf i).toNat)
  case atStart => exact ⟨0, _, _, Nat.zero_le _, rfl, S1.out, fun j h => absurd h (by omega), fun j h => absurd h (by omega), bel1⟩
  case round =>
    clear S1 bel1
    obtain ⟨k, us, zss, hk, rfl, ss, hz, hu, bel⟩ := hrel
    have Ss := Lib.hid ss
    have Hz := Lib.hid hz
    have Hu := Lib.hid hu
    have Be := Lib.hid bel
    clear ss hz hu bel
    by_cases hlt : k < n
    · obtain ⟨b, off, A5, l, c5, y, rfl, hb, ev, ey, hc0, hr0, hy, hlc⟩ := HX.out.at_ hlt
      have hl1 := hl.out k hlt
      rw [ev] at hl1
      have hc := (Be.out.cell (p := ⟨b, off + k, none⟩) hb).trans hc0
      have hr := Lib.hid ((hr0.below Be.out (Nat.le_refl _)).more Be.out.size)
      have Ev := Lib.hid ev
      have Ey := Lib.hid ey
      clear ev ey hc0 hr0
      go_wp2_with fail
      refine (toS_any A5 c5 l y wr hr.out (Lib.hid hy) (by omega)).mono ?_
      rintro e w3 ⟨A3, c3, rfl, s3, b3⟩
      have hd : ∀ i, i < n → i ≠ k → (sval (us.getD i sd0)).ownBlock = none ∨ (sval (us.getD i sd0)).ownBlock ≠ (Value.slice A3 l c3).ownBlock := fun i hi _ => lies_dis Ss.out s3.lies (Nat.le_refl _) i hi
      have ss3 := (Ss.out.up b3).store hlt (s3.mono Be.out.size) hd
      obtain ⟨g, eg, hg1, hg2, hcc⟩ := (Ss.out.up b3).at_ (by omega)
      have eg2 : g = w.heap.size := by simpa using eg.symm
      rw [eg2] at hcc
      have c2 := hcc k hlt
      have f2 := (Ss.out.up b3).own.frozenAt k
      have Ss3 := Lib.hid ss3.1
      have Be3 : Hid (Below w.heap.size w (w3.setCell ⟨w.heap.size, k, none⟩ (.slice A3 l c3))) := Lib.hid ((btr Be.out b3).setCell (p := ⟨w.heap.size, k, none⟩) (Nat.le_refl _) _)
      clear ss3 hd s3 b3 hcc eg
      obtain ⟨o1, o2, o3, hu5⟩ : ∃ o1 o2 o3, us.getD k sd0 = (o1, o2, o3) := ⟨_, _, _, rfl⟩
      rw [hu5] at c2
      clear hu5
      go_wp2
      go_roundw
      case rel =>
        refine ⟨k + 1, _, _, by omega, by go_num, Ss3.out, fun j hj => ?_, fun j hj => ?_, Be3.out⟩
        · by_cases e : k = j
          · subst e; rw [getD_set_eq (by rw [Ss.out.lx]; exact hlt), Ey.out]
          · rw [getD_set_ne e]; exact Hz.out j (by omega)
        · by_cases e : k = j
          · subst e; rw [getD_set_eq (by rw [Ss.out.lv]; exact hlt), Ev.out]
          · rw [getD_set_ne e]; exact Hu.out j (by omega)
      case measure => simp [intOf]; omega
    · have hkn : k = n := by omega
      subst hkn
      have Ez : Hid (zss = xss) := Lib.hid (by
        apply List.ext_getElem (by rw [Ss.out.lx, HX.out.lx])
        intro i h1 h2
        have := Hz.out i (by rw [← Ss.out.lx]; exact h1)
        rw [List.getD_eq_getElem?_getD, List.getD_eq_getElem?_getD, List.getElem?_eq_getElem h1, List.getElem?_eq_getElem h2] at this
        exact this)
      go_wp2
      go_ret
      exact ⟨_, _, _, rfl, by rw [← Ez.out]; exact Ss.out, Hu.out, Be.out⟩
end Go.Proofs.Ytkjokchhffjidaa

/- Plain facts on permutations as lists of numbers: iterates, periods, cycles, orders. No Go in it. No condition. -/
namespace Go.Proofs.Ytkjokchhffjidaa

theorem ndlen : ∀ (n : Nat) (l : List Nat), l.Nodup → (∀ x ∈ l, x < n) → l.length ≤ n := by
  intro n
  induction n with
  | zero =>
    intro l _ h
    cases l with
    | nil => simp
    | cons a t => exact absurd (h a (by simp)) (by omega)
  | succ n ih =>
    intro l hd h
    have h1 : (l.filter (fun x => x != n)).length ≤ n := by
      refine ih _ (hd.filter _) ?_
      intro x hx
      rw [List.mem_filter] at hx
      have := h x hx.1
      have h2 : x ≠ n := by simpa using hx.2
      omega
    have h2 : l.length ≤ (l.filter (fun x => x != n)).length + 1 := by
      clear ih h h1
      induction l with
      | nil => simp
      | cons a t iht =>
        rw [List.nodup_cons] at hd
        by_cases ha : a = n
        · subst ha
          have : t.filter (fun x => x != a) = t := by
            rw [List.filter_eq_self]
            intro x hx
            have : x ≠ a := fun e => hd.1 (e ▸ hx)
            simpa using this
          simp [this]
        · have := iht hd.2
          simp [ha]; omega
    omega

/-- The point that follows i. -/
def nx (p : List Int) (i : Nat) : Nat := (p.getD i 0).toNat

structure IsP (p : List Int) : Prop where
  pos : 1 ≤ p.length
  le : p.length ≤ 20
  lo : ∀ i, i < p.length → 0 ≤ p.getD i 0
  hi : ∀ i, i < p.length → p.getD i 0 < p.length
  inj : ∀ i j, i < p.length → j < p.length → p.getD i 0 = p.getD j 0 → i = j

def it (p : List Int) : Nat → Nat → Nat
  | 0, x => x
  | k + 1, x => nx p (it p k x)

section
variable {p : List Int} (h : IsP p)
include h

theorem nx_lt {x : Nat} (hx : x < p.length) : nx p x < p.length := by
  have := h.hi x hx; have := h.lo x hx; unfold nx; omega
theorem nx_val {x : Nat} (hx : x < p.length) : p.getD x 0 = (nx p x : Int) := by
  have := h.lo x hx; unfold nx; omega
theorem nx_inj {x y : Nat} (hx : x < p.length) (hy : y < p.length) (e : nx p x = nx p y) : x = y :=
  h.inj x y hx hy (by rw [nx_val h hx, nx_val h hy, e])
theorem it_lt {x : Nat} (hx : x < p.length) (k : Nat) : it p k x < p.length := by
  induction k with
  | zero => exact hx
  | succ k ih => exact nx_lt h ih
theorem it_inj {x y : Nat} (hx : x < p.length) (hy : y < p.length) (k : Nat) (e : it p k x = it p k y) : x = y := by
  induction k with
  | zero => exact e
  | succ k ih => exact ih (nx_inj h (it_lt h hx k) (it_lt h hy k) e)
end

theorem it_add (p : List Int) (a b x : Nat) : it p (a + b) x = it p a (it p b x) := by
  induction a with
  | zero => simp [it]
  | succ a ih => rw [Nat.succ_add]; simp [it, ih]
theorem it_comm (p : List Int) (a b x : Nat) : it p a (it p b x) = it p b (it p a x) := by
  rw [← it_add, ← it_add, Nat.add_comm]

theorem ret_ex {p : List Int} (h : IsP p) {x : Nat} (hx : x < p.length) : ∃ k, 1 ≤ k ∧ k ≤ p.length ∧ it p k x = x := by
  refine Classical.byContradiction fun hne => ?_
  have hne' : ∀ k, 1 ≤ k → k ≤ p.length → it p k x ≠ x := fun k h1 h2 e => hne ⟨k, h1, h2, e⟩
  have key : ((List.range (p.length + 1)).map fun k => it p k x).Nodup := by
    rw [List.Nodup, List.pairwise_map]
    rw [List.pairwise_iff_getElem]
    intro i j hi hj hij e
    simp only [List.length_range] at hi hj
    simp only [List.getElem_range] at e
    have e2 : it p i (it p (j - i) x) = it p i x := by rw [← it_add]; rw [e]; congr 1; omega
    exact hne' (j - i) (by omega) (by omega) (it_inj h (it_lt h hx _) hx i e2)
  have := ndlen p.length _ key (by intro y hy; simp only [List.mem_map] at hy; obtain ⟨k, _, rfl⟩ := hy; exact it_lt h hx k)
  rw [List.length_map, List.length_range] at this
  omega

def per (p : List Int) (x : Nat) : Nat := ((List.range' 1 p.length).find? (fun k => it p k x == x)).getD 1

theorem per_spec {p : List Int} (h : IsP p) {x : Nat} (hx : x < p.length) :
    1 ≤ per p x ∧ per p x ≤ p.length ∧ it p (per p x) x = x ∧ ∀ k, 1 ≤ k → k < per p x → it p k x ≠ x := by
  obtain ⟨k0, h1, h2, h3⟩ := ret_ex h hx
  have hsome : ((List.range' 1 p.length).find? (fun k => it p k x == x)).isSome := by
    rw [List.find?_isSome]
    exact ⟨k0, by rw [List.mem_range'_1]; omega, by simpa using h3⟩
  obtain ⟨m, hm⟩ := Option.isSome_iff_exists.1 hsome
  have hp : per p x = m := by unfold per; rw [hm]; rfl
  rw [hp]
  have hmem := List.mem_of_find?_eq_some hm
  have hval := List.find?_some hm
  rw [List.mem_range'_1] at hmem
  refine ⟨hmem.1, by omega, by simpa using hval, ?_⟩
  intro k hk1 hk2 e
  rw [List.find?_eq_some_iff_getElem] at hm
  obtain ⟨_, i, hi, hget, hbef⟩ := hm
  rw [List.getElem_range'] at hget
  simp at hget
  have := hbef (k - 1) (by omega)
  rw [List.getElem_range'] at this
  simp at this
  apply this
  rw [show 1 + (k - 1) = k from by omega]; exact e

theorem it_mod {p : List Int} (h : IsP p) {x : Nat} (hx : x < p.length) (k : Nat) : it p k x = it p (k % per p x) x := by
  obtain ⟨h1, _, h3, _⟩ := per_spec h hx
  have hmul : ∀ q, it p (q * per p x) x = x := by
    intro q
    induction q with
    | zero => simp [it]
    | succ q ih => rw [Nat.succ_mul, it_add, h3, ih]
  have := Nat.div_add_mod k (per p x)
  rw [Nat.mul_comm] at this
  calc it p k x = it p (k % per p x + k / per p x * per p x) x := by rw [Nat.add_comm, this]
    _ = _ := by rw [it_add, hmul]

theorem it_eq_iff {p : List Int} (h : IsP p) {x : Nat} (hx : x < p.length) (k : Nat) : it p k x = x ↔ k % per p x = 0 := by
  obtain ⟨h1, _, h3, h4⟩ := per_spec h hx
  rw [it_mod h hx k]
  constructor
  · intro e
    refine Classical.byContradiction fun hne => ?_
    exact h4 (k % per p x) (by omega) (Nat.mod_lt _ (by omega)) e
  · intro e; rw [e]; rfl

/-- Points of one cycle have one period. -/
theorem per_it {p : List Int} (h : IsP p) {x : Nat} (hx : x < p.length) (k : Nat) : per p (it p k x) = per p x := by
  have hy := it_lt h hx k
  have key : ∀ m, it p m (it p k x) = it p k x ↔ it p m x = x := fun m => by
    rw [it_comm]
    exact ⟨fun e => it_inj h (it_lt h hx m) hx k e, fun e => by rw [e]⟩
  obtain ⟨a1, _, a3, a4⟩ := per_spec h hx
  obtain ⟨b1, _, b3, b4⟩ := per_spec h hy
  rcases Nat.lt_trichotomy (per p (it p k x)) (per p x) with hlt | heq | hgt
  · exact absurd ((key _).1 b3) (a4 _ b1 hlt)
  · exact heq
  · exact absurd ((key _).2 a3) (b4 _ a1 hgt)

/-- The points that follow x, x first. -/
def cyc (p : List Int) (x : Nat) : List Int := (List.range (per p x)).map fun k => (it p k x : Int)
/-- x is the smallest point of its cycle. -/
def st (p : List Int) (x : Nat) : Bool := (List.range (per p x)).all fun k => decide (x ≤ it p k x)
def cycs (p : List Int) : List (List Int) := ((List.range p.length).filter (st p)).map (cyc p)

theorem cyc_length (p : List Int) (x : Nat) : (cyc p x).length = per p x := by simp [cyc]


instance (p : List Int) : Decidable (∀ i j, i < p.length → j < p.length → p.getD i 0 = p.getD j 0 → i = j) :=
  decidable_of_iff (∀ i, i < p.length → ∀ j, j < p.length → p.getD i 0 = p.getD j 0 → i = j) ⟨fun h i j a b c => h i a j b c, fun h i a j b c => h i j a b c⟩

def isP (p : List Int) : Bool :=
  decide (1 ≤ p.length) && decide (p.length ≤ 20) && decide (∀ i, i < p.length → 0 ≤ p.getD i 0) && decide (∀ i, i < p.length → p.getD i 0 < p.length) &&
    decide (∀ i, i < p.length → ∀ j, j < p.length → p.getD i 0 = p.getD j 0 → i = j)
theorem isP_iff {p : List Int} : isP p = true ↔ IsP p := by
  unfold isP
  simp only [Bool.and_eq_true, decide_eq_true_eq]
  constructor
  · rintro ⟨⟨⟨⟨a, b⟩, c⟩, d⟩, e⟩
    exact ⟨a, b, c, d, fun i j hi hj => e i hi j hj⟩
  · rintro ⟨a, b, c, d, e⟩
    exact ⟨⟨⟨⟨a, b⟩, c⟩, d⟩, fun i hi j hj => e i j hi hj⟩

/-- The first k entries are in range and differ from one another. -/
def okTo (p : List Int) (k : Nat) : Prop :=
  (∀ i, i < k → 0 ≤ p.getD i 0 ∧ p.getD i 0 < p.length) ∧ ∀ i j, i < j → j < k → p.getD i 0 ≠ p.getD j 0
theorem okTo_zero (p : List Int) : okTo p 0 := ⟨fun i h => absurd h (by omega), fun i j _ h => absurd h (by omega)⟩
theorem okTo_succ {p : List Int} {k : Nat} (h : okTo p k) (h0 : 0 ≤ p.getD k 0) (h1 : p.getD k 0 < p.length) (h2 : ∀ i, i < k → p.getD i 0 ≠ p.getD k 0) : okTo p (k + 1) := by
  refine ⟨fun i hi => ?_, fun i j hij hj => ?_⟩
  · by_cases e : i = k
    · subst e; exact ⟨h0, h1⟩
    · exact h.1 i (by omega)
  · by_cases e : j = k
    · subst e; exact h2 i hij
    · exact h.2 i j hij (by omega)
theorem isP_of_ok {p : List Int} (a : 1 ≤ p.length) (b : p.length ≤ 20) (h : okTo p p.length) : isP p = true := by
  rw [isP_iff]
  refine ⟨a, b, fun i hi => (h.1 i hi).1, fun i hi => (h.1 i hi).2, fun i j hi hj e => ?_⟩
  rcases Nat.lt_trichotomy i j with hl | he | hg
  · exact absurd e (h.2 i j hl hj)
  · exact he
  · exact absurd e.symm (h.2 j i hg hi)
theorem isP_no_range {p : List Int} {k : Nat} (hk : k < p.length) (h : p.getD k 0 < 0 ∨ (p.length : Int) ≤ p.getD k 0) : isP p = false := by
  rw [Bool.eq_false_iff]
  intro e
  rw [isP_iff] at e
  have := e.lo k hk
  have := e.hi k hk
  omega
theorem isP_no_twice {p : List Int} {i k : Nat} (hk : k < p.length) (hi : i < k) (h : p.getD i 0 = p.getD k 0) : isP p = false := by
  rw [Bool.eq_false_iff]
  intro e
  rw [isP_iff] at e
  have := e.inj i k (by omega) hk h
  omega
theorem isP_no_len {p : List Int} (h : p.length < 1 ∨ 20 < p.length) : isP p = false := by
  rw [Bool.eq_false_iff]
  intro e
  rw [isP_iff] at e
  have := e.pos
  have := e.le
  omega

def idL (n : Nat) : List Int := (List.range n).map Int.ofNat
def compL (p q : List Int) : List Int := p.map fun x => q.getD x.toNat 0
def invL (p : List Int) : Nat → List Int
  | 0 => List.replicate p.length 0
  | k + 1 => (invL p k).set (p.getD k 0).toNat k
def powL (p : List Int) (k : Int) : List Int := (List.range p.length).map fun i => (it p (k % (per p i : Int)).toNat i : Int)
def lcmL (l : List Nat) : Nat := l.foldl Nat.lcm 1
def ordL (p : List Int) : Nat := lcmL ((List.range p.length).map (per p))
def cycl (p : List Int) : List (List Int) := (cycs p).filter fun c => decide (1 < c.length)
def sgn (p : List Int) : Int := if (p.length - (cycs p).length) % 2 = 0 then 1 else -1
def supp (p : List Int) : List Int := ((List.range p.length).filter fun i => p.getD i 0 != (i : Int)).map Int.ofNat
/-- p comes first: the first entry that differs is smaller. -/
def lessL : List Int → List Int → Bool
  | a :: p, b :: q => if a = b then lessL p q else decide (a < b)
  | _, _ => false

theorem foldl_lcm (l : List Nat) (a : Nat) : l.foldl Nat.lcm a = Nat.lcm a (lcmL l) := by
  unfold lcmL
  induction l generalizing a with
  | nil => simp
  | cons b t ih => simp only [List.foldl_cons]; rw [ih, ih (Nat.lcm 1 b), Nat.lcm_one_left, Nat.lcm_assoc]
theorem lcmL_snoc (l : List Nat) (a : Nat) : lcmL (l ++ [a]) = Nat.lcm (lcmL l) a := by simp [lcmL]
theorem dvd_lcmL {l : List Nat} {a : Nat} (h : a ∈ l) : a ∣ lcmL l := by
  induction l with
  | nil => cases h
  | cons b t ih =>
    have : lcmL (b :: t) = Nat.lcm b (lcmL t) := by unfold lcmL; simp only [List.foldl_cons]; rw [foldl_lcm, Nat.lcm_one_left]; rfl
    rw [this]
    rcases List.mem_cons.1 h with rfl | h
    · exact Nat.dvd_lcm_left _ _
    · exact Nat.dvd_trans (ih h) (Nat.dvd_lcm_right _ _)
theorem lcmL_dvd {l : List Nat} {m : Nat} (h : ∀ a ∈ l, a ∣ m) : lcmL l ∣ m := by
  induction l with
  | nil => simp [lcmL]
  | cons b t ih =>
    have : lcmL (b :: t) = Nat.lcm b (lcmL t) := by unfold lcmL; simp only [List.foldl_cons]; rw [foldl_lcm, Nat.lcm_one_left]; rfl
    rw [this]
    exact Nat.lcm_dvd (h b (by simp)) (ih fun a ha => h a (by simp [ha]))
theorem lcmL_pos {l : List Nat} (h : ∀ a ∈ l, 1 ≤ a ∧ a ≤ 20) : 1 ≤ lcmL l ∧ lcmL l ≤ 232792560 := by
  have hd : lcmL l ∣ 232792560 := lcmL_dvd fun a ha => by
    obtain ⟨h1, h2⟩ := h a ha
    have : ∀ a : Fin 21, 1 ≤ a.val → a.val ∣ 232792560 := by decide
    exact this ⟨a, by omega⟩ h1
  have hle := Nat.le_of_dvd (by decide) hd
  refine ⟨?_, hle⟩
  rcases Nat.eq_zero_or_pos (lcmL l) with e | e
  · rw [e] at hd; exact absurd (Nat.eq_zero_of_zero_dvd hd) (by decide)
  · exact e

/-- Every point lies in the cycle of a smallest point. -/
theorem min_ex {p : List Int} (h : IsP p) {x : Nat} (hx : x < p.length) : ∃ c j, c < p.length ∧ st p c = true ∧ j < per p c ∧ it p j c = x := by
  obtain ⟨h1, h2, h3, h4⟩ := per_spec h hx
  have hmin : ∀ m, 1 ≤ m → m ≤ per p x → ∃ i, i < m ∧ ∀ j, j < m → it p i x ≤ it p j x := by
    intro m
    induction m with
    | zero => omega
    | succ m ih =>
      intro _ hm
      by_cases h0 : m = 0
      · subst h0; exact ⟨0, by omega, fun j hj => by rw [show j = 0 from by omega]; exact Nat.le_refl _⟩
      · obtain ⟨i, hi, hle⟩ := ih (by omega) (by omega)
        by_cases hc : it p i x ≤ it p m x
        · exact ⟨i, by omega, fun j hj => by
            by_cases e : j = m
            · subst e; exact hc
            · exact hle j (by omega)⟩
        · exact ⟨m, by omega, fun j hj => by
            by_cases e : j = m
            · subst e; exact Nat.le_refl _
            · have := hle j (by omega); omega⟩
  obtain ⟨i, hi, hle⟩ := hmin (per p x) h1 (Nat.le_refl _)
  have hpc := per_it h hx i
  refine ⟨it p i x, per p x - i - (if i = 0 then per p x else 0), it_lt h hx i, ?_, ?_, ?_⟩
  · unfold st
    rw [List.all_eq_true]
    intro k hk
    rw [List.mem_range, hpc] at hk
    rw [decide_eq_true_eq, ← it_add, it_mod h hx (k + i)]
    exact hle _ (Nat.mod_lt _ (by omega))
  · rw [hpc]; split <;> omega
  · by_cases e : i = 0
    · subst e; simp [it]
    · rw [if_neg e, ← it_add, show per p x - i - 0 + i = per p x from by omega, h3]

theorem mem_cycs_per {p : List Int} (h : IsP p) : ordL p = lcmL ((cycs p).map List.length) := by
  have hl : (cycs p).map List.length = ((List.range p.length).filter (st p)).map (per p) := by
    unfold cycs; rw [List.map_map]; congr 1; funext x; simp [cyc_length]
  rw [hl]
  apply Nat.dvd_antisymm
  · refine lcmL_dvd fun a ha => ?_
    rw [List.mem_map] at ha
    obtain ⟨x, hx, rfl⟩ := ha
    rw [List.mem_range] at hx
    obtain ⟨c, j, hc, hst, hj, e⟩ := min_ex h hx
    rw [← e, per_it h hc]
    exact dvd_lcmL (List.mem_map.2 ⟨c, List.mem_filter.2 ⟨List.mem_range.2 hc, hst⟩, rfl⟩)
  · refine lcmL_dvd fun a ha => ?_
    rw [List.mem_map] at ha
    obtain ⟨x, hx, rfl⟩ := ha
    exact dvd_lcmL (List.mem_map.2 ⟨x, (List.mem_filter.1 hx).1, rfl⟩)

end Go.Proofs.Ytkjokchhffjidaa

/- IsPermutation, of the program and of the model: both answer whether the list is a permutation. Condition: at most 2097152 entries. -/
namespace Go.Proofs.Ytkjokchhffjidaa
open Go.RowKit

def seenB (xs : List Int) (k y : Nat) : Bool := (List.range k).any fun j => xs.getD j 0 == (y : Int)
theorem seenB_zero (xs : List Int) (y : Nat) : seenB xs 0 y = false := rfl
theorem seenB_succ (xs : List Int) (k y x : Nat) (h : xs.getD k 0 = (x : Int)) : seenB xs (k + 1) y = (seenB xs k y || decide (x = y)) := by
  unfold seenB
  rw [List.range_succ, List.any_append]
  simp only [List.any_cons, List.any_nil, Bool.or_false, h]
  congr 1
  rw [Bool.eq_iff_iff]; simp; omega
theorem seenB_true {xs : List Int} {k y : Nat} (h : seenB xs k y = true) : ∃ j, j < k ∧ xs.getD j 0 = (y : Int) := by
  unfold seenB at h
  rw [List.any_eq_true] at h
  obtain ⟨j, hj, e⟩ := h
  exact ⟨j, List.mem_range.1 hj, by simpa using e⟩
theorem seenB_false {xs : List Int} {k y : Nat} (h : seenB xs k y = false) : ∀ j, j < k → xs.getD j 0 ≠ (y : Int) := by
  intro j hj e
  unfold seenB at h
  rw [List.any_eq_false] at h
  exact h j (List.mem_range.2 hj) (by simpa using e)
def Seen (xs : List Int) (k : Nat) (cs : Array Value) : Prop := cs.size = 20 ∧ ∀ y, y < 20 → cs[y]? = some (.bool (seenB xs k y))
theorem Seen.start (xs : List Int) : Seen xs 0 (List.replicate 20 (Value.bool false)).toArray := ⟨by simp, fun y hy => by
  rw [seenB_zero, List.getElem?_toArray, List.getElem?_replicate, if_pos hy]⟩
theorem Seen.next {xs : List Int} {k x : Nat} {cs : Array Value} (h : Seen xs k cs) (hx : xs.getD k 0 = (x : Int)) (hlt : x < 20) : Seen xs (k + 1) (cs.setIfInBounds x (.bool true)) := by
  refine ⟨by simpa using h.1, fun y hy => ?_⟩
  rw [seenB_succ xs k y x hx, Array.getElem?_setIfInBounds]
  by_cases e : x = y
  · subst e; rw [if_pos rfl, if_pos (by rw [h.1]; exact hlt)]; simp
  · rw [if_neg e, h.2 y hy]; simp [e]

set_option maxHeartbeats 400000 in
theorem implIsP_core (A : Option Addr) (c n : Nat) (xs : List Int) (w : World) (hx : RI w w.heap.size A xs) (lx : Hid (xs.length = n)) (hn1 : 1 ≤ n) (hn : n ≤ 20) :
    Calls Try.prog 85 #[.slice A n c] w fun e w' => e = .returned (.bool (isP xs)) ∧ Below w.heap.size w w' := by
  have d1 : decide ((n : Int) < 1) = false := by simp; omega
  have d2 : decide ((20 : Int) < n) = false := by simp; omega
  go_enter Try.func85, Try.ntmps85
  go_wp2
  go_loopw [5, 16] (fun _ i wr => ∃ k cs, k ≤ n ∧ i = .int .i64 (k : Nat) ∧ Blk wr w.heap.size 109 cs ∧ Seen xs k cs ∧ okTo xs k ∧ Below w.heap.size w wr) (fun _ i _ => n - (intOf i).toNat)
  case atStart => exact ⟨0, _, Nat.zero_le _, rfl, Blk.new _ _ _, Seen.start xs, okTo_zero _, (Below.refl _ _).alloc (Nat.le_refl _) _⟩
  case round =>
    clear d1 d2
    obtain ⟨k, cs, hk, rfl, blk, seen, ok, bel⟩ := hrel
    by_cases hlt : k < n
    · obtain ⟨b, off, rfl, hb, hc⟩ := hx (by rw [lx.out]; omega)
      have c1 := (bel.cell (p := ⟨b, off + k, none⟩) hb).trans (hc k (by rw [lx.out]; omega))
      obtain ⟨x, ex⟩ : ∃ x, xs.getD k 0 = x := ⟨_, rfl⟩
      rw [ex] at c1
      have Bel := Lib.hid bel
      have Seen' := Lib.hid seen
      have Ok := Lib.hid ok
      have Ex := Lib.hid ex
      clear ex hc hx bel seen ok
      by_cases h1 : x < 0
      · have e1 : decide (x < 0) = true := by simpa using h1
        have Fin : Hid (isP xs = false) := Lib.hid (isP_no_range (by rw [lx.out]; exact hlt) (.inl (by rw [Ex.out]; exact h1)))
        clear blk
        go_wp2
        go_ret
        exact ⟨ret_bool Fin.out.symm, Bel.out⟩
      · by_cases h2 : (n : Int) ≤ x
        · have e1 : decide (x < 0) = false := by simpa using h1
          have e2 : decide ((n : Int) ≤ x) = true := by simpa using h2
          have Fin : Hid (isP xs = false) := Lib.hid (isP_no_range (by rw [lx.out]; exact hlt) (.inr (by rw [Ex.out, lx.out]; exact h2)))
          clear blk
          go_wp2
          go_ret
          exact ⟨ret_bool Fin.out.symm, Bel.out⟩
        · obtain ⟨y, rfl⟩ := Int.eq_ofNat_of_zero_le (show 0 ≤ x by omega)
          have hy : y < n := by omega
          have hy20 : y < 20 := by omega
          have c2 := (blk.cell y).trans (Seen'.out.2 y hy20)
          have f2 := blk.frozen y
          have e1 : decide ((y : Int) < 0) = false := by simp
          have e2 : decide ((n : Int) ≤ y) = false := by simp; omega
          by_cases hs : seenB xs k y = true
          · rw [hs] at c2
            have Fin : Hid (isP xs = false) := by
              obtain ⟨j, hj, e⟩ := seenB_true hs
              exact Lib.hid (isP_no_twice (by rw [lx.out]; exact hlt) hj (by rw [e, Ex.out]))
            clear blk hs
            go_wp2
            go_ret
            exact ⟨ret_bool Fin.out.symm, Bel.out⟩
          · rw [Bool.not_eq_true] at hs
            rw [hs] at c2
            have Bl2 := Lib.hid (blk.set_ y (.bool true))
            have Hs := Lib.hid hs
            clear blk hs
            go_wp2
            go_roundw
            case rel =>
              exact ⟨k + 1, _, by omega, by go_num, Bl2.out, Seen'.out.next Ex.out hy20,
                okTo_succ Ok.out (by rw [Ex.out]; omega) (by rw [Ex.out, lx.out]; omega) (fun i hi => by rw [Ex.out]; exact seenB_false Hs.out i hi), Bel.out.setCell (Nat.le_refl _) _⟩
            case measure => simp [intOf]; omega
    · have hkn : k = n := by omega
      subst hkn
      have Fin : Hid (isP xs = true) := Lib.hid (isP_of_ok (by rw [lx.out]; exact hn1) (by rw [lx.out]; exact hn) (by rw [lx.out]; exact ok))
      have Be := Lib.hid bel
      clear blk bel
      go_wp2
      go_ret
      exact ⟨ret_bool Fin.out.symm, Be.out⟩

/-- The program's IsPermutation. -/
theorem implIsP (A : Option Addr) (c n : Nat) (xs : List Int) (w : World) (hx : RI w w.heap.size A xs) (lx : Hid (xs.length = n)) (hn : n ≤ 2097152) :
    Calls Try.prog 85 #[.slice A n c] w fun e w' => e = .returned (.bool (isP xs)) ∧ Below w.heap.size w w' := by
  by_cases h1 : n < 1
  · have Fin : Hid (isP xs = false) := Lib.hid (isP_no_len (.inl (by rw [lx.out]; exact h1)))
    have d1 : decide ((n : Int) < 1) = true := by simp; omega
    go_enter Try.func85, Try.ntmps85
    go_wp2
    go_ret
    exact ⟨ret_bool Fin.out.symm, Below.refl _ _⟩
  · by_cases h2 : 20 < n
    · have Fin : Hid (isP xs = false) := Lib.hid (isP_no_len (.inr (by rw [lx.out]; exact h2)))
      have d1 : decide ((n : Int) < 1) = false := by simp; omega
      have d2 : decide ((20 : Int) < n) = true := by simp; omega
      go_enter Try.func85, Try.ntmps85
      go_wp2
      go_ret
      exact ⟨ret_bool Fin.out.symm, Below.refl _ _⟩
    · exact implIsP_core A c n xs w hx lx (by omega) (by omega)

/-! ### The model's -/
theorem inR_true (x lo hi : Int) (w : World) (h1 : lo ≤ x) (h2 : x ≤ hi) : Calls Try.prog 61 #[.int .i64 x, .int .i64 lo, .int .i64 hi] w fun e w' => e = .returned (.bool true) ∧ w = w' := by
  have d1 : decide (lo ≤ x) = true := by simpa using h1
  have d2 : decide (x ≤ hi) = true := by simpa using h2
  go_enter Try.func61, Try.ntmps61
  go_wp2
  go_ret
  exact ⟨rfl, rfl⟩
theorem inR_false (x lo hi : Int) (w : World) (h : x < lo ∨ hi < x) : Calls Try.prog 61 #[.int .i64 x, .int .i64 lo, .int .i64 hi] w fun e w' => e = .returned (.bool false) ∧ w = w' := by
  by_cases h1 : lo ≤ x
  · have d1 : decide (lo ≤ x) = true := by simpa using h1
    have d2 : decide (x ≤ hi) = false := by simp; omega
    clear h
    go_enter Try.func61, Try.ntmps61
    go_wp2
    go_ret
    exact ⟨rfl, rfl⟩
  · have d1 : decide (lo ≤ x) = false := by simpa using h1
    clear h
    go_enter Try.func61, Try.ntmps61
    go_wp2
    go_ret
    exact ⟨rfl, rfl⟩

def hasB (xs : List Int) (x : Int) : Bool := decide (∃ j, j < xs.length ∧ xs.getD j 0 = x)
set_option maxHeartbeats 400000 in
theorem containsI_any (A : Option Addr) (c n : Nat) (xs : List Int) (x : Int) (w : World) (B : Nat) (hx : RI w B A xs) (lx : Hid (xs.length = n)) (hn : n ≤ 2097152) (ans : Bool) (hans : Hid (hasB xs x = ans)) :
    Calls Try.prog 107 #[.slice A n c, .int .i64 x] w fun e w' => e = .returned (.bool ans) ∧ w = w' := by
  go_enter Try.func107, Try.ntmps107
  go_wp2
  go_loop [5] (fun i => ∃ k : Nat, k ≤ n ∧ i = .int .i64 k ∧ ∀ j, j < k → xs.getD j 0 ≠ x) (fun i => n - (intOf i).toNat)
  case atStart => exact ⟨0, Nat.zero_le _, rfl, fun j h => absurd h (by omega)⟩
  case round =>
    obtain ⟨k, hk, rfl, heq⟩ := hrel
    have Heq := Lib.hid heq
    clear heq
    by_cases hlt : k < n
    · obtain ⟨b, off, rfl, hb, hc⟩ := hx (by rw [lx.out]; omega)
      have c1 := hc k (by rw [lx.out]; omega)
      obtain ⟨y, ey⟩ : ∃ y, xs.getD k 0 = y := ⟨_, rfl⟩
      rw [ey] at c1
      have Ey := Lib.hid ey
      clear ey hc hx
      by_cases hxy : y = x
      · have hd : (y == x) = true := by simpa using hxy
        have Fin : Hid (hasB xs x = true) := Lib.hid (decide_eq_true ⟨k, by rw [lx.out]; exact hlt, by rw [Ey.out, hxy]⟩)
        subst hxy
        go_wp2
        go_ret
        exact ⟨ret_bool (by rw [← Fin.out, ← hans.out]), rfl⟩
      · have hd : (y == x) = false := by simpa using hxy
        have Hxy := Lib.hid hxy
        clear hxy
        go_wp2
        go_round
        case rel => exact ⟨k + 1, by omega, by go_num, fun j hj => by
          by_cases e : j = k
          · subst e; rw [Ey.out]; exact Hxy.out
          · exact Heq.out j (by omega)⟩
        case measure => simp [intOf]; omega
    · have Fin : Hid (hasB xs x = false) := Lib.hid (decide_eq_false fun ⟨j, hj, e⟩ => Heq.out j (by rw [lx.out] at hj; omega) e)
      go_wp2
      go_ret
      exact ⟨ret_bool (by rw [← Fin.out, ← hans.out]), rfl⟩

theorem take_getD {xs : List Int} {k j : Nat} (h : j < k) : (xs.take k).getD j 0 = xs.getD j 0 := by
  rw [List.getD_eq_getElem?_getD, List.getElem?_take, if_pos h, ← List.getD_eq_getElem?_getD]
theorem RI.take {w : World} {B b off n : Nat} {xs : List Int} (h : RI w B (some ⟨b, off, none⟩) xs) (hn : xs.length = n) (k : Nat) (hk : k ≤ n) : RI w B (some ⟨b, off, none⟩) (xs.take k) := fun hp => by
  rw [List.length_take] at hp
  obtain ⟨b', off', e, hb, hc⟩ := h (by omega)
  refine ⟨b', off', e, hb, fun j hj => ?_⟩
  rw [List.length_take] at hj
  rw [take_getD (by omega)]
  exact hc j (by omega)

set_option maxHeartbeats 400000 in
theorem specIsP_core (A : Option Addr) (c n : Nat) (xs : List Int) (w : World) (hx : RI w w.heap.size A xs) (lx : Hid (xs.length = n)) (hn1 : 1 ≤ n) (hn : n ≤ 20) (hnc : n ≤ c) :
    Calls Try.prog 86 #[.slice A n c] w fun e w' => e = .returned (.bool (isP xs)) ∧ ∃ m, w' = w.drewN m := by
  go_enter Try.func86, Try.ntmps86
  go_wp2_with (go_at_call 61; refine (inR_true _ _ _ _ (by omega) (by omega)).mono ?_; rintro e w' ⟨rfl, rfl⟩)
  go_loopw [4] (fun i wr => ∃ k : Nat, k ≤ n ∧ i = .int .i64 (k : Nat) ∧ okTo xs k ∧ ∃ m, wr = w.drewN m) (fun i _ => n - (intOf i).toNat)
  case atStart => exact ⟨0, Nat.zero_le _, rfl, okTo_zero _, 0, rfl⟩
  case round =>
    obtain ⟨k, hk, rfl, ok, m, rfl⟩ := hrel
    have Ok := Lib.hid ok
    clear ok
    by_cases hlt : k < n
    · have hx1 := hx
      obtain ⟨b, off, rfl, hb, hc⟩ := hx (by rw [lx.out]; omega)
      have hx0 : RI w w.heap.size (some ⟨b, off, none⟩) xs := hx1
      clear hx1 hx
      have c1 := hc k (by rw [lx.out]; omega)
      obtain ⟨x, ex⟩ : ∃ x, xs.getD k 0 = x := ⟨_, rfl⟩
      rw [ex] at c1
      have Ex := Lib.hid ex
      clear ex hc
      have p1 : (0 : Int) ≤ k := by omega
      have p2 : (k : Int) < n := by omega
      by_cases h1 : x < 0 ∨ (n : Int) - 1 < x
      · have Fin : Hid (isP xs = false) := Lib.hid (isP_no_range (by rw [lx.out]; exact hlt) (by rw [Ex.out, lx.out]; omega))
        have H1 := Lib.hid h1
        clear h1
        go_wp2
        go_quiet ((go_at_call 61; exact quiet_add_left (inR_false _ _ _ _ H1.out)))
        go_wp2
        go_ret
        exact ⟨ret_bool Fin.out.symm, _, World.drewN_drewN _ _ _⟩
      · have q0 : 0 ≤ x := by omega
        have q1 : x ≤ (n : Int) - 1 := by omega
        have ht := hx0.take lx.out k (by omega)
        have lt : Hid ((xs.take k).length = k) := Lib.hid (by rw [List.length_take, lx.out]; omega)
        by_cases hs : hasB (xs.take k) x = true
        · have Hs := Lib.hid hs
          have Fin : Hid (isP xs = false) := by
            obtain ⟨j, hj, e⟩ := of_decide_eq_true hs
            rw [lt.out] at hj
            exact Lib.hid (isP_no_twice (by rw [lx.out]; exact hlt) hj (by rw [← take_getD hj, e, Ex.out]))
          have HT := Lib.hid ht
          clear hs h1 ht
          go_wp2
          go_quiet ((first | (go_at_call 61; exact quiet_add_left (inR_true _ _ _ _ (by omega) (by omega))) | (go_at_call 107; exact quiet_add_left (containsI_any _ _ _ _ _ _ _ (HT.out.drewN _) lt (by omega) true Hs))))
          go_wp2
          go_ret
          exact ⟨ret_bool Fin.out.symm, _, World.drewN_drewN _ _ _⟩
        · have Hs := Lib.hid ((Bool.not_eq_true _).mp hs)
          have HT := Lib.hid ht
          have NT : Hid (∀ i, i < k → xs.getD i 0 ≠ xs.getD k 0) := Lib.hid fun i hi e => hs (decide_eq_true ⟨i, by rw [lt.out]; exact hi, by rw [take_getD hi, e, Ex.out]⟩)
          clear hs h1 ht
          go_wp2
          go_quiet ((first | (go_at_call 61; exact quiet_add_left (inR_true _ _ _ _ (by omega) (by omega))) | (go_at_call 107; exact quiet_add_left (containsI_any _ _ _ _ _ _ _ (HT.out.drewN _) lt (by omega) false Hs))))
          go_wp2
          go_roundw
          case rel => exact ⟨k + 1, by omega, by go_num, okTo_succ Ok.out (by rw [Ex.out]; omega) (by rw [Ex.out, lx.out]; omega) NT.out, _, rfl⟩
          case measure => simp [intOf]; omega
    · have hkn : k = n := by omega
      subst hkn
      have Fin : Hid (isP xs = true) := Lib.hid (isP_of_ok (by rw [lx.out]; exact hn1) (by rw [lx.out]; exact hn) (by rw [lx.out]; exact Ok.out))
      go_wp2
      go_ret
      exact ⟨ret_bool Fin.out.symm, _, rfl⟩

/-- The model's IsPermutation. -/
theorem specIsP (A : Option Addr) (c n : Nat) (xs : List Int) (w : World) (hx : RI w w.heap.size A xs) (lx : Hid (xs.length = n)) (hn : n ≤ 2097152) (hnc : n ≤ c) :
    Calls Try.prog 86 #[.slice A n c] w fun e w' => e = .returned (.bool (isP xs)) ∧ ∃ m, w' = w.drewN m := by
  by_cases h1 : n < 1 ∨ 20 < n
  · have Fin : Hid (isP xs = false) := Lib.hid (isP_no_len (by rw [lx.out]; exact h1))
    have H1 := Lib.hid h1
    clear h1
    go_enter Try.func86, Try.ntmps86
    go_wp2_with (go_at_call 61; refine (inR_false _ _ _ _ (by have := H1.out; omega)).mono ?_; rintro e w' ⟨rfl, rfl⟩)
    go_ret
    exact ⟨ret_bool Fin.out.symm, 0, rfl⟩
  · exact specIsP_core A c n xs w hx lx (by omega) (by omega) hnc
end Go.Proofs.Ytkjokchhffjidaa

/- Orbits under lists of maps, as a search in the order of discovery; sorted orbits; the sweep over all points. No Go in it. No condition. -/
namespace Go.Proofs.Ytkjokchhffjidaa

/-- A rearrangement of the points below N. -/
structure PM (N : Nat) (g : List Int) : Prop where
  len : g.length = N
  lo : ∀ i, i < N → 0 ≤ g.getD i 0
  hi : ∀ i, i < N → g.getD i 0 < N
  inj : ∀ i j, i < N → j < N → g.getD i 0 = g.getD j 0 → i = j
def PMs (N : Nat) (gs : List (List Int)) : Prop := ∀ g ∈ gs, PM N g

theorem PM.nx_lt {N : Nat} {g : List Int} (h : PM N g) {x : Nat} (hx : x < N) : nx g x < N := by
  have := h.lo x hx; have := h.hi x hx; unfold nx; omega
theorem PM.nx_val {N : Nat} {g : List Int} (h : PM N g) {x : Nat} (hx : x < N) : g.getD x 0 = (nx g x : Int) := by
  have := h.lo x hx; unfold nx; omega
theorem PM.nx_inj {N : Nat} {g : List Int} (h : PM N g) {x y : Nat} (hx : x < N) (hy : y < N) (e : nx g x = nx g y) : x = y :=
  h.inj x y hx hy (by rw [h.nx_val hx, h.nx_val hy, e])
theorem IsP.pm {p : List Int} (h : IsP p) : PM p.length p := ⟨rfl, h.lo, h.hi, h.inj⟩

theorem nd_sub {l' : List Nat} : ∀ {l : List Nat}, l'.Nodup → (∀ x ∈ l', x ∈ l) → l'.length ≤ l.length := by
  induction l' with
  | nil => intro l _ _; simp
  | cons a t ih =>
    intro l hd h
    rw [List.nodup_cons] at hd
    have ha : a ∈ l := h a (by simp)
    have := ih (l := l.erase a) hd.2 fun x hx => by
      have hne : x ≠ a := fun e => hd.1 (e ▸ hx)
      exact (List.mem_erase_of_ne hne).2 (h x (by simp [hx]))
    rw [List.length_erase_of_mem ha] at this
    have h0 : 0 < l.length := List.length_pos_of_mem ha
    simp; omega
/-- A nodup list within another of the same length is all of it. -/
theorem nd_all {l' l : List Nat} (hd : l'.Nodup) (h : ∀ x ∈ l', x ∈ l) (hl : l.length ≤ l'.length) : ∀ y ∈ l, y ∈ l' := fun y hy => by
  rcases Decidable.em (y ∈ l') with h1 | h1
  · exact h1
  · have := nd_sub (l' := y :: l') (l := l) (List.nodup_cons.2 ⟨h1, hd⟩) (fun x hx => by
      rcases List.mem_cons.1 hx with rfl | hx
      · exact hy
      · exact h x hx)
    simp at this; omega
theorem nd_map {f : Nat → Nat} {l : List Nat} (hd : l.Nodup) (hf : ∀ x ∈ l, ∀ y ∈ l, f x = f y → x = y) : (l.map f).Nodup := by
  induction l with
  | nil => simp
  | cons a t ih =>
    rw [List.nodup_cons] at hd
    rw [List.map_cons, List.nodup_cons]
    refine ⟨fun hm => ?_, ih hd.2 fun x hx y hy => hf x (by simp [hx]) y (by simp [hy])⟩
    obtain ⟨b, hb, e⟩ := List.mem_map.1 hm
    have := hf b (by simp [hb]) a (by simp) e
    subst this
    exact hd.1 hb

/-! ### reach -/
inductive Rch (gs : List (List Int)) (x : Nat) : Nat → Prop
  | refl : Rch gs x x
  | step {u : Nat} {g : List Int} : Rch gs x u → g ∈ gs → Rch gs x (nx g u)
section
variable {gs : List (List Int)} {N x y z : Nat}
theorem Rch.trans (h : Rch gs x y) (k : Rch gs y z) : Rch gs x z := by
  induction k with
  | refl => exact h
  | step _ hg ih => exact ih.step hg
theorem Rch.lt (hp : PMs N gs) (hx : x < N) (h : Rch gs x y) : y < N := by
  induction h with
  | refl => exact hx
  | step _ hg ih => exact (hp _ hg).nx_lt ih
end

/-! ### the search -/
def addN (f : List Nat) (y : Nat) : List Nat := if y ∈ f then f else f ++ [y]
def expd (gs : List (List Int)) (u : Nat) (f : List Nat) : List Nat := gs.foldl (fun f g => addN f (nx g u)) f
def bfs (gs : List (List Int)) : Nat → Nat → List Nat → List Nat
  | 0, _, f => f
  | fuel + 1, i, f => if i < f.length then bfs gs fuel (i + 1) (expd gs (f.getD i 0) f) else f
/-- The orbit of x in the order of discovery. -/
def orb (gs : List (List Int)) (N x : Nat) : List Nat := bfs gs (N + 1) 0 [x]

theorem bfs_go {gs : List (List Int)} {N i : Nat} {f : List Nat} (hi : i < f.length) (hl : f.length ≤ N) : bfs gs (N + 1 - i) i f = bfs gs (N + 1 - (i + 1)) (i + 1) (expd gs (f.getD i 0) f) := by
  obtain ⟨k, hk⟩ : ∃ k, N + 1 - i = k + 1 := ⟨N - i, by omega⟩
  have hk' : N + 1 - (i + 1) = k := by omega
  rw [hk, hk', bfs, if_pos hi]
theorem bfs_end {gs : List (List Int)} {N i : Nat} {f : List Nat} (hi : f.length ≤ i) : bfs gs (N + 1 - i) i f = f := by
  cases N + 1 - i with
  | zero => rfl
  | succ k => rw [bfs, if_neg (by omega)]

/-- What the search holds of its list. -/
structure Fd (gs : List (List Int)) (N x : Nat) (f : List Nat) : Prop where
  nd : f.Nodup
  lt : ∀ y ∈ f, y < N
  rch : ∀ y ∈ f, Rch gs x y
  pre : ∃ t, f = x :: t
section
variable {gs : List (List Int)} {N x : Nat} {f : List Nat}
theorem Fd.len (h : Fd gs N x f) : f.length ≤ N := ndlen N f h.nd h.lt
theorem Fd.pos (h : Fd gs N x f) : 0 < f.length := by obtain ⟨t, rfl⟩ := h.pre; simp
theorem Fd.one (hx : x < N) : Fd gs N x [x] := ⟨by simp, by simpa using hx, by simpa using Rch.refl, ⟨[], rfl⟩⟩
theorem addN_pre (f : List Nat) (y : Nat) : ∃ t, addN f y = f ++ t := by
  unfold addN; split
  · exact ⟨[], by simp⟩
  · exact ⟨[y], rfl⟩
theorem mem_addN {f : List Nat} {y z : Nat} : z ∈ addN f y ↔ z ∈ f ∨ z = y := by
  unfold addN; split
  · rename_i h
    exact ⟨.inl, fun h' => h'.elim id (fun e => e ▸ h)⟩
  · simp
theorem Fd.add (h : Fd gs N x f) {y : Nat} (hy : y < N) (hr : Rch gs x y) : Fd gs N x (addN f y) := by
  obtain ⟨t, rfl⟩ := h.pre
  refine ⟨?_, fun z hz => ?_, fun z hz => ?_, ?_⟩
  · unfold addN; split
    · exact h.nd
    · rename_i hn
      rw [List.nodup_append]
      refine ⟨h.nd, by simp, fun a ha b hb e => ?_⟩
      obtain rfl : b = y := by simpa using hb
      exact hn (e ▸ ha)
  · rcases mem_addN.1 hz with h1 | rfl
    · exact h.lt z h1
    · exact hy
  · rcases mem_addN.1 hz with h1 | rfl
    · exact h.rch z h1
    · exact hr
  · obtain ⟨t', e⟩ := addN_pre (x :: t) y
    exact ⟨t ++ t', by rw [e]; rfl⟩
theorem expd_pre (gs : List (List Int)) (u : Nat) : ∀ f : List Nat, ∃ t, expd gs u f = f ++ t := by
  unfold expd
  induction gs with
  | nil => intro f; exact ⟨[], by simp⟩
  | cons g gs ih =>
    intro f
    obtain ⟨t, e⟩ := addN_pre f (nx g u)
    obtain ⟨t', e'⟩ := ih (addN f (nx g u))
    exact ⟨t ++ t', by rw [List.foldl_cons, e', e, List.append_assoc]⟩
theorem expd_mem (gs : List (List Int)) (u : Nat) : ∀ f : List Nat, ∀ g ∈ gs, nx g u ∈ expd gs u f := by
  unfold expd
  induction gs with
  | nil => intro f g hg; cases hg
  | cons g gs ih =>
    intro f g' hg'
    rw [List.foldl_cons]
    rcases List.mem_cons.1 hg' with rfl | hg'
    · obtain ⟨t, e⟩ := expd_pre gs u (addN f (nx g' u))
      unfold expd at e
      rw [e, List.mem_append]
      exact .inl (mem_addN.2 (.inr rfl))
    · exact ih _ g' hg'
theorem Fd.fold (hp : PMs N gs) {u : Nat} (hu : u < N) (hr : Rch gs x u) : ∀ (l : List (List Int)), (∀ g ∈ l, g ∈ gs) → ∀ f : List Nat, Fd gs N x f → Fd gs N x (l.foldl (fun f g => addN f (nx g u)) f)
  | [], _, f, h => h
  | g :: l, hl, f, h => by
    rw [List.foldl_cons]
    exact Fd.fold hp hu hr l (fun g' hg' => hl g' (by simp [hg'])) _ (h.add ((hp g (hl g (by simp))).nx_lt hu) (hr.step (hl g (by simp))))
theorem getD_memN {l : List Nat} {i : Nat} (h : i < l.length) : l.getD i 0 ∈ l := by
  rw [List.getD_eq_getElem?_getD, List.getElem?_eq_getElem h]
  exact List.getElem_mem h
theorem getD_preN {l t : List Nat} {i : Nat} (h : i < l.length) : (l ++ t).getD i 0 = l.getD i 0 := by
  rw [List.getD_eq_getElem?_getD, List.getElem?_append_left h, ← List.getD_eq_getElem?_getD]
theorem Fd.exp (hp : PMs N gs) (h : Fd gs N x f) {i : Nat} (hi : i < f.length) : Fd gs N x (expd gs (f.getD i 0) f) :=
  Fd.fold hp (h.lt _ (getD_memN hi)) (h.rch _ (getD_memN hi)) gs (fun _ h => h) f h
/-- The first i are expanded. -/
def Cl (gs : List (List Int)) (i : Nat) (f : List Nat) : Prop := ∀ j, j < i → ∀ g ∈ gs, nx g (f.getD j 0) ∈ f
theorem Cl.exp {i : Nat} (h : Cl gs i f) (hi : i < f.length) : Cl gs (i + 1) (expd gs (f.getD i 0) f) := by
  obtain ⟨t, e⟩ := expd_pre gs (f.getD i 0) f
  intro j hj g hg
  by_cases e2 : j = i
  · subst e2
    have := expd_mem gs (f.getD j 0) f g hg
    rw [e] at this ⊢
    rw [getD_preN hi]
    exact this
  · rw [e, getD_preN (by omega), List.mem_append]
    exact .inl (h j (by omega) g hg)
theorem bfs_spec (hp : PMs N gs) : ∀ (fuel i : Nat) (f : List Nat), Fd gs N x f → Cl gs i f → i ≤ f.length → N + 1 ≤ fuel + i → Fd gs N x (bfs gs fuel i f) ∧ Cl gs (bfs gs fuel i f).length (bfs gs fuel i f)
  | 0, i, f, h, c, hi, hf => by have := h.len; omega
  | fuel + 1, i, f, h, c, hi, hf => by
    rw [bfs]
    split
    · rename_i hlt
      have hpre := expd_pre gs (f.getD i 0) f
      exact bfs_spec hp fuel (i + 1) _ (h.exp hp hlt) (c.exp hlt) (by obtain ⟨t, e⟩ := hpre; rw [e, List.length_append]; omega) (by omega)
    · obtain rfl : i = f.length := by omega
      exact ⟨h, c⟩
end

section
variable {gs : List (List Int)} {N : Nat}
theorem orb_fd (hp : PMs N gs) {x : Nat} (hx : x < N) : Fd gs N x (orb gs N x) :=
  (bfs_spec hp (N + 1) 0 [x] (Fd.one hx) (fun j hj => absurd hj (by omega)) (Nat.zero_le _) (by omega)).1
theorem orb_cl (hp : PMs N gs) {x : Nat} (hx : x < N) : Cl gs (orb gs N x).length (orb gs N x) :=
  (bfs_spec hp (N + 1) 0 [x] (Fd.one hx) (fun j hj => absurd hj (by omega)) (Nat.zero_le _) (by omega)).2
theorem orb_self (hp : PMs N gs) {x : Nat} (hx : x < N) : x ∈ orb gs N x := by
  obtain ⟨t, e⟩ := (orb_fd hp hx).pre
  rw [e]; simp
theorem orb_step (hp : PMs N gs) {x u : Nat} (hx : x < N) (hu : u ∈ orb gs N x) {g : List Int} (hg : g ∈ gs) : nx g u ∈ orb gs N x := by
  obtain ⟨j, hj, e⟩ := List.mem_iff_getElem.1 hu
  have := orb_cl hp hx j hj g hg
  rw [List.getD_eq_getElem?_getD, List.getElem?_eq_getElem hj] at this
  simpa [e] using this
theorem orb_iff (hp : PMs N gs) {x y : Nat} (hx : x < N) : y ∈ orb gs N x ↔ Rch gs x y := by
  refine ⟨(orb_fd hp hx).rch y, fun h => ?_⟩
  induction h with
  | refl => exact orb_self hp hx
  | step _ hg ih => exact orb_step hp hx ih hg
theorem orb_lt (hp : PMs N gs) {x y : Nat} (hx : x < N) (h : y ∈ orb gs N x) : y < N := (orb_fd hp hx).lt y h
theorem orb_sub (hp : PMs N gs) {x y z : Nat} (hx : x < N) (hy : y ∈ orb gs N x) (hz : z ∈ orb gs N y) : z ∈ orb gs N x := by
  have hy' := orb_lt hp hx hy
  rw [orb_iff hp hx] at hy ⊢
  rw [orb_iff hp hy'] at hz
  exact hy.trans hz
/-- Whoever comes into an orbit came out of it. -/
theorem orb_back (hp : PMs N gs) {x u : Nat} (hx : x < N) (hu : u < N) {g : List Int} (hg : g ∈ gs) (h : nx g u ∈ orb gs N x) : u ∈ orb gs N x := by
  have hf := orb_fd hp hx
  have h1 : ((orb gs N x).map (nx g)).Nodup := nd_map hf.nd fun a ha b hb e => (hp g hg).nx_inj (hf.lt a ha) (hf.lt b hb) e
  have h2 := nd_all h1 (l := orb gs N x) (fun a ha => by
    obtain ⟨b, hb, rfl⟩ := List.mem_map.1 ha
    exact orb_step hp hx hb hg) (by simp) _ h
  obtain ⟨b, hb, e⟩ := List.mem_map.1 h2
  rw [← (hp g hg).nx_inj (hf.lt b hb) hu e]
  exact hb
theorem rch_symm (hp : PMs N gs) {x y : Nat} (hx : x < N) (h : Rch gs x y) : Rch gs y x := by
  have hx' : x ∈ orb gs N y := by
    have : ∀ z, Rch gs x z → ∀ y, y < N → z ∈ orb gs N y → x ∈ orb gs N y := by
      intro z hz
      induction hz with
      | refl => intro y _ h; exact h
      | step hu hg ih => intro y hy h; exact ih y hy (orb_back hp hy (hu.lt hp hx) hg h)
    exact this y h y (h.lt hp hx) (orb_self hp (h.lt hp hx))
  exact (orb_iff hp (h.lt hp hx)).1 hx'
theorem orb_symm (hp : PMs N gs) {x y : Nat} (hx : x < N) (h : y ∈ orb gs N x) : x ∈ orb gs N y := by
  have hy := orb_lt hp hx h
  rw [orb_iff hp hx] at h
  rw [orb_iff hp hy]
  exact rch_symm hp hx h
end

/-! ### sorted -/
def oN (gs : List (List Int)) (N x : Nat) : List Nat := (List.range N).filter fun y => decide (y ∈ orb gs N x)
def oS (gs : List (List Int)) (N x : Nat) : List Int := (oN gs N x).map Int.ofNat
theorem mem_oN {gs : List (List Int)} {N x y : Nat} : y ∈ oN gs N x ↔ y < N ∧ y ∈ orb gs N x := by simp [oN]
theorem oN_nd (gs : List (List Int)) (N x : Nat) : (oN gs N x).Nodup := List.nodup_range.filter _
theorem oN_len {gs : List (List Int)} {N : Nat} (hp : PMs N gs) {x : Nat} (hx : x < N) : (oN gs N x).length = (orb gs N x).length :=
  Nat.le_antisymm (nd_sub (oN_nd gs N x) fun y hy => (mem_oN.1 hy).2) (nd_sub (orb_fd hp hx).nd fun y hy => mem_oN.2 ⟨orb_lt hp hx hy, hy⟩)
theorem oN_perm {gs : List (List Int)} {N : Nat} (hp : PMs N gs) {x : Nat} (hx : x < N) : (orb gs N x).Perm (oN gs N x) :=
  (List.perm_ext_iff_of_nodup (orb_fd hp hx).nd (oN_nd gs N x)).2 fun y => ⟨fun hy => mem_oN.2 ⟨orb_lt hp hx hy, hy⟩, fun hy => (mem_oN.1 hy).2⟩
theorem oS_sorted (gs : List (List Int)) (N x : Nat) : (oS gs N x).Pairwise fun a b => a ≤ b := by
  unfold oS oN
  rw [List.pairwise_map]
  refine List.Pairwise.filter _ ?_
  exact (List.pairwise_lt_range (n := N)).imp fun h => by simp; omega
theorem sorted_uniq : ∀ {l l' : List Int}, l.Perm l' → l.Pairwise (· ≤ ·) → l'.Pairwise (· ≤ ·) → l = l' := fun hp h1 h2 =>
  hp.eq_of_pairwise (fun a b _ _ h h' => Int.le_antisymm h h') h1 h2
/-- Whatever sorts the search's list comes to the same list. -/
theorem oS_of {gs : List (List Int)} {N : Nat} (hp : PMs N gs) {x : Nat} (hx : x < N) {l : List Int} (h : l.Perm ((orb gs N x).map Int.ofNat)) (hs : l.Pairwise (· ≤ ·)) : l = oS gs N x :=
  sorted_uniq (h.trans ((oN_perm hp hx).map _)) hs (oS_sorted gs N x)
theorem oS_sort {gs : List (List Int)} {N : Nat} (hp : PMs N gs) {x : Nat} (hx : x < N) : (((orb gs N x).map Int.ofNat).mergeSort fun a b => decide (a ≤ b)) = oS gs N x := by
  refine oS_of hp hx (List.mergeSort_perm _ _) ?_
  have := List.pairwise_mergeSort (le := fun a b : Int => decide (a ≤ b)) (fun a b c h1 h2 => by simp at h1 h2 ⊢; omega) (fun a b => by simp; omega) ((orb gs N x).map Int.ofNat)
  exact this.imp fun h => by simpa using h

/-! ### the sweep -/
/-- y lies in the orbit of one of the first k. -/
def sn (gs : List (List Int)) (N k y : Nat) : Bool := (List.range k).any fun z => decide (y ∈ orb gs N z)
def starts (gs : List (List Int)) (N k : Nat) : List Nat := (List.range k).filter fun z => !sn gs N z z
def orbs (gs : List (List Int)) (N k : Nat) : List (List Int) := (starts gs N k).map (oS gs N)
section
variable {gs : List (List Int)} {N : Nat}
theorem sn_iff {k y : Nat} : sn gs N k y = true ↔ ∃ z, z < k ∧ y ∈ orb gs N z := by simp [sn]
theorem sn_zero (y : Nat) : sn gs N 0 y = false := rfl
theorem sn_succ (k y : Nat) : sn gs N (k + 1) y = (sn gs N k y || decide (y ∈ orb gs N k)) := by
  simp [sn, List.range_succ]
theorem sn_seen (hp : PMs N gs) {k : Nat} (hk : k < N) (h : sn gs N k k = true) (y : Nat) : sn gs N (k + 1) y = sn gs N k y := by
  rw [sn_succ]
  rcases hy : sn gs N k y with _ | _
  · obtain ⟨z, hz, hkz⟩ := sn_iff.1 h
    have : ¬ y ∈ orb gs N k := fun hy' => by
      have : sn gs N k y = true := sn_iff.2 ⟨z, hz, orb_sub hp (by omega) hkz hy'⟩
      rw [hy] at this; cases this
    simp [this]
  · rfl
theorem sn_out (hp : PMs N gs) {k u : Nat} (hk : k ≤ N) (hu : u < N) (h : sn gs N k u = false) {g : List Int} (hg : g ∈ gs) : sn gs N k (nx g u) = false := by
  rcases h' : sn gs N k (nx g u) with _ | _
  · rfl
  · obtain ⟨z, hz, hm⟩ := sn_iff.1 h'
    have : sn gs N k u = true := sn_iff.2 ⟨z, hz, orb_back hp (by omega) hu hg hm⟩
    rw [h] at this; cases this
theorem starts_no {k : Nat} (h : sn gs N k k = true) : starts gs N (k + 1) = starts gs N k := by
  simp [starts, List.range_succ, h]
theorem starts_yes {k : Nat} (h : sn gs N k k = false) : starts gs N (k + 1) = starts gs N k ++ [k] := by
  simp [starts, List.range_succ, h]
theorem orbs_no {k : Nat} (h : sn gs N k k = true) : orbs gs N (k + 1) = orbs gs N k := by rw [orbs, starts_no h, orbs]
theorem orbs_yes {k : Nat} (h : sn gs N k k = false) : orbs gs N (k + 1) = orbs gs N k ++ [oS gs N k] := by rw [orbs, starts_yes h, orbs]; simp
theorem starts_le (k : Nat) : (starts gs N k).length ≤ k := by
  have := List.length_filter_le (fun z => !sn gs N z z) (List.range k)
  simpa [starts] using this
theorem orbs_len (k : Nat) : (orbs gs N k).length = (starts gs N k).length := by simp [orbs]
theorem starts_pre {k m : Nat} (h : k ≤ m) : ∃ t, starts gs N m = starts gs N k ++ t := by
  induction m with
  | zero => exact ⟨[], by obtain rfl : k = 0 := by omega
                          simp⟩
  | succ m ih =>
    by_cases e : k = m + 1
    · exact ⟨[], by rw [e]; simp⟩
    · obtain ⟨t, ht⟩ := ih (by omega)
      rcases hs : sn gs N m m with _ | _
      · exact ⟨t ++ [m], by rw [starts_yes hs, ht, List.append_assoc]⟩
      · exact ⟨t, by rw [starts_no hs, ht]⟩
theorem orbs_pre {k m : Nat} (h : k ≤ m) : ∃ t, orbs gs N m = orbs gs N k ++ t := by
  obtain ⟨t, ht⟩ := starts_pre (gs := gs) (N := N) h
  exact ⟨t.map (oS gs N), by rw [orbs, ht, List.map_append, orbs]⟩
/-- The next orbit that comes. -/
theorem orbs_at {k : Nat} (hk : k < N) (h : sn gs N k k = false) : (orbs gs N N).getD (orbs gs N k).length [] = oS gs N k ∧ (orbs gs N k).length < (orbs gs N N).length := by
  obtain ⟨t, ht⟩ := orbs_pre (gs := gs) (N := N) (show k + 1 ≤ N from hk)
  rw [ht, orbs_yes h]
  refine ⟨?_, by simp⟩
  rw [List.append_assoc, List.getD_eq_getElem?_getD, List.getElem?_append_right (Nat.le_refl _), Nat.sub_self]
  rfl
end
end Go.Proofs.Ytkjokchhffjidaa

/- IsGeneratorSet, of the program and of the model. Conditions: at most 1048576 lists of at most 1048576 numbers. -/
namespace Go.Proofs.Ytkjokchhffjidaa
open Go.RowKit

/-- What IsGeneratorSet answers. -/
def gB (n : Int) (gs : List (List Int)) : Bool := decide (1 ≤ n ∧ n ≤ 20 ∧ gs.length ≤ 8 ∧ ∀ g ∈ gs, (g.length : Int) = n ∧ isP g = true)
theorem gB_iff {n : Int} {gs : List (List Int)} : gB n gs = true ↔ 1 ≤ n ∧ n ≤ 20 ∧ gs.length ≤ 8 ∧ ∀ g ∈ gs, (g.length : Int) = n ∧ isP g = true := by simp [gB]
theorem gB_no {n : Int} {gs : List (List Int)} (h : ¬ (1 ≤ n ∧ n ≤ 20 ∧ gs.length ≤ 8)) : gB n gs = false := by
  rw [← Bool.not_eq_true, gB_iff]; exact fun h' => h ⟨h'.1, h'.2.1, h'.2.2.1⟩
theorem getD_memL {l : List (List Int)} {k : Nat} (hk : k < l.length) : l.getD k [] ∈ l := by
  rw [List.getD_eq_getElem?_getD, List.getElem?_eq_getElem hk]; exact List.getElem_mem hk
theorem gB_row {n : Int} {gs : List (List Int)} {k : Nat} {y : List Int} (hk : k < gs.length) (ey : gs.getD k [] = y) (h : ¬ ((y.length : Int) = n ∧ isP y = true)) : gB n gs = false := by
  rw [← Bool.not_eq_true, gB_iff]; exact fun h' => h (by rw [← ey]; exact h'.2.2.2 _ (getD_memL hk))
theorem gB_all {n : Int} {gs : List (List Int)} (h0 : 1 ≤ n ∧ n ≤ 20 ∧ gs.length ≤ 8) (h : ∀ j, j < gs.length → ((gs.getD j []).length : Int) = n ∧ isP (gs.getD j []) = true) : gB n gs = true := by
  refine gB_iff.2 ⟨h0.1, h0.2.1, h0.2.2, fun g hg => ?_⟩
  obtain ⟨j, hj, e⟩ := List.mem_iff_getElem.1 hg
  have := h j hj
  rw [List.getD_eq_getElem?_getD, List.getElem?_eq_getElem hj] at this
  simpa [e] using this
theorem gB_pm {n : Int} {gs : List (List Int)} (h : gB n gs = true) : ∃ N : Nat, n = (N : Int) ∧ 1 ≤ N ∧ N ≤ 20 ∧ gs.length ≤ 8 ∧ PMs N gs ∧ ∀ g ∈ gs, IsP g ∧ g.length = N := by
  obtain ⟨h1, h2, h3, h4⟩ := gB_iff.1 h
  refine ⟨n.toNat, by omega, by omega, by omega, h3, fun g hg => ?_, fun g hg => ⟨isP_iff.1 (h4 g hg).2, by have := (h4 g hg).1; omega⟩⟩
  have hl : g.length = n.toNat := by have := (h4 g hg).1; omega
  rw [← hl]
  exact (isP_iff.1 (h4 g hg).2).pm

set_option maxHeartbeats 1600000 in
/-- The program's IsGeneratorSet. -/
theorem implGS (a : Int) (A : Option Addr) (n c : Nat) (vs : List SV) (xss : List (List Int)) (w : World) (hx : RR w w.heap.size A n vs xss) (hn : n ≤ 1048576) (hl : Hid (∀ i, i < n → (vs.getD i sd0).2.1 ≤ 1048576)) :
    Calls Try.prog 56 #[.int .i64 a, .slice A n c] w fun e w' => e = .returned (.bool (gB a xss)) ∧ Below w.heap.size w w' := by
  have HX := Lib.hid hx
  have hlx := hx.lx
  clear hx
  by_cases h0 : a < 1
  · have d1 : decide (a < 1) = true := by simp; omega
    have Fin := Lib.hid (gB_no (n := a) (gs := xss) (by omega))
    go_enter Try.func56, Try.ntmps56
    go_wp2
    go_ret
    exact ⟨ret_bool Fin.out.symm, Below.refl _ _⟩
  · have d1 : decide (a < 1) = false := by simp; omega
    by_cases h1 : 20 < a
    · have d2 : decide (20 < a) = true := by simp; omega
      have Fin := Lib.hid (gB_no (n := a) (gs := xss) (by omega))
      go_enter Try.func56, Try.ntmps56
      go_wp2
      go_ret
      exact ⟨ret_bool Fin.out.symm, Below.refl _ _⟩
    · have d2 : decide (20 < a) = false := by simp; omega
      by_cases h2 : 8 < n
      · have d3 : decide ((8 : Int) < n) = true := by simp; omega
        have Fin := Lib.hid (gB_no (n := a) (gs := xss) (by omega))
        go_enter Try.func56, Try.ntmps56
        go_wp2
        go_ret
        exact ⟨ret_bool Fin.out.symm, Below.refl _ _⟩
      · have d3 : decide ((8 : Int) < n) = false := by simp; omega
        go_enter Try.func56, Try.ntmps56
        go_wp2
        go_loopw [20] (fun i wr => ∃ k : Nat, k ≤ n ∧ i = .int .i64 (k : Nat) ∧ (∀ j, j < k → ((xss.getD j []).length : Int) = a ∧ isP (xss.getD j []) = true) ∧ Below w.heap.size w wr) (fun i _ => n - (intOf i).toNat)
        case atStart => exact ⟨0, Nat.zero_le _, rfl, fun j h => absurd h (by omega), Below.refl _ _⟩
        case round =>
          obtain ⟨k, hk, rfl, hz, bel⟩ := hrel
          have Hz := Lib.hid hz
          have Be := Lib.hid bel
          clear hz bel
          by_cases hlt : k < n
          · obtain ⟨b, off, A5, l, c5, y, rfl, hb, ev, ey, hc0, hr0, hy, hlc⟩ := HX.out.at_ hlt
            have hl1 := hl.out k hlt
            rw [ev] at hl1
            have c1 := (Be.out.cell (p := ⟨b, off + k, none⟩) hb).trans hc0
            have R1 := Lib.hid ((hr0.below Be.out (Nat.le_refl _)).more Be.out.size)
            have Ey := Lib.hid ey
            have Hy : Hid (y.length = l) := Lib.hid hy
            clear ev ey hc0 hr0 hy
            by_cases hla : (l : Int) = a
            · rcases hp : isP y with _ | _
              · have Fin : Hid (gB a xss = false) := Lib.hid (gB_row (by rw [hlx]; exact hlt) Ey.out (by rw [hp]; simp))
                go_wp2_with fail
                refine (implIsP A5 c5 l y wr R1.out Hy (by omega)).mono ?_
                rintro e w2 ⟨rfl, b2⟩
                have B2 : Hid (Below w.heap.size w w2) := Lib.hid (btr Be.out b2)
                clear b2
                rw [hp]
                go_wp2_with fail
                go_ret
                exact ⟨ret_bool Fin.out.symm, B2.out⟩
              · go_wp2_with fail
                refine (implIsP A5 c5 l y wr R1.out Hy (by omega)).mono ?_
                rintro e w2 ⟨rfl, b2⟩
                have B2 : Hid (Below w.heap.size w w2) := Lib.hid (btr Be.out b2)
                clear b2
                have Hp : Hid (isP y = true) := Lib.hid hp
                rw [hp]
                clear hp
                go_wp2_with fail
                go_roundw
                case rel => exact ⟨k + 1, by omega, by go_num, fun j hj => by
                  by_cases e : j = k
                  · subst e; rw [Ey.out, Hy.out]; exact ⟨hla, Hp.out⟩
                  · exact Hz.out j (by omega), B2.out⟩
                case measure => simp [intOf]; omega
            · have Fin : Hid (gB a xss = false) := Lib.hid (gB_row (by rw [hlx]; exact hlt) Ey.out (by rw [Hy.out]; exact fun h => hla h.1))
              go_wp2_with fail
              go_ret
              exact ⟨ret_bool Fin.out.symm, Be.out⟩
          · have hkn : k = n := by omega
            subst hkn
            have Fin : Hid (gB a xss = true) := Lib.hid (gB_all ⟨by omega, by omega, by omega⟩ (fun j hj => Hz.out j (by rw [← hlx]; exact hj)))
            go_wp2
            go_ret
            exact ⟨ret_bool Fin.out.symm, Be.out⟩

set_option maxHeartbeats 1600000 in
/-- The model's IsGeneratorSet. -/
theorem specGS (a : Int) (A : Option Addr) (n c : Nat) (vs : List SV) (xss : List (List Int)) (w : World) (hx : RR w w.heap.size A n vs xss) (hn : n ≤ 1048576) (hl : Hid (∀ i, i < n → (vs.getD i sd0).2.1 ≤ 1048576)) (ha : -9223372036854775808 ≤ a ∧ a ≤ 9223372036854775807) :
    Calls Try.prog 64 #[.int .i64 a, .slice A n c] w fun e w' => e = .returned (.bool (gB a xss)) ∧ Below w.heap.size w w' := by
  have HX := Lib.hid hx
  have hlx := hx.lx
  clear hx
  by_cases h0 : 1 ≤ a ∧ a ≤ 20
  · by_cases h2 : 8 < n
    · have d3 : decide ((8 : Int) < n) = true := by simp; omega
      have Fin := Lib.hid (gB_no (n := a) (gs := xss) (by omega))
      go_enter Try.func64, Try.ntmps64
      go_wp2_with (go_at_call 61; refine (inR_true _ _ _ _ (by omega) (by omega)).mono ?_; rintro e w' ⟨rfl, rfl⟩)
      go_ret
      exact ⟨ret_bool Fin.out.symm, Below.refl _ _⟩
    · have d3 : decide ((8 : Int) < n) = false := by simp; omega
      go_enter Try.func64, Try.ntmps64
      go_wp2_with (go_at_call 61; refine (inR_true _ _ _ _ (by omega) (by omega)).mono ?_; rintro e w' ⟨rfl, rfl⟩)
      go_loopw [5] (fun i wr => ∃ k : Nat, k ≤ n ∧ i = .int .i64 (k : Nat) ∧ (∀ j, j < k → ((xss.getD j []).length : Int) = a ∧ isP (xss.getD j []) = true) ∧ Below w.heap.size w wr) (fun i _ => n - (intOf i).toNat)
      case atStart => exact ⟨0, Nat.zero_le _, rfl, fun j h => absurd h (by omega), Below.refl _ _⟩
      case round =>
        obtain ⟨k, hk, rfl, hz, bel⟩ := hrel
        have Hz := Lib.hid hz
        have Be := Lib.hid bel
        clear hz bel
        by_cases hlt : k < n
        · obtain ⟨b, off, A5, l, c5, y, rfl, hb, ev, ey, hc0, hr0, hy, hlc⟩ := HX.out.at_ hlt
          have hl1 := hl.out k hlt
          rw [ev] at hl1
          have c1 := (Be.out.cell (p := ⟨b, off + k, none⟩) hb).trans hc0
          have R1 := Lib.hid ((hr0.below Be.out (Nat.le_refl _)).more Be.out.size)
          have Ey := Lib.hid ey
          have Hy : Hid (y.length = l) := Lib.hid hy
          clear ev ey hc0 hr0 hy
          by_cases hla : (l : Int) = a
          · rcases hp : isP y with _ | _
            · have Fin : Hid (gB a xss = false) := Lib.hid (gB_row (by rw [hlx]; exact hlt) Ey.out (by rw [hp]; simp))
              go_wp2_with fail
              refine (quiet_below (specIsP A5 c5 l y wr R1.out Hy (by omega) hlc)).mono ?_
              rintro e w2 ⟨rfl, b2⟩
              have B2 : Hid (Below w.heap.size w w2) := Lib.hid (btr Be.out b2)
              clear b2
              rw [hp]
              go_wp2_with fail
              go_ret
              exact ⟨ret_bool Fin.out.symm, B2.out⟩
            · go_wp2_with fail
              refine (quiet_below (specIsP A5 c5 l y wr R1.out Hy (by omega) hlc)).mono ?_
              rintro e w2 ⟨rfl, b2⟩
              have B2 : Hid (Below w.heap.size w w2) := Lib.hid (btr Be.out b2)
              clear b2
              have Hp : Hid (isP y = true) := Lib.hid hp
              rw [hp]
              clear hp
              go_wp2_with fail
              go_roundw
              case rel => exact ⟨k + 1, by omega, by go_num, fun j hj => by
                by_cases e : j = k
                · subst e; rw [Ey.out, Hy.out]; exact ⟨hla, Hp.out⟩
                · exact Hz.out j (by omega), B2.out⟩
              case measure => simp [intOf]; omega
          · have Fin : Hid (gB a xss = false) := Lib.hid (gB_row (by rw [hlx]; exact hlt) Ey.out (by rw [Hy.out]; exact fun h => hla h.1))
            go_wp2_with fail
            go_ret
            exact ⟨ret_bool Fin.out.symm, Be.out⟩
        · have hkn : k = n := by omega
          subst hkn
          have Fin : Hid (gB a xss = true) := Lib.hid (gB_all ⟨by omega, by omega, by omega⟩ (fun j hj => Hz.out j (by rw [← hlx]; exact hj)))
          go_wp2
          go_ret
          exact ⟨ret_bool Fin.out.symm, Be.out⟩
  · have Fin := Lib.hid (gB_no (n := a) (gs := xss) (by omega))
    go_enter Try.func64, Try.ntmps64
    go_wp2_with (go_at_call 61; refine (inR_false _ _ _ _ (by omega)).mono ?_; rintro e w' ⟨rfl, rfl⟩)
    go_ret
    exact ⟨ret_bool Fin.out.symm, Below.refl _ _⟩
theorem implIsGeneratorSet (a : Int) (A : Option Addr) (n c : Nat) (vs : List SV) (xss : List (List Int)) (w : World) (hx : RR w w.heap.size A n vs xss) (hn : n ≤ 1048576) (hl : Hid (∀ i, i < n → (vs.getD i sd0).2.1 ≤ 1048576)) :
    Calls Try.prog 56 #[.int .i64 a, .slice A n c] w fun e w' => e = .returned (.bool (gB a xss)) ∧ Below w.heap.size w w' := implGS a A n c vs xss w hx hn hl
theorem specIsGeneratorSet (a : Int) (A : Option Addr) (n c : Nat) (vs : List SV) (xss : List (List Int)) (w : World) (hx : RR w w.heap.size A n vs xss) (hn : n ≤ 1048576) (hl : Hid (∀ i, i < n → (vs.getD i sd0).2.1 ≤ 1048576)) (ha : -9223372036854775808 ≤ a ∧ a ≤ 9223372036854775807) :
    Calls Try.prog 64 #[.int .i64 a, .slice A n c] w fun e w' => e = .returned (.bool (gB a xss)) ∧ Below w.heap.size w w' := specGS a A n c vs xss w hx hn hl ha
end Go.Proofs.Ytkjokchhffjidaa

/- Identity, of the program and of the model. No condition. -/
namespace Go.Proofs.Ytkjokchhffjidaa
open Go.RowKit

theorem idL_length (n : Nat) : (idL n).length = n := by simp [idL]
theorem idL_getD {n j : Nat} (h : j < n) : (idL n).getD j 0 = (j : Int) := by
  rw [List.getD_eq_getElem?_getD, List.getElem?_eq_getElem (by simp [idL, h])]; simp [idL]
theorem idL_succ (n : Nat) : idL (n + 1) = idL n ++ [(n : Int)] := by simp [idL, List.range_succ]

/-- What Identity answers. -/
def identL (n : Int) : List Int := if 1 ≤ n ∧ n ≤ 20 then idL n.toNat else []

set_option maxHeartbeats 400000 in
theorem implId_core (n : Nat) (w : World) (h1 : 1 ≤ n) (h2 : n ≤ 20) :
    Calls Try.prog 60 #[.int .i64 n] w fun e w' => ∃ A' c', e = .returned (.slice A' n c') ∧ Slc w' w.heap.size A' n c' (idL n) ∧ Below w.heap.size w w' := by
  obtain ⟨i0, hi, hz0, hz1, hz2⟩ := info_parts infoI
  have d1 : decide ((n : Int) < 1) = false := by simp; omega
  have d2 : decide ((20 : Int) < n) = false := by simp; omega
  go_enter Try.func60, Try.ntmps60
  go_wp2_with (first | (at_make; refine wpList_make_full _ rfl _ _ 27 rfl w.heap.size 2 i0 (.int .i64 0) 1 Try.underlying27 hi hz0 hz1 .i64 .i64 _ _ n rfl rfl rfl rfl (by rw [hz2]; omega) (by unfold maxLen; omega) (Nat.le_refl _) ?_; intro w1 hown1 hgrow1))
  have row1 := Row.made hown1
  have bel1 : Below w.heap.size w w1 := (Below.refl _ _).grown hgrow1 (Nat.le_refl _) (fun k e => nomatch e)
  clear hown1 hgrow1 d1 d2
  go_loopw [4, 15] (fun _ i wr => ∃ k ys, k ≤ n ∧ i = .int .i64 (k : Nat) ∧ Row wr w.heap.size w.heap.size n n ys ∧ (∀ j, j < k → ys.getD j 0 = (j : Int)) ∧ Below w.heap.size w wr) (fun _ i _ => n - (intOf i).toNat)
  case atStart => exact ⟨0, _, Nat.zero_le _, rfl, row1, fun j h => absurd h (by omega), bel1⟩
  case round =>
    clear row1 bel1
    obtain ⟨k, ys, hk, rfl, row, heq, bel⟩ := hrel
    have Heq := Lib.hid heq
    clear heq
    by_cases hlt : k < n
    · have c2 := row.cell hlt
      have f2 := row.free k
      have Row2 := Lib.hid (row.store k (k : Int))
      have Bel2 := Lib.hid (bel.setCell (p := ⟨w.heap.size, k, none⟩) (Nat.le_refl _) (.int .i64 (k : Int)))
      have hyl : Hid (ys.length = n) := Lib.hid row.1
      clear row bel
      go_wp2
      go_roundw
      case rel =>
        refine ⟨k + 1, _, by omega, by go_num, Row2.out, fun j hj => ?_, Bel2.out⟩
        rw [set_getD hyl.out (by omega)]
        by_cases e : k = j
        · subst e; rw [if_pos rfl]
        · rw [if_neg e]; exact Heq.out j (by omega)
      case measure => simp [intOf]; omega
    · have hkn : k = n := by omega
      subst hkn
      have Em : Hid (ys = idL k) := Lib.hid (ext_getD row.1 (idL_length k) fun j hj => by rw [Heq.out j hj, idL_getD hj])
      have Ro := Lib.hid row
      have Be := Lib.hid bel
      clear row bel
      go_wp2
      go_ret
      exact ⟨_, _, rfl, by rw [← Em.out]; exact Ro.out.slc, Be.out⟩

/-- The program's Identity. -/
theorem implId (n : Int) (w : World) :
    Calls Try.prog 60 #[.int .i64 n] w fun e w' => ∃ A' n' c', e = .returned (.slice A' n' c') ∧ Slc w' w.heap.size A' n' c' (identL n) ∧ n' ≤ 20 ∧ Below w.heap.size w w' := by
  by_cases h1 : n < 1
  · have Fin : Hid (identL n = []) := Lib.hid (if_neg (by omega))
    have d1 : decide ((n : Int) < 1) = true := by simp; omega
    go_enter Try.func60, Try.ntmps60
    go_wp2
    go_ret
    exact ⟨_, _, _, rfl, by rw [Fin.out]; exact Slc.nil_, Nat.zero_le _, Below.refl _ _⟩
  · by_cases h2 : 20 < n
    · have Fin : Hid (identL n = []) := Lib.hid (if_neg (by omega))
      have d1 : decide ((n : Int) < 1) = false := by simp; omega
      have d2 : decide ((20 : Int) < n) = true := by simp; omega
      go_enter Try.func60, Try.ntmps60
      go_wp2
      go_ret
      exact ⟨_, _, _, rfl, by rw [Fin.out]; exact Slc.nil_, Nat.zero_le _, Below.refl _ _⟩
    · obtain ⟨m, rfl⟩ := Int.eq_ofNat_of_zero_le (show 0 ≤ n by omega)
      refine (implId_core m w (by omega) (by omega)).mono fun e w' ⟨A', c', he, hs, hb⟩ => ⟨A', m, c', he, ?_, by omega, hb⟩
      rw [show identL (m : Int) = idL m from by unfold identL; rw [if_pos (by omega)]; rfl]
      exact hs

set_option maxHeartbeats 400000 in
theorem specIdent (n : Nat) (w : World) (h2 : n ≤ 1000000) :
    Calls Try.prog 62 #[.int .i64 n] w fun e w' => ∃ A' c', e = .returned (.slice A' n c') ∧ Slc w' w.heap.size A' n c' (idL n) ∧ Below w.heap.size w w' := by
  go_enter Try.func62, Try.ntmps62
  go_wp2
  go_loopw [3, 4] (fun v i wr => ∃ k A c, k ≤ n ∧ i = .int .i64 (k : Nat) ∧ v = .slice A k c ∧ Slc wr w.heap.size A k c (idL k) ∧ Below w.heap.size w wr) (fun _ i _ => n - (intOf i).toNat)
  case atStart => exact ⟨0, _, _, Nat.zero_le _, rfl, rfl, Slc.lit0 w _ (Nat.le_refl _), (Below.refl _ _).alloc (Nat.le_refl _) _⟩
  case round =>
    obtain ⟨k, A, c, hk, rfl, rfl, own, bel⟩ := hrel
    have Own' := Lib.hid own
    have Bel := Lib.hid bel
    clear own bel
    by_cases hlt : k < n
    · go_wp2_with (first | (at_builtin; refine wpList_app1 rfl _ _ rfl w.heap.size A k c (idL k) rfl (Own'.out.alloc _) wr.heap.size k rfl (by rw [World.cell?_alloc_at _ _ _ _ rfl]; rfl) (by omega) (by have := Bel.out.size; simp; omega) ?_; intro A' c' w1 own1 hg1))
      have Own1 := Lib.hid own1
      have Bel1 : Hid (Below w.heap.size w w1) := Lib.hid ((Bel.out.alloc Bel.out.size _).grown hg1 (by have := Bel.out.size; simp; omega) (fun j hj => (Own'.out.lt_ j hj).1))
      clear own1 hg1
      go_wp2
      go_roundw
      case rel => exact ⟨k + 1, A', c', by omega, by go_num, rfl, by rw [idL_succ]; exact Own1.out, Bel1.out⟩
      case measure => simp [intOf]; omega
    · have hkn : k = n := by omega
      subst hkn
      go_wp2
      go_ret
      exact ⟨_, _, rfl, Own'.out, Bel.out⟩

/-- The model's Identity. -/
theorem specId (n : Int) (w : World) :
    Calls Try.prog 23 #[.int .i64 n] w fun e w' => ∃ A' n' c', e = .returned (.slice A' n' c') ∧ Slc w' w.heap.size A' n' c' (identL n) ∧ n' ≤ 20 ∧ Below w.heap.size w w' := by
  by_cases h1 : n < 1 ∨ 20 < n
  · have Fin : Hid (identL n = []) := Lib.hid (if_neg (by omega))
    have H1 := Lib.hid h1
    clear h1
    go_enter Try.func23, Try.ntmps23
    go_wp2_with (go_at_call 61; refine (inR_false _ _ _ _ H1.out).mono ?_; rintro e w' ⟨rfl, rfl⟩)
    go_ret
    exact ⟨_, _, _, rfl, by rw [Fin.out]; exact Slc.lit0 w _ (Nat.le_refl _), Nat.zero_le _, (Below.refl _ _).alloc (Nat.le_refl _) _⟩
  · obtain ⟨m, rfl⟩ := Int.eq_ofNat_of_zero_le (show 0 ≤ n by omega)
    have Fin : Hid (identL (m : Int) = idL m) := Lib.hid (by unfold identL; rw [if_pos (by omega)]; rfl)
    go_enter Try.func23, Try.ntmps23
    go_wp2_with (first | (go_at_call 61; refine (inR_true _ _ _ _ (by omega) (by omega)).mono ?_; rintro e w' ⟨rfl, rfl⟩) | (go_at_call 62; refine (specIdent m w (by omega)).mono ?_; rintro e w' ⟨A', c', rfl, own, bel⟩))
    have Own' := Lib.hid own
    have Bel := Lib.hid bel
    clear own bel
    go_wp2
    go_ret
    exact ⟨_, _, _, rfl, by rw [Fin.out]; exact Own'.out, by omega, Bel.out⟩
end Go.Proofs.Ytkjokchhffjidaa

/- Compose and Inverse, of the program and of the model. Condition: at most 2097152 entries. -/
namespace Go.Proofs.Ytkjokchhffjidaa
open Go.RowKit

def sameD (p q : List Int) : Bool := decide (p.length = q.length) && isP p && isP q
theorem sameD_iff {p q : List Int} : sameD p q = true ↔ p.length = q.length ∧ IsP p ∧ IsP q := by
  unfold sameD
  rw [Bool.and_eq_true, Bool.and_eq_true, decide_eq_true_eq, isP_iff, isP_iff]
  exact ⟨fun ⟨⟨a, b⟩, c⟩ => ⟨a, b, c⟩, fun ⟨a, b, c⟩ => ⟨⟨a, b⟩, c⟩⟩

theorem compL_length (p q : List Int) : (compL p q).length = p.length := by simp [compL]
theorem compL_getD {p q : List Int} {k : Nat} (hk : k < p.length) : (compL p q).getD k 0 = q.getD (nx p k) 0 := by
  unfold compL nx
  rw [List.getD_eq_getElem?_getD, List.getElem?_map, List.getElem?_eq_getElem hk, List.getD_eq_getElem?_getD (l := p), List.getElem?_eq_getElem hk]
  rfl

set_option maxHeartbeats 400000 in
/-- permutation.then. -/
theorem implThen (A B : Option Addr) (c d n : Nat) (p q : List Int) (w : World) (hp : RI w w.heap.size A p) (hq : RI w w.heap.size B q) (lp : Hid (p.length = n)) (lq : Hid (q.length = n)) (ip : Hid (IsP p)) (hn : n ≤ 20) :
    Calls Try.prog 48 #[.slice A n c, .slice B n d] w fun e w' => ∃ A' c', e = .returned (.slice A' n c') ∧ Slc w' w.heap.size A' n c' (compL p q) ∧ Below w.heap.size w w' := by
  obtain ⟨i0, hi, hz0, hz1, hz2⟩ := info_parts infoI
  go_enter Try.func48, Try.ntmps48
  go_wp2_with (first | (at_make; refine wpList_make_full _ rfl _ _ 59 rfl w.heap.size 2 i0 (.int .i64 0) 1 Try.underlying59 hi hz0 hz1 .i64 .i64 _ _ n rfl rfl rfl rfl (by rw [hz2]; omega) (by unfold maxLen; omega) (Nat.le_refl _) ?_; intro w1 hown1 hgrow1))
  have row1 := Row.made hown1
  have bel1 : Below w.heap.size w w1 := (Below.refl _ _).grown hgrow1 (Nat.le_refl _) (fun k e => nomatch e)
  clear hown1 hgrow1
  go_loopw [6, 7, 13] (fun _ _ i wr => ∃ k ys, k ≤ n ∧ i = .int .i64 (k : Nat) ∧ Row wr w.heap.size w.heap.size n n ys ∧ (∀ j, j < k → ys.getD j 0 = q.getD (nx p j) 0) ∧ Below w.heap.size w wr) (fun _ _ i _ => n - (intOf i).toNat)
  case atStart => exact ⟨0, _, Nat.zero_le _, rfl, row1, fun j h => absurd h (by omega), bel1⟩
  case round =>
    clear row1 bel1
    obtain ⟨k, ys, hk, rfl, row, heq, bel⟩ := hrel
    have Heq := Lib.hid heq
    clear heq
    by_cases hlt : k < n
    · obtain ⟨b, off, rfl, hb, hc⟩ := hp (by rw [lp.out]; omega)
      obtain ⟨b', off', rfl, hb', hc'⟩ := hq (by rw [lq.out]; omega)
      obtain ⟨y, ey⟩ : ∃ y, nx p k = y := ⟨_, rfl⟩
      have hy : y < n := by rw [← ey, ← lp.out]; exact nx_lt ip.out (by rw [lp.out]; exact hlt)
      have c1 := (bel.cell (p := ⟨b, off + k, none⟩) hb).trans (hc k (by rw [lp.out]; omega))
      rw [nx_val ip.out (by rw [lp.out]; exact hlt), ey] at c1
      have c2 := (bel.cell (p := ⟨b', off' + y, none⟩) hb').trans (hc' y (by rw [lq.out]; omega))
      obtain ⟨x, ex⟩ : ∃ x, q.getD y 0 = x := ⟨_, rfl⟩
      rw [ex] at c2
      have c3 := row.cell hlt
      have f3 := row.free k
      have Ex := Lib.hid ex
      have Ey := Lib.hid ey
      clear ex ey hc hc' hp hq
      have Row2 := Lib.hid (row.store k x)
      have Bel2 := Lib.hid (bel.setCell (p := ⟨w.heap.size, k, none⟩) (Nat.le_refl _) (.int .i64 x))
      have hyl : Hid (ys.length = n) := Lib.hid row.1
      clear row bel
      go_wp2
      go_roundw
      case rel =>
        refine ⟨k + 1, _, by omega, by go_num, Row2.out, fun j hj => ?_, Bel2.out⟩
        rw [set_getD hyl.out (by omega)]
        by_cases e : k = j
        · subst e; rw [if_pos rfl, Ey.out, Ex.out]
        · rw [if_neg e]; exact Heq.out j (by omega)
      case measure => simp [intOf]; omega
    · have hkn : k = n := by omega
      subst hkn
      have Em : Hid (ys = compL p q) := Lib.hid (ext_getD row.1 ((compL_length p q).trans lp.out) fun j hj => by rw [Heq.out j hj, compL_getD (by rw [lp.out]; exact hj)])
      have Ro := Lib.hid row
      have Be := Lib.hid bel
      clear row bel
      go_wp2
      go_ret
      exact ⟨_, _, rfl, by rw [← Em.out]; exact Ro.out.slc, Be.out⟩

def composeL (p q : List Int) : List Int := if sameD p q = true then compL p q else []

theorem compL_snoc {p q : List Int} {k : Nat} (hk : k < p.length) : compL (p.take (k + 1)) q = compL (p.take k) q ++ [q.getD (nx p k) 0] := by
  unfold compL nx
  rw [List.take_succ_eq_append_getElem hk, List.map_append, List.getD_eq_getElem?_getD (l := p), List.getElem?_eq_getElem hk]
  rfl

set_option maxHeartbeats 400000 in
theorem specComp (A B : Option Addr) (c d n : Nat) (p q : List Int) (w : World) (hp : RI w w.heap.size A p) (hq : RI w w.heap.size B q) (lp : Hid (p.length = n)) (lq : Hid (q.length = n)) (ip : Hid (IsP p)) (hn : n ≤ 20) :
    Calls Try.prog 50 #[.slice A n c, .slice B n d] w fun e w' => ∃ A' c', e = .returned (.slice A' n c') ∧ Slc w' w.heap.size A' n c' (compL p q) ∧ Below w.heap.size w w' := by
  go_enter Try.func50, Try.ntmps50
  go_wp2
  go_loopw [5, 6] (fun v i wr => ∃ k A c, k ≤ n ∧ i = .int .i64 (k : Nat) ∧ v = .slice A k c ∧ Slc wr w.heap.size A k c (compL (p.take k) q) ∧ Below w.heap.size w wr) (fun _ i _ => n - (intOf i).toNat)
  case atStart => exact ⟨0, _, _, Nat.zero_le _, rfl, rfl, Slc.lit0 w _ (Nat.le_refl _), (Below.refl _ _).alloc (Nat.le_refl _) _⟩
  case round =>
    obtain ⟨k, A', c', hk, rfl, rfl, own, bel⟩ := hrel
    have Own' := Lib.hid own
    clear own
    by_cases hlt : k < n
    · obtain ⟨b, off, rfl, hb, hc⟩ := hp (by rw [lp.out]; omega)
      obtain ⟨b', off', rfl, hb', hc'⟩ := hq (by rw [lq.out]; omega)
      obtain ⟨y, ey⟩ : ∃ y, nx p k = y := ⟨_, rfl⟩
      have hy : y < n := by rw [← ey, ← lp.out]; exact nx_lt ip.out (by rw [lp.out]; exact hlt)
      have c1 := (bel.cell (p := ⟨b, off + k, none⟩) hb).trans (hc k (by rw [lp.out]; omega))
      rw [nx_val ip.out (by rw [lp.out]; exact hlt), ey] at c1
      have c2 := (bel.cell (p := ⟨b', off' + y, none⟩) hb').trans (hc' y (by rw [lq.out]; omega))
      obtain ⟨x, ex⟩ : ∃ x, q.getD y 0 = x := ⟨_, rfl⟩
      rw [ex] at c2
      have Ex := Lib.hid ex
      have Ey := Lib.hid ey
      have Bel := Lib.hid bel
      clear ex ey hc hc' hp hq bel
      go_wp2_with (first | (at_builtin; refine wpList_app1 rfl _ _ rfl w.heap.size A' k c' _ rfl (Own'.out.alloc _) wr.heap.size x rfl (by rw [World.cell?_alloc_at _ _ _ _ rfl]; rfl) (by omega) (by have := Bel.out.size; simp; omega) ?_; intro A1 c1' w1 own1 hg1))
      have Own1 := Lib.hid own1
      have Bel1 : Hid (Below w.heap.size w w1) := Lib.hid ((Bel.out.alloc Bel.out.size _).grown hg1 (by have := Bel.out.size; simp; omega) (fun j hj => (Own'.out.lt_ j hj).1))
      clear own1 hg1
      go_wp2
      go_roundw
      case rel => exact ⟨k + 1, A1, c1', by omega, by go_num, rfl, by rw [compL_snoc (by rw [lp.out]; exact hlt), Ey.out, Ex.out]; exact Own1.out, Bel1.out⟩
      case measure => simp [intOf]; omega
    · have hkn : k = n := by omega
      subst hkn
      have Bel := Lib.hid bel
      have Em : Hid (p.take k = p) := Lib.hid (List.take_of_length_le (by rw [lp.out]; exact Nat.le_refl _))
      clear bel
      go_wp2
      go_ret
      exact ⟨_, _, rfl, by have := Own'.out; rw [Em.out] at this; exact this, Bel.out⟩

end Go.Proofs.Ytkjokchhffjidaa

/- Inverse and Support, of the program and of the model. Condition: at most 2097152 entries. -/
namespace Go.Proofs.Ytkjokchhffjidaa
open Go.RowKit

theorem invL_length (p : List Int) (k : Nat) : (invL p k).length = p.length := by
  induction k with
  | zero => simp [invL]
  | succ k ih => simp [invL, ih]
def inverseL (p : List Int) : List Int := if isP p = true then invL p p.length else []

set_option maxHeartbeats 400000 in
/-- permutation.inverse. -/
theorem implInv (A : Option Addr) (c n : Nat) (p : List Int) (w : World) (hp : RI w w.heap.size A p) (lp : Hid (p.length = n)) (ip : Hid (IsP p)) (hn : n ≤ 20) :
    Calls Try.prog 105 #[.slice A n c] w fun e w' => ∃ A' c', e = .returned (.slice A' n c') ∧ Slc w' w.heap.size A' n c' (invL p n) ∧ Below w.heap.size w w' := by
  obtain ⟨i0, hi, hz0, hz1, hz2⟩ := info_parts infoI
  go_enter Try.func105, Try.ntmps105
  go_wp2_with (first | (at_make; refine wpList_make_full _ rfl _ _ 59 rfl w.heap.size 2 i0 (.int .i64 0) 1 Try.underlying59 hi hz0 hz1 .i64 .i64 _ _ n rfl rfl rfl rfl (by rw [hz2]; omega) (by unfold maxLen; omega) (Nat.le_refl _) ?_; intro w1 hown1 hgrow1))
  have row1 := Row.made hown1
  have bel1 : Below w.heap.size w w1 := (Below.refl _ _).grown hgrow1 (Nat.le_refl _) (fun k e => nomatch e)
  clear hown1 hgrow1
  go_loopw [4, 5, 11] (fun _ _ i wr => ∃ k : Nat, k ≤ n ∧ i = .int .i64 (k : Nat) ∧ Row wr w.heap.size w.heap.size n n (invL p k) ∧ Below w.heap.size w wr) (fun _ _ i _ => n - (intOf i).toNat)
  case atStart => exact ⟨0, Nat.zero_le _, rfl, by unfold invL; rw [lp.out]; exact row1, bel1⟩
  case round =>
    clear row1 bel1
    obtain ⟨k, hk, rfl, row, bel⟩ := hrel
    by_cases hlt : k < n
    · obtain ⟨b, off, rfl, hb, hc⟩ := hp (by rw [lp.out]; omega)
      obtain ⟨y, ey⟩ : ∃ y, nx p k = y := ⟨_, rfl⟩
      have hy : y < n := by rw [← ey, ← lp.out]; exact nx_lt ip.out (by rw [lp.out]; exact hlt)
      have c1 := (bel.cell (p := ⟨b, off + k, none⟩) hb).trans (hc k (by rw [lp.out]; omega))
      rw [nx_val ip.out (by rw [lp.out]; exact hlt), ey] at c1
      have c3 := row.cell hy
      have f3 := row.free y
      have Ey := Lib.hid ey
      clear ey hc hp
      have Row2 := Lib.hid (row.store y (k : Int))
      have Bel2 := Lib.hid (bel.setCell (p := ⟨w.heap.size, y, none⟩) (Nat.le_refl _) (.int .i64 (k : Int)))
      obtain ⟨z, hz⟩ : ∃ z, (invL p k).getD y 0 = z := ⟨_, rfl⟩
      rw [hz] at c3
      clear row bel hz
      go_wp2
      go_roundw
      case rel => exact ⟨k + 1, by omega, by go_num, by rw [show invL p (k + 1) = (invL p k).set y (k : Int) from by rw [← Ey.out]; rfl]; exact Row2.out, Bel2.out⟩
      case measure => simp [intOf]; omega
    · have hkn : k = n := by omega
      subst hkn
      have Ro := Lib.hid row
      have Be := Lib.hid bel
      clear row bel
      go_wp2
      go_ret
      exact ⟨_, _, rfl, Ro.out.slc, Be.out⟩

set_option maxHeartbeats 400000 in
theorem specInv (A : Option Addr) (c n : Nat) (p : List Int) (w : World) (hp : RI w w.heap.size A p) (lp : Hid (p.length = n)) (ip : Hid (IsP p)) (hn : n ≤ 20) :
    Calls Try.prog 106 #[.slice A n c] w fun e w' => ∃ A' c', e = .returned (.slice A' n c') ∧ Slc w' w.heap.size A' n c' (invL p n) ∧ Below w.heap.size w w' := by
  obtain ⟨i0, hi, hz0, hz1, hz2⟩ := info_parts infoI
  go_enter Try.func106, Try.ntmps106
  go_wp2_with (first | (at_make; refine wpList_make_full _ rfl _ _ 27 rfl w.heap.size 2 i0 (.int .i64 0) 1 Try.underlying27 hi hz0 hz1 .i64 .i64 _ _ n rfl rfl rfl rfl (by rw [hz2]; omega) (by unfold maxLen; omega) (Nat.le_refl _) ?_; intro w1 hown1 hgrow1))
  have row1 := Row.made hown1
  have bel1 : Below w.heap.size w w1 := (Below.refl _ _).grown hgrow1 (Nat.le_refl _) (fun k e => nomatch e)
  clear hown1 hgrow1
  go_loopw [4] (fun i wr => ∃ k : Nat, k ≤ n ∧ i = .int .i64 (k : Nat) ∧ Row wr w.heap.size w.heap.size n n (invL p k) ∧ Below w.heap.size w wr) (fun i _ => n - (intOf i).toNat)
  case atStart => exact ⟨0, Nat.zero_le _, rfl, by unfold invL; rw [lp.out]; exact row1, bel1⟩
  case round =>
    clear row1 bel1
    obtain ⟨k, hk, rfl, row, bel⟩ := hrel
    by_cases hlt : k < n
    · obtain ⟨b, off, rfl, hb, hc⟩ := hp (by rw [lp.out]; omega)
      obtain ⟨y, ey⟩ : ∃ y, nx p k = y := ⟨_, rfl⟩
      have hy : y < n := by rw [← ey, ← lp.out]; exact nx_lt ip.out (by rw [lp.out]; exact hlt)
      have c1 := (bel.cell (p := ⟨b, off + k, none⟩) hb).trans (hc k (by rw [lp.out]; omega))
      rw [nx_val ip.out (by rw [lp.out]; exact hlt), ey] at c1
      have c3 := row.cell hy
      have f3 := row.free y
      have Ey := Lib.hid ey
      clear ey hc hp
      have Row2 := Lib.hid (row.store y (k : Int))
      have Bel2 := Lib.hid (bel.setCell (p := ⟨w.heap.size, y, none⟩) (Nat.le_refl _) (.int .i64 (k : Int)))
      obtain ⟨z, hz⟩ : ∃ z, (invL p k).getD y 0 = z := ⟨_, rfl⟩
      rw [hz] at c3
      clear row bel hz
      go_wp2
      go_roundw
      case rel => exact ⟨k + 1, by omega, by go_num, by rw [show invL p (k + 1) = (invL p k).set y (k : Int) from by rw [← Ey.out]; rfl]; exact Row2.out, Bel2.out⟩
      case measure => simp [intOf]; omega
    · have hkn : k = n := by omega
      subst hkn
      have Ro := Lib.hid row
      have Be := Lib.hid bel
      clear row bel
      go_wp2
      go_ret
      exact ⟨_, _, rfl, Ro.out.slc, Be.out⟩

end Go.Proofs.Ytkjokchhffjidaa

/- Plain facts: composition is associative, an inverse undoes. No Go in it. No condition. -/
namespace Go.Proofs.Ytkjokchhffjidaa
open Go.RowKit

theorem nx_comp {p q : List Int} {k : Nat} (hk : k < p.length) : nx (compL p q) k = nx q (nx p k) := by
  unfold nx; rw [compL_getD hk]; rfl
theorem isP_comp {p q : List Int} (hp : IsP p) (hq : IsP q) (hl : p.length = q.length) : IsP (compL p q) := by
  have hlen := compL_length p q
  refine ⟨by rw [hlen]; exact hp.pos, by rw [hlen]; exact hp.le, fun i hi => ?_, fun i hi => ?_, fun i j hi hj e => ?_⟩
  · rw [hlen] at hi; rw [compL_getD hi]; exact hq.lo _ (by rw [← hl]; exact nx_lt hp hi)
  · rw [hlen] at hi ⊢; rw [compL_getD hi, hl]; exact hq.hi _ (by rw [← hl]; exact nx_lt hp hi)
  · rw [hlen] at hi hj
    rw [compL_getD hi, compL_getD hj] at e
    exact nx_inj hp hi hj (hq.inj _ _ (by rw [← hl]; exact nx_lt hp hi) (by rw [← hl]; exact nx_lt hp hj) e)
theorem comp_assoc {p q r : List Int} (hp : IsP p) (hl : p.length = q.length) : compL (compL p q) r = compL p (compL q r) := by
  refine ext_getD (n := p.length) ((compL_length _ _).trans (compL_length _ _)) (compL_length _ _) fun k hk => ?_
  rw [compL_getD (by rw [compL_length]; exact hk), nx_comp hk, compL_getD hk, compL_getD (by rw [← hl]; exact nx_lt hp hk)]

/-- The point before j. -/
def pre (p : List Int) (j : Nat) : Nat := it p (per p j - 1) j
theorem pre_lt {p : List Int} (hp : IsP p) {j : Nat} (hj : j < p.length) : pre p j < p.length := it_lt hp hj _
theorem nx_pre {p : List Int} (hp : IsP p) {j : Nat} (hj : j < p.length) : nx p (pre p j) = j := by
  obtain ⟨h1, _, h3, _⟩ := per_spec hp hj
  have : it p (per p j - 1 + 1) j = j := by rw [show per p j - 1 + 1 = per p j from by omega]; exact h3
  exact this
theorem invL_at {p : List Int} (hp : IsP p) : ∀ k, k ≤ p.length → ∀ i, i < k → (invL p k).getD (nx p i) 0 = (i : Int) := by
  intro k
  induction k with
  | zero => intro _ i h; omega
  | succ k ih =>
    intro hk i hi
    have hl := invL_length p k
    show ((invL p k).set (p.getD k 0).toNat (k : Int)).getD (nx p i) 0 = _
    rw [set_getD hl (nx_lt hp (by omega))]
    by_cases e : i = k
    · subst e; rw [if_pos (show (p.getD i 0).toNat = nx p i from rfl)]
    · rw [if_neg fun e2 => e (nx_inj hp (by omega) (by omega) (show nx p i = nx p k from e2.symm)), ih (by omega) i (by omega)]
theorem invL_getD {p : List Int} (hp : IsP p) {j : Nat} (hj : j < p.length) : (invL p p.length).getD j 0 = (pre p j : Int) := by
  have := invL_at hp p.length (Nat.le_refl _) (pre p j) (pre_lt hp hj)
  rw [nx_pre hp hj] at this
  exact this
theorem isP_inv {p : List Int} (hp : IsP p) : IsP (invL p p.length) := by
  have hl := invL_length p p.length
  refine ⟨by rw [hl]; exact hp.pos, by rw [hl]; exact hp.le, fun i hi => ?_, fun i hi => ?_, fun i j hi hj e => ?_⟩
  · rw [hl] at hi; rw [invL_getD hp hi]; omega
  · rw [hl] at hi ⊢; rw [invL_getD hp hi]; have := pre_lt hp hi; omega
  · rw [hl] at hi hj
    rw [invL_getD hp hi, invL_getD hp hj] at e
    rw [← nx_pre hp hi, ← nx_pre hp hj, show pre p i = pre p j from by omega]
theorem comp_inv {p : List Int} (hp : IsP p) : compL p (invL p p.length) = idL p.length := by
  refine ext_getD (compL_length _ _) (idL_length _) fun k hk => ?_
  rw [compL_getD hk, idL_getD hk, invL_at hp _ (Nat.le_refl _) k hk]
theorem inv_comp {p : List Int} (hp : IsP p) : compL (invL p p.length) p = idL p.length := by
  refine ext_getD ((compL_length _ _).trans (invL_length _ _)) (idL_length _) fun k hk => ?_
  rw [compL_getD (by rw [invL_length]; exact hk), idL_getD hk]
  have : nx (invL p p.length) k = pre p k := by unfold nx; rw [invL_getD hp hk]; omega
  rw [this, nx_val hp (pre_lt hp hk), nx_pre hp hk]

end Go.Proofs.Ytkjokchhffjidaa
