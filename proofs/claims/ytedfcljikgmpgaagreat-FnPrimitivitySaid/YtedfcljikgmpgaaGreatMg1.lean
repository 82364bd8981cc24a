/- Part 1 of the texts: Base, Help, Math, Perm, Ident, Comp, Src, RowB, SrcP, SrcA, SS, SSx, OrM. No condition of its own: each text tells its own. -/
import Derived.WalkKit
import Derived.Test.YtedfcljikgmpgaaGreatProg
import Derived.Maps.AppendAt
import Derived.Deep.Draws
import Derived.Lib.Hide
import Derived.Deep.QuietTactic
import Derived.BigQuiet
import Derived.WalkSpells
import Derived.RegionTactic
import Derived.Deep.LoopGhost
import Derived.Deep.RegionLaw
set_option linter.unusedVariables false
set_option linter.unusedSimpArgs false

/- Words for the walks of this seat: a slice of int64 that reads as a list; a row of the call's own; how both are kept. No condition. -/
namespace Go.Proofs.YtedfcljikgmpgaaGreat
open Go.RowKit

/-- The slice at A reads as the numbers xs, in blocks below B. -/
def RI (w : World) (B : Nat) (A : Option Addr) (xs : List Int) : Prop :=
  0 < xs.length → ∃ b off, A = some ⟨b, off, none⟩ ∧ b < B ∧ ∀ j, j < xs.length → w.cell? ⟨b, off + j, none⟩ = some (.int .i64 (xs.getD j 0))

section
variable {w w' : World} {B B' : Nat} {A : Option Addr} {xs : List Int}
theorem RI.nil_ : RI w B A [] := fun h => absurd h (by simp)
theorem RI.keep (h : RI w B A xs) (hk : ∀ p : Addr, p.block < B → w'.cell? p = w.cell? p) : RI w' B A xs := fun hn => by
  obtain ⟨b, off, e, hb, hc⟩ := h hn
  exact ⟨b, off, e, hb, fun j hj => (hk ⟨b, off + j, none⟩ hb).trans (hc j hj)⟩
theorem RI.more (h : RI w B A xs) (hB : B ≤ B') : RI w B' A xs := fun hn => by
  obtain ⟨b, off, e, hb, hc⟩ := h hn
  exact ⟨b, off, e, by omega, hc⟩
theorem RI.below (h : RI w B A xs) {B' : Nat} (hb : Below B' w w') (hB : B ≤ B') : RI w' B A xs := h.keep fun _ hp => hb.cell (by omega)
theorem RI.drew (h : RI w B A xs) : RI w.drew B A xs := h
theorem RI.drewN (h : RI w B A xs) (k : Nat) : RI (w.drewN k) B A xs := h
theorem RI.alloc (h : RI w B A xs) (hB : B ≤ w.heap.size) (o : Obj) : RI (w.alloc o) B A xs := h.keep fun p hp => World.cell?_alloc_lt w o p (by omega)
theorem RI.setCell (h : RI w B A xs) {p : Addr} (hB : B ≤ p.block) (u : Value) : RI (w.setCell p u) B A xs :=
  h.keep fun q hq => World.cell?_setCell_other w p q u (fun e => by subst e; omega)
theorem RI.grown (h : RI w B A xs) {row : Option Nat} (hg : w.grownBy w' row) (hB : B ≤ w.heap.size) (hr : ∀ g, row = some g → B ≤ g) : RI w' B A xs :=
  h.keep fun p hp => World.cell?_of_block (hg.block p.block (by omega) (fun e => by have := hr _ e.symm; omega))
end

/-- v is a row of the call's own, from block base on, that holds the numbers xs. -/
def Own (w : World) (base : Nat) (v : Value) (xs : List Int) : Prop := w.ownsRow base 2 1 v xs.length (xs.map (Value.int .i64))

section
variable {w w' : World} {base B : Nat} {v : Value} {xs : List Int}
/-- The value written out: its address, its capacity; it reads as xs. -/
theorem Own.form (h : Own w base v xs) : ∃ A c, v = .slice A xs.length c ∧ RI w w.heap.size A xs ∧ (∀ b off, A = some ⟨b, off, none⟩ → base ≤ b ∧ b < w.heap.size ∧ off = 0) ∧ (A = none → xs = [] ∧ c = 0) ∧ xs.length ≤ maxLen := by
  rcases h.2 with ⟨rfl, h0⟩ | ⟨g, cap, cur, rfl, hb, hg, hn, hm, hcs, htake⟩
  · obtain rfl : xs = [] := List.eq_nil_of_length_eq_zero h0
    exact ⟨none, 0, rfl, RI.nil_, fun _ _ e => (nomatch e), fun _ => ⟨rfl, rfl⟩, Nat.zero_le _⟩
  · have hlt : g < w.heap.size := (Array.getElem?_eq_some_iff.1 hg).1
    refine ⟨some ⟨g, 0, none⟩, cap, rfl, fun _ => ⟨g, 0, rfl, hlt, fun j hj => ?_⟩, fun b off e => (by injection e with e; injection e with e1 e2; subst e1; subst e2; exact ⟨hb, hlt, rfl⟩), fun e => (nomatch e), Nat.le_trans hn hm⟩
    have := h.cells (g := g) rfl j (.int .i64 (xs.getD j 0)) (by rw [List.getElem?_map, List.getD_eq_getElem?_getD, List.getElem?_eq_getElem hj]; rfl)
    rw [← this]
    unfold Addr.add
    split <;> simp_all
theorem Own.kept (h : Own w base v xs) {row : Option Nat} (hg : w.grownBy w' row) (hne : v.ownBlock = none ∨ v.ownBlock ≠ row) : Own w' base v xs := World.ownsRow.kept h hg hne
theorem Own.alloc (h : Own w base v xs) (o : Obj) : Own (w.alloc o) base v xs := World.ownsRow.alloc h o
theorem Own.below (h : Own w base v xs) (hb : Below B w w') (hv : ∀ k, v.ownBlock = some k → k < B) : Own w' base v xs := by
  refine ⟨h.1, ?_⟩
  rcases h.2 with hn | ⟨g, cap, cur, rfl, hb', hg, rest⟩
  · exact .inl hn
  · exact .inr ⟨g, cap, cur, rfl, hb', by rw [hb.block g (hv g rfl)]; exact hg, rest⟩
theorem Own.drewN (h : Own w base v xs) (n : Nat) : Own (w.drewN n) base v xs := h
theorem Own.mono (h : Own w base v xs) {base' : Nat} (hb : base' ≤ base) : Own w base' v xs := by
  refine ⟨h.1, ?_⟩
  rcases h.2 with hn | ⟨g, cap, cur, rfl, hb', rest⟩
  · exact .inl hn
  · exact .inr ⟨g, cap, cur, rfl, by omega, rest⟩
theorem Own.lt_ (h : Own w base v xs) : ∀ k, v.ownBlock = some k → base ≤ k ∧ k < w.heap.size := World.ownsRow.lt h
end

/-- The slice value '.slice A n c' is a row of the call's own, from block base on; it holds the numbers xs. -/
def Slc (w : World) (base : Nat) (A : Option Addr) (n c : Nat) (xs : List Int) : Prop := xs.length = n ∧ Own w base (.slice A n c) xs
section
variable {w w' : World} {base n c B : Nat} {A : Option Addr} {xs : List Int}
theorem Slc.hid (h : Slc w base A n c xs) : Hid (xs.length = n) := Lib.hid h.1
theorem Slc.of_own {v : Value} (h : Own w base v xs) (hn : xs.length = n) : ∃ A c, v = .slice A n c ∧ Slc w base A n c xs := by
  subst hn
  obtain ⟨A, c, rfl, _⟩ := h.form
  exact ⟨A, c, rfl, rfl, h⟩
theorem Slc.ri (h : Slc w base A n c xs) (hB : w.heap.size ≤ B) : RI w B A xs := by
  obtain ⟨A', c', e, r, _⟩ := h.2.form
  injection e with e1 e2 e3
  subst e1
  exact r.more hB
theorem Slc.le (h : Slc w base A n c xs) : n ≤ c ∧ n ≤ maxLen := by
  rcases h.2.2 with ⟨e, h0⟩ | ⟨g, cap, cur, e, hb, hg, hn, hm, hcs, htake⟩
  · injection e with e1 e2 e3; subst e2; subst e3; exact ⟨Nat.zero_le _, Nat.zero_le _⟩
  · injection e with e1 e2 e3; subst e2; subst e3; exact ⟨hn, Nat.le_trans hn hm⟩
theorem Slc.at_ (h : Slc w base A n c xs) : (A = none ∧ xs = [] ∧ n = 0 ∧ c = 0) ∨ ∃ g, A = some ⟨g, 0, none⟩ ∧ base ≤ g ∧ g < w.heap.size := by
  rcases h.2.2 with ⟨e, h0⟩ | ⟨g, cap, cur, e, hb, hg, hn, hm, hcs, htake⟩
  · injection e with e1 e2 e3; exact .inl ⟨e1, List.eq_nil_of_length_eq_zero h0, e2, e3⟩
  · injection e with e1 e2 e3; exact .inr ⟨g, e1, hb, (Array.getElem?_eq_some_iff.1 hg).1⟩
theorem Slc.lt_ (h : Slc w base A n c xs) : ∀ k, (Value.slice A n c).ownBlock = some k → base ≤ k ∧ k < w.heap.size := h.2.lt_
theorem Slc.kept (h : Slc w base A n c xs) {row : Option Nat} (hg : w.grownBy w' row) (hne : (Value.slice A n c).ownBlock = none ∨ (Value.slice A n c).ownBlock ≠ row) : Slc w' base A n c xs := ⟨h.1, h.2.kept hg hne⟩
theorem Slc.below (h : Slc w base A n c xs) (hb : Below B w w') (hB : w.heap.size ≤ B) : Slc w' base A n c xs := ⟨h.1, h.2.below hb fun k e => by have := (h.lt_ k e).2; omega⟩
theorem Slc.below_lt (h : Slc w base A n c xs) (hb : Below B w w') (hB : ∀ k, (Value.slice A n c).ownBlock = some k → k < B) : Slc w' base A n c xs := ⟨h.1, h.2.below hb hB⟩
theorem Slc.mono (h : Slc w base A n c xs) {base' : Nat} (hb : base' ≤ base) : Slc w base' A n c xs := ⟨h.1, h.2.mono hb⟩
theorem Slc.alloc (h : Slc w base A n c xs) (o : Obj) : Slc (w.alloc o) base A n c xs := ⟨h.1, h.2.alloc o⟩
theorem Slc.drewN (h : Slc w base A n c xs) (k : Nat) : Slc (w.drewN k) base A n c xs := h
theorem Slc.nil_ : Slc w base none 0 0 [] := ⟨rfl, World.ownsRow_nil _ _ _ _⟩
end

/-- What the frame of a proof knows of a slice of int64 that came in, as RI. -/
theorem RI.of_row {w : World} {a : Option Addr} {len cap : Nat} {zs : List Int}
    (h : (a = none ∧ len = 0 ∧ cap = 0 ∧ zs = []) ∨ ∃ x, a = some x ∧ len ≤ cap ∧ cap ≤ maxLen ∧ zs.length = cap ∧ (∀ i, i < zs.length → w.cell? (x.add i) = some (.int .i64 (zs.getD i 0))) ∧ ∀ n ∈ zs, (Lit.int .i64 n).wf = true) :
    ∃ xs : List Int, Hid (xs.length = len) ∧ RI w w.heap.size a xs := by
  rcases h with ⟨rfl, rfl, rfl, rfl⟩ | ⟨⟨b, off, spot⟩, rfl, hl, hm, hz, hc, hw⟩
  · exact ⟨[], Lib.hid rfl, RI.nil_⟩
  · refine ⟨zs.take len, Lib.hid (by rw [List.length_take]; omega), fun hp => ?_⟩
    rw [List.length_take] at hp
    have h0 := hc 0 (by omega)
    have hspot : spot = none := by simpa [Addr.add] using World.cell?_spot h0
    subst hspot
    refine ⟨b, off, rfl, ?_, fun j hj => ?_⟩
    · have := World.block_lt_of_cell? w _ h0
      simpa [Addr.add] using this
    · rw [List.length_take] at hj
      rw [List.getD_eq_getElem?_getD, List.getElem?_take, if_pos (by omega), ← List.getD_eq_getElem?_getD, ← hc j (by omega)]
      unfold Addr.add
      split <;> simp_all

/-- A row at the head of block g, of length n, that holds the numbers xs. -/
def Row (w : World) (base g n c : Nat) (xs : List Int) : Prop := xs.length = n ∧ w.ownsRow base 2 1 (.slice (some ⟨g, 0, none⟩) n c) n (xs.map (Value.int .i64))
section
variable {w w' : World} {base g n c B : Nat} {xs : List Int}
theorem Row.own (h : Row w base g n c xs) : Own w base (.slice (some ⟨g, 0, none⟩) n c) xs := by
  obtain ⟨rfl, h⟩ := h; exact h
theorem Row.slc (h : Row w base g n c xs) : Slc w base (some ⟨g, 0, none⟩) n c xs := ⟨h.1, by obtain ⟨rfl, h⟩ := h; exact h⟩
theorem Row.of_own (h : Own w base (.slice (some ⟨g, 0, none⟩) n c) xs) : Row w base g n c xs := by
  obtain ⟨A, c', e, _⟩ := h.form
  injection e with _ e1
  subst e1
  exact ⟨rfl, h⟩
theorem Row.cell (h : Row w base g n c xs) {j : Nat} (hj : j < n) : w.cell? ⟨g, j, none⟩ = some (.int .i64 (xs.getD j 0)) := by
  have hl := h.1
  rw [h.2.cellAt j (by omega), List.getElem?_map, List.getD_eq_getElem?_getD, List.getElem?_eq_getElem (by omega)]; rfl
theorem Row.free (h : Row w base g n c xs) (j : Nat) : w.frozen? ⟨g, j, none⟩ = false := h.2.frozenAt j
theorem Row.store (h : Row w base g n c xs) (j : Nat) (u : Int) : Row (w.setCell ⟨g, j, none⟩ (.int .i64 u)) base g n c (xs.set j u) := by
  refine ⟨by rw [List.length_set]; exact h.1, ?_⟩
  rw [List.map_set]
  exact (h.2.stored j _).1
theorem Row.lt_ (h : Row w base g n c xs) : base ≤ g ∧ g < w.heap.size := World.ownsRow.lt h.2 g rfl
theorem Row.ri (h : Row w base g n c xs) (hB : g < B) : RI w B (some ⟨g, 0, none⟩) xs := fun _ => ⟨g, 0, rfl, hB, fun j hj => by rw [Nat.zero_add]; exact h.cell (by have := h.1; omega)⟩
theorem Row.kept (h : Row w base g n c xs) {row : Option Nat} (hg : w.grownBy w' row) (hne : some g ≠ row) : Row w' base g n c xs := ⟨h.1, World.ownsRow.kept h.2 hg (.inr hne)⟩
theorem Row.alloc (h : Row w base g n c xs) (o : Obj) : Row (w.alloc o) base g n c xs := ⟨h.1, World.ownsRow.alloc h.2 o⟩
theorem Row.drew (h : Row w base g n c xs) : Row w.drew base g n c xs := h
theorem Row.drewN (h : Row w base g n c xs) (k : Nat) : Row (w.drewN k) base g n c xs := h
theorem Row.below (h : Row w base g n c xs) (hb : Below B w w') (hg : g < B) : Row w' base g n c xs :=
  Row.of_own (h.own.below hb fun k e => by simp [Value.ownBlock] at e; omega)
theorem Row.mono (h : Row w base g n c xs) {base' : Nat} (hb : base' ≤ base) : Row w base' g n c xs := ⟨h.1, (Own.mono h.own hb).1.trans (by rw [h.1]), by have := (Own.mono h.own hb).2; rw [h.1] at this; exact this⟩
theorem Row.made (h : w.ownsRow base 2 1 (.slice (some ⟨g, 0, none⟩) n c) n (madeCells (Value.int .i64 0).cells (n * 1)).toList) : Row w base g n c (List.replicate n 0) := by
  refine ⟨by simp, ?_⟩
  have e : (madeCells (Value.int .i64 0).cells (n * 1)).toList = (List.replicate n (0 : Int)).map (Value.int .i64) := by
    show (madeCells #[Value.int .i64 0] (n * 1)).toList = _
    rw [toList_madeCells_one]; simp
  rw [← e]; exact h
end

/-- Where a slice's block may lie: from lo on, below hi. -/
def Lies (A : Option Addr) (n c lo hi : Nat) : Prop := ∀ k, (Value.slice A n c).ownBlock = some k → lo ≤ k ∧ k < hi
theorem Slc.lies {w : World} {base n c : Nat} {A : Option Addr} {xs : List Int} (h : Slc w base A n c xs) : Lies A n c base w.heap.size := h.lt_
theorem Lies.apart {A A' : Option Addr} {n c n' c' lo hi lo' hi' : Nat} (h : Lies A n c lo hi) (h' : Lies A' n' c' lo' hi') (hb : hi ≤ lo' ∨ hi' ≤ lo) :
    (Value.slice A n c).ownBlock = none ∨ (Value.slice A n c).ownBlock ≠ (Value.slice A' n' c').ownBlock := by
  rcases e : (Value.slice A n c).ownBlock with _ | k
  · exact .inl rfl
  · right
    intro e'
    have := h k e
    have := h' k e'.symm
    omega
theorem Slc.far {w w' : World} {base n c lo hi n' c' lo' hi' : Nat} {A A' : Option Addr} {xs : List Int} (h : Slc w base A n c xs) (hg : w.grownBy w' (Value.slice A' n' c').ownBlock)
    (l : Lies A n c lo hi) (l' : Lies A' n' c' lo' hi') (hb : hi ≤ lo' ∨ hi' ≤ lo) : Slc w' base A n c xs := h.kept hg (l.apart l' hb)
theorem below_mark {B : Nat} {w w' : World} {n c lo hi : Nat} {A : Option Addr} (hg : w.grownBy w' (Value.slice A n c).ownBlock) (l : Lies A n c lo hi) (hB : B ≤ lo) (hw : B ≤ w.heap.size) : Below B w w' :=
  (Below.refl B w).grown hg hw (fun k e => by have := l k e; omega)

/-- Block g is just the cells cs of type t, none frozen. -/
def Blk (w : World) (g : Nat) (t : TypeId) (cs : Array Value) : Prop := w.heap[g]? = some (.cells cs t (0, 0))
section
variable {w w' : World} {g : Nat} {t : TypeId} {cs : Array Value}
theorem Blk.lt (h : Blk w g t cs) : g < w.heap.size := by
  rcases Nat.lt_or_ge g w.heap.size with hlt | hge
  · exact hlt
  · unfold Blk at h; rw [Array.getElem?_eq_none hge] at h; cases h
theorem Blk.cell (h : Blk w g t cs) (i : Nat) : w.cell? ⟨g, i, none⟩ = cs[i]? := cell_of_row w g i cs t (0, 0) h
theorem Blk.frozen (h : Blk w g t cs) (i : Nat) : w.frozen? ⟨g, i, none⟩ = false := by
  unfold Blk at h
  simp [World.frozen?, h]
theorem Blk.new (w : World) (t : TypeId) (cs : Array Value) : Blk (w.alloc (.cells cs t)) w.heap.size t cs := heap_alloc_new w _
theorem Blk.drewN (h : Blk w g t cs) (n : Nat) : Blk (w.drewN n) g t cs := h
theorem Blk.alloc (h : Blk w g t cs) (o : Obj) : Blk (w.alloc o) g t cs := (Below.heap_alloc w o g h.lt).trans h
theorem Blk.set_ (h : Blk w g t cs) (i : Nat) (u : Value) : Blk (w.setCell ⟨g, i, none⟩ u) g t (cs.setIfInBounds i u) := by
  unfold Blk at h ⊢
  simp [World.setCell, Array.getElem?_modify, h]
theorem Blk.far (h : Blk w g t cs) {p : Addr} (hp : g ≠ p.block) (u : Value) : Blk (w.setCell p u) g t cs := (Below.heap_setCell w p u g hp).trans h
theorem Blk.below {B : Nat} (h : Blk w g t cs) (hb : Below B w w') (hg : g < B) : Blk w' g t cs := (hb.block g hg).trans h
theorem Blk.grown {row : Option Nat} (h : Blk w g t cs) (hb : w.grownBy w' row) (hg : some g ≠ row) : Blk w' g t cs := (hb.block g h.lt hg).trans h
end

theorem quiet_add {P : Program} {f : FuncId} {args : Array Value} {w : World} {a n : Nat} {v : Value}
    (h : Calls P f args (w.drewN (a + n)) fun e w' => e = .returned v ∧ ∃ m, w' = (w.drewN (a + n)).drewN m) :
    Calls P f args (w.drewN (a + n)) fun e w'' => e = .returned v ∧ ∃ m, w'' = w.drewN (a + m) :=
  h.mono fun _ _ ⟨he, m, hm⟩ => ⟨he, n + m, by rw [hm, World.drewN_drewN, Nat.add_assoc]⟩
theorem quiet_add_left {P : Program} {f : FuncId} {args : Array Value} {w : World} {a n : Nat} {v : Value}
    (h : Calls P f args (w.drewN (a + n)) fun e w' => e = .returned v ∧ w.drewN (a + n) = w') :
    Calls P f args (w.drewN (a + n)) fun e w'' => e = .returned v ∧ ∃ m, w'' = w.drewN (a + m) :=
  h.mono fun _ _ ⟨he, hm⟩ => ⟨he, n, hm.symm⟩
theorem quiet_left {P : Program} {f : FuncId} {args : Array Value} {w : World} {n : Nat} {v : Value}
    (h : Calls P f args (w.drewN n) fun e w' => e = .returned v ∧ w.drewN n = w') : Calls P f args (w.drewN n) fun e w'' => e = .returned v ∧ ∃ m, w'' = w.drewN m :=
  h.mono fun _ _ ⟨he, hm⟩ => ⟨he, n, hm.symm⟩
theorem btr {a b c : World} (h : Below a.heap.size a b) (k : Below b.heap.size b c) : Below a.heap.size a c := h.trans (k.mono h.size)
theorem quiet_below {P : Program} {f : FuncId} {args : Array Value} {w : World} {e0 : Ending}
    (h : Calls P f args w fun e w' => e = e0 ∧ ∃ m, w' = w.drewN m) : Calls P f args w fun e w' => e = e0 ∧ Below w.heap.size w w' :=
  h.mono fun _ _ ⟨he, m, hm⟩ => ⟨he, by rw [hm]; exact ⟨rfl, rfl, rfl, Nat.le_refl _, fun _ _ => rfl⟩⟩
/-- What came in still reads so behind the call. -/
theorem RI.up {w w' : World} {A : Option Addr} {xs : List Int} (h : RI w w.heap.size A xs) (hb : Below w.heap.size w w') : RI w' w'.heap.size A xs := (h.below hb (Nat.le_refl _)).more hb.size
theorem Slc.up {w w' : World} {base n c : Nat} {A : Option Addr} {xs : List Int} (h : Slc w base A n c xs) (hb : Below w.heap.size w w') : Slc w' base A n c xs := h.below hb (Nat.le_refl _)
theorem Slc.ri_ {w : World} {base n c : Nat} {A : Option Addr} {xs : List Int} (h : Slc w base A n c xs) : RI w w.heap.size A xs := h.ri (Nat.le_refl _)
theorem infoI : (Tryz.prog.info? 2).map (fun i => (i.zero, i.size, i.bytes)) = some (some (.int .i64 0), 1, 8) := by kernel_rfl

/-- append of one number onto a slice of the call's own. -/
theorem wpList_app1 {w : World} {ops : Array Oper} {rest : List Oper} {o : Oper} {a : Act} {Q : Exit → Act → World → Prop} (hgd : o.guard = none) (s x : Operand)
    (ho : o.op = .call { callee := .builtin .append, args := #[s, x], argTypes := #[37, 37] })
    (base : Nat) (A : Option Addr) (n c : Nat) (xs : List Int) (hs : a.eval s = .slice A n c) (hown : Slc w base A n c xs) (g : Nat) (u : Int) (hx : a.eval x = .slice (some ⟨g, 0, none⟩) 1 1)
    (hcell : w.cell? ⟨g, 0, none⟩ = some (.int .i64 u)) (hn : n ≤ 1000000000000) (hbase : base ≤ w.heap.size)
    (h : ∀ A' c' w', Slc w' base A' (n + 1) c' (xs ++ [u]) → w.grownBy w' (Value.slice A n c).ownBlock → wpList Tryz.prog ops Q rest (a.put o.dst (.slice A' (n + 1) c')) w') : wpList Tryz.prog ops Q (o :: rest) a w := by
  obtain ⟨i0, hi, hz0, hz1, hz2⟩ := info_parts infoI
  obtain ⟨hl, ho'⟩ := hown
  subst hl
  refine wpList_append_own w hgd s x 37 ho base 2 i0 (.int .i64 0) 1 8 Tryz.underlying37 hi hz0 hz1 hz2 rfl (by decide) _ xs.length _ hs ho' ⟨g, 0, none⟩ 1 1 [.int .i64 u] hx rfl ?_ ?_ ?_ (by omega) hbase ?_
  · intro j v hj
    match j, hj with
    | 0, hj => simp at hj; subst hj; simpa [Addr.add] using hcell
    | j + 1, hj => simp at hj
  · intro v hv; simp at hv; subst hv; rfl
  · unfold maxLen; omega
  · intro v' w' hown' hg _
    have hO : Own w' base v' (xs ++ [u]) := by
      unfold Own
      rw [List.length_append, List.map_append]
      exact hown'
    obtain ⟨A', c', rfl, hS⟩ := Slc.of_own (n := xs.length + 1) hO (by simp)
    exact h A' c' w' hS hg

def marks (k n : Nat) : List Int := (List.range n).map fun i => ((k + i : Nat) : Int)
theorem marks_length (k n : Nat) : (marks k n).length = n := by simp [marks]
theorem marks_getD {k n j : Nat} (h : j < n) : (marks k n).getD j 0 = ((k + j : Nat) : Int) := by
  rw [List.getD_eq_getElem?_getD, List.getElem?_eq_getElem (by simp [marks, h])]; simp [marks]
theorem ext_getD {xs ys : List Int} {n : Nat} (hx : xs.length = n) (hy : ys.length = n) (h : ∀ j, j < n → xs.getD j 0 = ys.getD j 0) : xs = ys := by
  apply List.ext_getElem (by omega)
  intro i h1 h2
  have := h i (by omega)
  simp only [List.getD_eq_getElem?_getD, List.getElem?_eq_getElem h1, List.getElem?_eq_getElem h2, Option.getD_some] at this
  exact this
theorem set_getD {xs : List Int} {n i j : Nat} (hl : xs.length = n) (hj : j < n) (u : Int) : (xs.set i u).getD j 0 = if i = j then u else xs.getD j 0 := by
  rw [List.getD_eq_getElem?_getD, List.getElem?_set]
  by_cases e : i = j
  · subst e; rw [if_pos rfl, if_pos (by omega), if_pos rfl]; rfl
  · rw [if_neg e, if_neg e, ← List.getD_eq_getElem?_getD]
theorem grown_refl (w : World) (row : Option Nat) : w.grownBy w row := ⟨rfl, rfl, rfl, Nat.le_refl _, fun _ _ _ => rfl⟩
theorem grown_set {a w : World} {g : Nat} (h : a.grownBy w (some g)) (j : Nat) (u : Value) : a.grownBy (w.setCell ⟨g, j, none⟩ u) (some g) :=
  ⟨h.os, h.tape, h.output, by simpa [World.setCell] using h.size, fun i hi hne => (Below.heap_setCell w ⟨g, j, none⟩ u i (fun e => hne (by rw [e]))).trans (h.block i hi hne)⟩
theorem grown_drewN {a w : World} {row : Option Nat} (h : a.grownBy w row) (n : Nat) : a.grownBy (w.drewN n) row := ⟨h.os, h.tape, h.output, h.size, h.block⟩
theorem below_of_grown {B : Nat} {w w' : World} {row : Option Nat} (h : w.grownBy w' row) (hB : B ≤ w.heap.size) (hr : ∀ k, row = some k → B ≤ k) : Below B w w' := (Below.refl B w).grown h hB hr

/-- '[]int64{}': a new empty row. -/
theorem Slc.lit0 (w : World) (base : Nat) (hb : base ≤ w.heap.size) : Slc (w.alloc (.cells #[] 2)) base (some ⟨w.heap.size, 0, none⟩) 0 0 [] :=
  ⟨rfl, World.ownsRow_lit (size := 1) w #[] 0 hb (Nat.zero_le _) rfl⟩
theorem Slc.lit1 (w : World) (base : Nat) (x : Int) (hb : base ≤ w.heap.size) : Slc (w.alloc (.cells #[.int .i64 x] 2)) base (some ⟨w.heap.size, 0, none⟩) 1 1 [x] :=
  ⟨rfl, World.ownsRow_lit (size := 1) w #[.int .i64 x] 1 hb (by unfold maxLen; omega) rfl⟩
theorem getD_eq {xs : List Int} {j : Nat} (hj : j < xs.length) : xs.getD j 0 = xs[j] := by rw [List.getD_eq_getElem?_getD, List.getElem?_eq_getElem hj]; rfl
theorem below_drewN {B : Nat} {a w : World} (h : Below B a w) (n : Nat) : Below B a (w.drewN n) := ⟨h.os, h.tape, h.output, h.size, h.block⟩
theorem below_quiet (w : World) (n : Nat) : Below w.heap.size w (w.drewN n) := ⟨rfl, rfl, rfl, Nat.le_refl _, fun _ _ => rfl⟩
theorem ret_int {k : IntKind} {a b : Int} (h : a = b) : Ending.returned (.int k a) = .returned (.int k b) := by rw [h]
theorem ret_bool {a b : Bool} (h : a = b) : Ending.returned (.bool a) = .returned (.bool b) := by rw [h]
end Go.Proofs.YtedfcljikgmpgaaGreat

/- The helpers of the laws: copy, comparison, marking. No condition but lengths. -/
namespace Go.Proofs.YtedfcljikgmpgaaGreat
open Go.RowKit


set_option maxHeartbeats 400000 in
theorem likeI_core (A B : Option Addr) (c d n : Nat) (xs ys : List Int) (w : World) (hx : RI w w.heap.size A xs) (hy : RI w w.heap.size B ys) (lx : Hid (xs.length = n)) (ly : Hid (ys.length = n)) (hn : n ≤ 2097152) :
    Calls Tryz.prog 25 #[.slice A n c, .slice B n d] w fun e w' => e = .returned (.bool (decide (xs = ys))) ∧ ∃ m, w' = w.drewN m := by
  go_enter Tryz.func25, Tryz.ntmps25
  go_wp2
  go_loopw [5] (fun i wr => ∃ k : Nat, k ≤ n ∧ i = .int .i64 k ∧ (∀ j, j < k → xs.getD j 0 = ys.getD j 0) ∧ ∃ m, wr = w.drewN m) (fun i _ => n - (intOf i).toNat)
  case atStart => exact ⟨0, Nat.zero_le _, rfl, fun j h => absurd h (by omega), 0, rfl⟩
  case round =>
    obtain ⟨k, hk, rfl, heq, m, rfl⟩ := hrel
    have Heq := Lib.hid heq
    clear heq
    by_cases hlt : k < n
    · obtain ⟨b, off, rfl, hb, hc⟩ := hx (by rw [lx.out]; omega)
      obtain ⟨b', off', rfl, hb', hc'⟩ := hy (by rw [ly.out]; omega)
      have c1 := hc k (by rw [lx.out]; omega)
      have c2 := hc' k (by rw [ly.out]; omega)
      obtain ⟨x, ex⟩ : ∃ x, xs.getD k 0 = x := ⟨_, rfl⟩
      obtain ⟨y, ey⟩ : ∃ y, ys.getD k 0 = y := ⟨_, rfl⟩
      rw [ex] at c1
      rw [ey] at c2
      have Ex := Lib.hid ex
      have Ey := Lib.hid ey
      clear ex ey hc hc' hx hy
      have p1 : (0 : Int) ≤ k := by omega
      have p2 : (k : Int) < n := by omega
      by_cases hxy : x = y
      · subst hxy
        go_wp2
        go_quiet (fail)
        go_wp2
        go_roundw
        case rel => exact ⟨k + 1, by omega, by go_num, fun j hj => by
          by_cases e : j = k
          · subst e; rw [Ex.out, Ey.out]
          · exact Heq.out j (by omega), _, rfl⟩
        case measure => simp [intOf]; omega
      · have hd : (x != y) = true := by simpa using hxy
        have hd' : (x == y) = false := by simpa using hxy
        go_wp2
        go_quiet (fail)
        go_wp2
        go_ret
        refine ⟨ret_bool (Eq.symm (decide_eq_false fun e => hxy ?_)), _, World.drewN_drewN _ _ _⟩
        rw [← Ex.out, ← Ey.out, e]
    · go_wp2
      go_ret
      have : k = n := by omega
      subst this
      exact ⟨ret_bool (Eq.symm (decide_eq_true (ext_getD lx.out ly.out Heq.out))), _, rfl⟩

/-- likeInts compares two lists. -/
theorem likeI_any (A B : Option Addr) (c d n m : Nat) (xs ys : List Int) (w : World) (hx : RI w w.heap.size A xs) (hy : RI w w.heap.size B ys) (lx : Hid (xs.length = n)) (ly : Hid (ys.length = m)) (hn : n ≤ 2097152) (hm : m ≤ 2097152) :
    Calls Tryz.prog 25 #[.slice A n c, .slice B m d] w fun e w' => e = .returned (.bool (decide (xs = ys))) ∧ ∃ m, w' = w.drewN m := by
  by_cases hl : n = m
  · subst hl
    exact likeI_core A B c d n xs ys w hx hy lx ly hn
  · have hd : ((n : Int) != (m : Int)) = true := by rw [bne_iff_ne]; omega
    have hd' : ((n : Int) == (m : Int)) = false := by rw [beq_eq_false_iff_ne]; omega
    go_enter Tryz.func25, Tryz.ntmps25
    go_wp2
    go_ret
    refine ⟨ret_bool (Eq.symm (decide_eq_false fun e => hl ?_)), 0, rfl⟩
    rw [← lx.out, ← ly.out, e]






end Go.Proofs.YtedfcljikgmpgaaGreat

/- Plain facts on permutations as lists of numbers: iterates, periods, cycles, orders. No Go in it. No condition. -/
namespace Go.Proofs.YtedfcljikgmpgaaGreat

theorem ndlen : ∀ (n : Nat) (l : List Nat), l.Nodup → (∀ x ∈ l, x < n) → l.length ≤ n := by
  intro n
  induction n with
  | zero =>
    intro l _ h
    cases l with
    | nil => simp
    | cons a t => exact absurd (h a (by simp)) (by omega)
  | succ n ih =>
    intro l hd h
    have h1 : (l.filter (fun x => x != n)).length ≤ n := by
      refine ih _ (hd.filter _) ?_
      intro x hx
      rw [List.mem_filter] at hx
      have := h x hx.1
      have h2 : x ≠ n := by simpa using hx.2
      omega
    have h2 : l.length ≤ (l.filter (fun x => x != n)).length + 1 := by
      clear ih h h1
      induction l with
      | nil => simp
      | cons a t iht =>
        rw [List.nodup_cons] at hd
        by_cases ha : a = n
        · subst ha
          have : t.filter (fun x => x != a) = t := by
            rw [List.filter_eq_self]
            intro x hx
            have : x ≠ a := fun e => hd.1 (e ▸ hx)
            simpa using this
          simp [this]
        · have := iht hd.2
          simp [ha]; omega
    omega

/-- The point that follows i. -/
def nx (p : List Int) (i : Nat) : Nat := (p.getD i 0).toNat

structure IsP (p : List Int) : Prop where
  pos : 1 ≤ p.length
  le : p.length ≤ 20
  lo : ∀ i, i < p.length → 0 ≤ p.getD i 0
  hi : ∀ i, i < p.length → p.getD i 0 < p.length
  inj : ∀ i j, i < p.length → j < p.length → p.getD i 0 = p.getD j 0 → i = j

def it (p : List Int) : Nat → Nat → Nat
  | 0, x => x
  | k + 1, x => nx p (it p k x)

section
variable {p : List Int} (h : IsP p)
include h

theorem nx_lt {x : Nat} (hx : x < p.length) : nx p x < p.length := by
  have := h.hi x hx; have := h.lo x hx; unfold nx; omega
theorem nx_val {x : Nat} (hx : x < p.length) : p.getD x 0 = (nx p x : Int) := by
  have := h.lo x hx; unfold nx; omega
theorem nx_inj {x y : Nat} (hx : x < p.length) (hy : y < p.length) (e : nx p x = nx p y) : x = y :=
  h.inj x y hx hy (by rw [nx_val h hx, nx_val h hy, e])
theorem it_lt {x : Nat} (hx : x < p.length) (k : Nat) : it p k x < p.length := by
  induction k with
  | zero => exact hx
  | succ k ih => exact nx_lt h ih
theorem it_inj {x y : Nat} (hx : x < p.length) (hy : y < p.length) (k : Nat) (e : it p k x = it p k y) : x = y := by
  induction k with
  | zero => exact e
  | succ k ih => exact ih (nx_inj h (it_lt h hx k) (it_lt h hy k) e)
end

theorem it_add (p : List Int) (a b x : Nat) : it p (a + b) x = it p a (it p b x) := by
  induction a with
  | zero => simp [it]
  | succ a ih => rw [Nat.succ_add]; simp [it, ih]
theorem it_comm (p : List Int) (a b x : Nat) : it p a (it p b x) = it p b (it p a x) := by
  rw [← it_add, ← it_add, Nat.add_comm]

theorem ret_ex {p : List Int} (h : IsP p) {x : Nat} (hx : x < p.length) : ∃ k, 1 ≤ k ∧ k ≤ p.length ∧ it p k x = x := by
  refine Classical.byContradiction fun hne => ?_
  have hne' : ∀ k, 1 ≤ k → k ≤ p.length → it p k x ≠ x := fun k h1 h2 e => hne ⟨k, h1, h2, e⟩
  have key : ((List.range (p.length + 1)).map fun k => it p k x).Nodup := by
    rw [List.Nodup, List.pairwise_map]
    rw [List.pairwise_iff_getElem]
    intro i j hi hj hij e
    simp only [List.length_range] at hi hj
    simp only [List.getElem_range] at e
    have e2 : it p i (it p (j - i) x) = it p i x := by rw [← it_add]; rw [e]; congr 1; omega
    exact hne' (j - i) (by omega) (by omega) (it_inj h (it_lt h hx _) hx i e2)
  have := ndlen p.length _ key (by intro y hy; simp only [List.mem_map] at hy; obtain ⟨k, _, rfl⟩ := hy; exact it_lt h hx k)
  rw [List.length_map, List.length_range] at this
  omega

def per (p : List Int) (x : Nat) : Nat := ((List.range' 1 p.length).find? (fun k => it p k x == x)).getD 1

theorem per_spec {p : List Int} (h : IsP p) {x : Nat} (hx : x < p.length) :
    1 ≤ per p x ∧ per p x ≤ p.length ∧ it p (per p x) x = x ∧ ∀ k, 1 ≤ k → k < per p x → it p k x ≠ x := by
  obtain ⟨k0, h1, h2, h3⟩ := ret_ex h hx
  have hsome : ((List.range' 1 p.length).find? (fun k => it p k x == x)).isSome := by
    rw [List.find?_isSome]
    exact ⟨k0, by rw [List.mem_range'_1]; omega, by simpa using h3⟩
  obtain ⟨m, hm⟩ := Option.isSome_iff_exists.1 hsome
  have hp : per p x = m := by unfold per; rw [hm]; rfl
  rw [hp]
  have hmem := List.mem_of_find?_eq_some hm
  have hval := List.find?_some hm
  rw [List.mem_range'_1] at hmem
  refine ⟨hmem.1, by omega, by simpa using hval, ?_⟩
  intro k hk1 hk2 e
  rw [List.find?_eq_some_iff_getElem] at hm
  obtain ⟨_, i, hi, hget, hbef⟩ := hm
  rw [List.getElem_range'] at hget
  simp at hget
  have := hbef (k - 1) (by omega)
  rw [List.getElem_range'] at this
  simp at this
  apply this
  rw [show 1 + (k - 1) = k from by omega]; exact e

theorem it_mod {p : List Int} (h : IsP p) {x : Nat} (hx : x < p.length) (k : Nat) : it p k x = it p (k % per p x) x := by
  obtain ⟨h1, _, h3, _⟩ := per_spec h hx
  have hmul : ∀ q, it p (q * per p x) x = x := by
    intro q
    induction q with
    | zero => simp [it]
    | succ q ih => rw [Nat.succ_mul, it_add, h3, ih]
  have := Nat.div_add_mod k (per p x)
  rw [Nat.mul_comm] at this
  calc it p k x = it p (k % per p x + k / per p x * per p x) x := by rw [Nat.add_comm, this]
    _ = _ := by rw [it_add, hmul]

theorem it_eq_iff {p : List Int} (h : IsP p) {x : Nat} (hx : x < p.length) (k : Nat) : it p k x = x ↔ k % per p x = 0 := by
  obtain ⟨h1, _, h3, h4⟩ := per_spec h hx
  rw [it_mod h hx k]
  constructor
  · intro e
    refine Classical.byContradiction fun hne => ?_
    exact h4 (k % per p x) (by omega) (Nat.mod_lt _ (by omega)) e
  · intro e; rw [e]; rfl

/-- Points of one cycle have one period. -/
theorem per_it {p : List Int} (h : IsP p) {x : Nat} (hx : x < p.length) (k : Nat) : per p (it p k x) = per p x := by
  have hy := it_lt h hx k
  have key : ∀ m, it p m (it p k x) = it p k x ↔ it p m x = x := fun m => by
    rw [it_comm]
    exact ⟨fun e => it_inj h (it_lt h hx m) hx k e, fun e => by rw [e]⟩
  obtain ⟨a1, _, a3, a4⟩ := per_spec h hx
  obtain ⟨b1, _, b3, b4⟩ := per_spec h hy
  rcases Nat.lt_trichotomy (per p (it p k x)) (per p x) with hlt | heq | hgt
  · exact absurd ((key _).1 b3) (a4 _ b1 hlt)
  · exact heq
  · exact absurd ((key _).2 a3) (b4 _ a1 hgt)

/-- The points that follow x, x first. -/
def cyc (p : List Int) (x : Nat) : List Int := (List.range (per p x)).map fun k => (it p k x : Int)
/-- x is the smallest point of its cycle. -/
def st (p : List Int) (x : Nat) : Bool := (List.range (per p x)).all fun k => decide (x ≤ it p k x)
def cycs (p : List Int) : List (List Int) := ((List.range p.length).filter (st p)).map (cyc p)

theorem cyc_length (p : List Int) (x : Nat) : (cyc p x).length = per p x := by simp [cyc]


instance (p : List Int) : Decidable (∀ i j, i < p.length → j < p.length → p.getD i 0 = p.getD j 0 → i = j) :=
  decidable_of_iff (∀ i, i < p.length → ∀ j, j < p.length → p.getD i 0 = p.getD j 0 → i = j) ⟨fun h i j a b c => h i a j b c, fun h i a j b c => h i j a b c⟩

def isP (p : List Int) : Bool :=
  decide (1 ≤ p.length) && decide (p.length ≤ 20) && decide (∀ i, i < p.length → 0 ≤ p.getD i 0) && decide (∀ i, i < p.length → p.getD i 0 < p.length) &&
    decide (∀ i, i < p.length → ∀ j, j < p.length → p.getD i 0 = p.getD j 0 → i = j)
theorem isP_iff {p : List Int} : isP p = true ↔ IsP p := by
  unfold isP
  simp only [Bool.and_eq_true, decide_eq_true_eq]
  constructor
  · rintro ⟨⟨⟨⟨a, b⟩, c⟩, d⟩, e⟩
    exact ⟨a, b, c, d, fun i j hi hj => e i hi j hj⟩
  · rintro ⟨a, b, c, d, e⟩
    exact ⟨⟨⟨⟨a, b⟩, c⟩, d⟩, fun i hi j hj => e i j hi hj⟩

/-- The first k entries are in range and differ from one another. -/
def okTo (p : List Int) (k : Nat) : Prop :=
  (∀ i, i < k → 0 ≤ p.getD i 0 ∧ p.getD i 0 < p.length) ∧ ∀ i j, i < j → j < k → p.getD i 0 ≠ p.getD j 0
theorem okTo_zero (p : List Int) : okTo p 0 := ⟨fun i h => absurd h (by omega), fun i j _ h => absurd h (by omega)⟩
theorem okTo_succ {p : List Int} {k : Nat} (h : okTo p k) (h0 : 0 ≤ p.getD k 0) (h1 : p.getD k 0 < p.length) (h2 : ∀ i, i < k → p.getD i 0 ≠ p.getD k 0) : okTo p (k + 1) := by
  refine ⟨fun i hi => ?_, fun i j hij hj => ?_⟩
  · by_cases e : i = k
    · subst e; exact ⟨h0, h1⟩
    · exact h.1 i (by omega)
  · by_cases e : j = k
    · subst e; exact h2 i hij
    · exact h.2 i j hij (by omega)
theorem isP_of_ok {p : List Int} (a : 1 ≤ p.length) (b : p.length ≤ 20) (h : okTo p p.length) : isP p = true := by
  rw [isP_iff]
  refine ⟨a, b, fun i hi => (h.1 i hi).1, fun i hi => (h.1 i hi).2, fun i j hi hj e => ?_⟩
  rcases Nat.lt_trichotomy i j with hl | he | hg
  · exact absurd e (h.2 i j hl hj)
  · exact he
  · exact absurd e.symm (h.2 j i hg hi)
theorem isP_no_range {p : List Int} {k : Nat} (hk : k < p.length) (h : p.getD k 0 < 0 ∨ (p.length : Int) ≤ p.getD k 0) : isP p = false := by
  rw [Bool.eq_false_iff]
  intro e
  rw [isP_iff] at e
  have := e.lo k hk
  have := e.hi k hk
  omega
theorem isP_no_twice {p : List Int} {i k : Nat} (hk : k < p.length) (hi : i < k) (h : p.getD i 0 = p.getD k 0) : isP p = false := by
  rw [Bool.eq_false_iff]
  intro e
  rw [isP_iff] at e
  have := e.inj i k (by omega) hk h
  omega
theorem isP_no_len {p : List Int} (h : p.length < 1 ∨ 20 < p.length) : isP p = false := by
  rw [Bool.eq_false_iff]
  intro e
  rw [isP_iff] at e
  have := e.pos
  have := e.le
  omega

def idL (n : Nat) : List Int := (List.range n).map Int.ofNat
def compL (p q : List Int) : List Int := p.map fun x => q.getD x.toNat 0
def invL (p : List Int) : Nat → List Int
  | 0 => List.replicate p.length 0
  | k + 1 => (invL p k).set (p.getD k 0).toNat k
def powL (p : List Int) (k : Int) : List Int := (List.range p.length).map fun i => (it p (k % (per p i : Int)).toNat i : Int)
def lcmL (l : List Nat) : Nat := l.foldl Nat.lcm 1
def ordL (p : List Int) : Nat := lcmL ((List.range p.length).map (per p))
def cycl (p : List Int) : List (List Int) := (cycs p).filter fun c => decide (1 < c.length)
def sgn (p : List Int) : Int := if (p.length - (cycs p).length) % 2 = 0 then 1 else -1
def supp (p : List Int) : List Int := ((List.range p.length).filter fun i => p.getD i 0 != (i : Int)).map Int.ofNat
/-- p comes first: the first entry that differs is smaller. -/
def lessL : List Int → List Int → Bool
  | a :: p, b :: q => if a = b then lessL p q else decide (a < b)
  | _, _ => false

theorem foldl_lcm (l : List Nat) (a : Nat) : l.foldl Nat.lcm a = Nat.lcm a (lcmL l) := by
  unfold lcmL
  induction l generalizing a with
  | nil => simp
  | cons b t ih => simp only [List.foldl_cons]; rw [ih, ih (Nat.lcm 1 b), Nat.lcm_one_left, Nat.lcm_assoc]
theorem lcmL_snoc (l : List Nat) (a : Nat) : lcmL (l ++ [a]) = Nat.lcm (lcmL l) a := by simp [lcmL]
theorem dvd_lcmL {l : List Nat} {a : Nat} (h : a ∈ l) : a ∣ lcmL l := by
  induction l with
  | nil => cases h
  | cons b t ih =>
    have : lcmL (b :: t) = Nat.lcm b (lcmL t) := by unfold lcmL; simp only [List.foldl_cons]; rw [foldl_lcm, Nat.lcm_one_left]; rfl
    rw [this]
    rcases List.mem_cons.1 h with rfl | h
    · exact Nat.dvd_lcm_left _ _
    · exact Nat.dvd_trans (ih h) (Nat.dvd_lcm_right _ _)
theorem lcmL_dvd {l : List Nat} {m : Nat} (h : ∀ a ∈ l, a ∣ m) : lcmL l ∣ m := by
  induction l with
  | nil => simp [lcmL]
  | cons b t ih =>
    have : lcmL (b :: t) = Nat.lcm b (lcmL t) := by unfold lcmL; simp only [List.foldl_cons]; rw [foldl_lcm, Nat.lcm_one_left]; rfl
    rw [this]
    exact Nat.lcm_dvd (h b (by simp)) (ih fun a ha => h a (by simp [ha]))
theorem lcmL_pos {l : List Nat} (h : ∀ a ∈ l, 1 ≤ a ∧ a ≤ 20) : 1 ≤ lcmL l ∧ lcmL l ≤ 232792560 := by
  have hd : lcmL l ∣ 232792560 := lcmL_dvd fun a ha => by
    obtain ⟨h1, h2⟩ := h a ha
    have : ∀ a : Fin 21, 1 ≤ a.val → a.val ∣ 232792560 := by decide
    exact this ⟨a, by omega⟩ h1
  have hle := Nat.le_of_dvd (by decide) hd
  refine ⟨?_, hle⟩
  rcases Nat.eq_zero_or_pos (lcmL l) with e | e
  · rw [e] at hd; exact absurd (Nat.eq_zero_of_zero_dvd hd) (by decide)
  · exact e

/-- Every point lies in the cycle of a smallest point. -/
theorem min_ex {p : List Int} (h : IsP p) {x : Nat} (hx : x < p.length) : ∃ c j, c < p.length ∧ st p c = true ∧ j < per p c ∧ it p j c = x := by
  obtain ⟨h1, h2, h3, h4⟩ := per_spec h hx
  have hmin : ∀ m, 1 ≤ m → m ≤ per p x → ∃ i, i < m ∧ ∀ j, j < m → it p i x ≤ it p j x := by
    intro m
    induction m with
    | zero => omega
    | succ m ih =>
      intro _ hm
      by_cases h0 : m = 0
      · subst h0; exact ⟨0, by omega, fun j hj => by rw [show j = 0 from by omega]; exact Nat.le_refl _⟩
      · obtain ⟨i, hi, hle⟩ := ih (by omega) (by omega)
        by_cases hc : it p i x ≤ it p m x
        · exact ⟨i, by omega, fun j hj => by
            by_cases e : j = m
            · subst e; exact hc
            · exact hle j (by omega)⟩
        · exact ⟨m, by omega, fun j hj => by
            by_cases e : j = m
            · subst e; exact Nat.le_refl _
            · have := hle j (by omega); omega⟩
  obtain ⟨i, hi, hle⟩ := hmin (per p x) h1 (Nat.le_refl _)
  have hpc := per_it h hx i
  refine ⟨it p i x, per p x - i - (if i = 0 then per p x else 0), it_lt h hx i, ?_, ?_, ?_⟩
  · unfold st
    rw [List.all_eq_true]
    intro k hk
    rw [List.mem_range, hpc] at hk
    rw [decide_eq_true_eq, ← it_add, it_mod h hx (k + i)]
    exact hle _ (Nat.mod_lt _ (by omega))
  · rw [hpc]; split <;> omega
  · by_cases e : i = 0
    · subst e; simp [it]
    · rw [if_neg e, ← it_add, show per p x - i - 0 + i = per p x from by omega, h3]

theorem mem_cycs_per {p : List Int} (h : IsP p) : ordL p = lcmL ((cycs p).map List.length) := by
  have hl : (cycs p).map List.length = ((List.range p.length).filter (st p)).map (per p) := by
    unfold cycs; rw [List.map_map]; congr 1; funext x; simp [cyc_length]
  rw [hl]
  apply Nat.dvd_antisymm
  · refine lcmL_dvd fun a ha => ?_
    rw [List.mem_map] at ha
    obtain ⟨x, hx, rfl⟩ := ha
    rw [List.mem_range] at hx
    obtain ⟨c, j, hc, hst, hj, e⟩ := min_ex h hx
    rw [← e, per_it h hc]
    exact dvd_lcmL (List.mem_map.2 ⟨c, List.mem_filter.2 ⟨List.mem_range.2 hc, hst⟩, rfl⟩)
  · refine lcmL_dvd fun a ha => ?_
    rw [List.mem_map] at ha
    obtain ⟨x, hx, rfl⟩ := ha
    exact dvd_lcmL (List.mem_map.2 ⟨x, (List.mem_filter.1 hx).1, rfl⟩)

end Go.Proofs.YtedfcljikgmpgaaGreat

/- IsPermutation, of the program and of the model: both answer whether the list is a permutation. Condition: at most 2097152 entries. -/
namespace Go.Proofs.YtedfcljikgmpgaaGreat
open Go.RowKit

def seenB (xs : List Int) (k y : Nat) : Bool := (List.range k).any fun j => xs.getD j 0 == (y : Int)
theorem seenB_zero (xs : List Int) (y : Nat) : seenB xs 0 y = false := rfl
theorem seenB_succ (xs : List Int) (k y x : Nat) (h : xs.getD k 0 = (x : Int)) : seenB xs (k + 1) y = (seenB xs k y || decide (x = y)) := by
  unfold seenB
  rw [List.range_succ, List.any_append]
  simp only [List.any_cons, List.any_nil, Bool.or_false, h]
  congr 1
  rw [Bool.eq_iff_iff]; simp; omega
theorem seenB_true {xs : List Int} {k y : Nat} (h : seenB xs k y = true) : ∃ j, j < k ∧ xs.getD j 0 = (y : Int) := by
  unfold seenB at h
  rw [List.any_eq_true] at h
  obtain ⟨j, hj, e⟩ := h
  exact ⟨j, List.mem_range.1 hj, by simpa using e⟩
theorem seenB_false {xs : List Int} {k y : Nat} (h : seenB xs k y = false) : ∀ j, j < k → xs.getD j 0 ≠ (y : Int) := by
  intro j hj e
  unfold seenB at h
  rw [List.any_eq_false] at h
  exact h j (List.mem_range.2 hj) (by simpa using e)
def Seen (xs : List Int) (k : Nat) (cs : Array Value) : Prop := cs.size = 20 ∧ ∀ y, y < 20 → cs[y]? = some (.bool (seenB xs k y))
theorem Seen.start (xs : List Int) : Seen xs 0 (List.replicate 20 (Value.bool false)).toArray := ⟨by simp, fun y hy => by
  rw [seenB_zero, List.getElem?_toArray, List.getElem?_replicate, if_pos hy]⟩
theorem Seen.next {xs : List Int} {k x : Nat} {cs : Array Value} (h : Seen xs k cs) (hx : xs.getD k 0 = (x : Int)) (hlt : x < 20) : Seen xs (k + 1) (cs.setIfInBounds x (.bool true)) := by
  refine ⟨by simpa using h.1, fun y hy => ?_⟩
  rw [seenB_succ xs k y x hx, Array.getElem?_setIfInBounds]
  by_cases e : x = y
  · subst e; rw [if_pos rfl, if_pos (by rw [h.1]; exact hlt)]; simp
  · rw [if_neg e, h.2 y hy]; simp [e]

set_option maxHeartbeats 400000 in
theorem implIsP_core (A : Option Addr) (c n : Nat) (xs : List Int) (w : World) (hx : RI w w.heap.size A xs) (lx : Hid (xs.length = n)) (hn1 : 1 ≤ n) (hn : n ≤ 20) :
    Calls Tryz.prog 34 #[.slice A n c] w fun e w' => e = .returned (.bool (isP xs)) ∧ Below w.heap.size w w' := by
  have d1 : decide ((n : Int) < 1) = false := by simp; omega
  have d2 : decide ((20 : Int) < n) = false := by simp; omega
  go_enter Tryz.func34, Tryz.ntmps34
  go_wp2
  go_loopw [5, 16] (fun _ i wr => ∃ k cs, k ≤ n ∧ i = .int .i64 (k : Nat) ∧ Blk wr w.heap.size 69 cs ∧ Seen xs k cs ∧ okTo xs k ∧ Below w.heap.size w wr) (fun _ i _ => n - (intOf i).toNat)
  case atStart => exact ⟨0, _, Nat.zero_le _, rfl, Blk.new _ _ _, Seen.start xs, okTo_zero _, (Below.refl _ _).alloc (Nat.le_refl _) _⟩
  case round =>
    clear d1 d2
    obtain ⟨k, cs, hk, rfl, blk, seen, ok, bel⟩ := hrel
    by_cases hlt : k < n
    · obtain ⟨b, off, rfl, hb, hc⟩ := hx (by rw [lx.out]; omega)
      have c1 := (bel.cell (p := ⟨b, off + k, none⟩) hb).trans (hc k (by rw [lx.out]; omega))
      obtain ⟨x, ex⟩ : ∃ x, xs.getD k 0 = x := ⟨_, rfl⟩
      rw [ex] at c1
      have Bel := Lib.hid bel
      have Seen' := Lib.hid seen
      have Ok := Lib.hid ok
      have Ex := Lib.hid ex
      clear ex hc hx bel seen ok
      by_cases h1 : x < 0
      · have e1 : decide (x < 0) = true := by simpa using h1
        have Fin : Hid (isP xs = false) := Lib.hid (isP_no_range (by rw [lx.out]; exact hlt) (.inl (by rw [Ex.out]; exact h1)))
        clear blk
        go_wp2
        go_ret
        exact ⟨ret_bool Fin.out.symm, Bel.out⟩
      · by_cases h2 : (n : Int) ≤ x
        · have e1 : decide (x < 0) = false := by simpa using h1
          have e2 : decide ((n : Int) ≤ x) = true := by simpa using h2
          have Fin : Hid (isP xs = false) := Lib.hid (isP_no_range (by rw [lx.out]; exact hlt) (.inr (by rw [Ex.out, lx.out]; exact h2)))
          clear blk
          go_wp2
          go_ret
          exact ⟨ret_bool Fin.out.symm, Bel.out⟩
        · obtain ⟨y, rfl⟩ := Int.eq_ofNat_of_zero_le (show 0 ≤ x by omega)
          have hy : y < n := by omega
          have hy20 : y < 20 := by omega
          have c2 := (blk.cell y).trans (Seen'.out.2 y hy20)
          have f2 := blk.frozen y
          have e1 : decide ((y : Int) < 0) = false := by simp
          have e2 : decide ((n : Int) ≤ y) = false := by simp; omega
          by_cases hs : seenB xs k y = true
          · rw [hs] at c2
            have Fin : Hid (isP xs = false) := by
              obtain ⟨j, hj, e⟩ := seenB_true hs
              exact Lib.hid (isP_no_twice (by rw [lx.out]; exact hlt) hj (by rw [e, Ex.out]))
            clear blk hs
            go_wp2
            go_ret
            exact ⟨ret_bool Fin.out.symm, Bel.out⟩
          · rw [Bool.not_eq_true] at hs
            rw [hs] at c2
            have Bl2 := Lib.hid (blk.set_ y (.bool true))
            have Hs := Lib.hid hs
            clear blk hs
            go_wp2
            go_roundw
            case rel =>
              exact ⟨k + 1, _, by omega, by go_num, Bl2.out, Seen'.out.next Ex.out hy20,
                okTo_succ Ok.out (by rw [Ex.out]; omega) (by rw [Ex.out, lx.out]; omega) (fun i hi => by rw [Ex.out]; exact seenB_false Hs.out i hi), Bel.out.setCell (Nat.le_refl _) _⟩
            case measure => simp [intOf]; omega
    · have hkn : k = n := by omega
      subst hkn
      have Fin : Hid (isP xs = true) := Lib.hid (isP_of_ok (by rw [lx.out]; exact hn1) (by rw [lx.out]; exact hn) (by rw [lx.out]; exact ok))
      have Be := Lib.hid bel
      clear blk bel
      go_wp2
      go_ret
      exact ⟨ret_bool Fin.out.symm, Be.out⟩

/-- The program's IsPermutation. -/
theorem implIsP (A : Option Addr) (c n : Nat) (xs : List Int) (w : World) (hx : RI w w.heap.size A xs) (lx : Hid (xs.length = n)) (hn : n ≤ 2097152) :
    Calls Tryz.prog 34 #[.slice A n c] w fun e w' => e = .returned (.bool (isP xs)) ∧ Below w.heap.size w w' := by
  by_cases h1 : n < 1
  · have Fin : Hid (isP xs = false) := Lib.hid (isP_no_len (.inl (by rw [lx.out]; exact h1)))
    have d1 : decide ((n : Int) < 1) = true := by simp; omega
    go_enter Tryz.func34, Tryz.ntmps34
    go_wp2
    go_ret
    exact ⟨ret_bool Fin.out.symm, Below.refl _ _⟩
  · by_cases h2 : 20 < n
    · have Fin : Hid (isP xs = false) := Lib.hid (isP_no_len (.inr (by rw [lx.out]; exact h2)))
      have d1 : decide ((n : Int) < 1) = false := by simp; omega
      have d2 : decide ((20 : Int) < n) = true := by simp; omega
      go_enter Tryz.func34, Tryz.ntmps34
      go_wp2
      go_ret
      exact ⟨ret_bool Fin.out.symm, Below.refl _ _⟩
    · exact implIsP_core A c n xs w hx lx (by omega) (by omega)

/-! ### The model's -/
theorem inR_true (x lo hi : Int) (w : World) (h1 : lo ≤ x) (h2 : x ≤ hi) : Calls Tryz.prog 40 #[.int .i64 x, .int .i64 lo, .int .i64 hi] w fun e w' => e = .returned (.bool true) ∧ w = w' := by
  have d1 : decide (lo ≤ x) = true := by simpa using h1
  have d2 : decide (x ≤ hi) = true := by simpa using h2
  go_enter Tryz.func40, Tryz.ntmps40
  go_wp2
  go_ret
  exact ⟨rfl, rfl⟩
theorem inR_false (x lo hi : Int) (w : World) (h : x < lo ∨ hi < x) : Calls Tryz.prog 40 #[.int .i64 x, .int .i64 lo, .int .i64 hi] w fun e w' => e = .returned (.bool false) ∧ w = w' := by
  by_cases h1 : lo ≤ x
  · have d1 : decide (lo ≤ x) = true := by simpa using h1
    have d2 : decide (x ≤ hi) = false := by simp; omega
    clear h
    go_enter Tryz.func40, Tryz.ntmps40
    go_wp2
    go_ret
    exact ⟨rfl, rfl⟩
  · have d1 : decide (lo ≤ x) = false := by simpa using h1
    clear h
    go_enter Tryz.func40, Tryz.ntmps40
    go_wp2
    go_ret
    exact ⟨rfl, rfl⟩

def hasB (xs : List Int) (x : Int) : Bool := decide (∃ j, j < xs.length ∧ xs.getD j 0 = x)
set_option maxHeartbeats 400000 in
theorem containsI_any (A : Option Addr) (c n : Nat) (xs : List Int) (x : Int) (w : World) (B : Nat) (hx : RI w B A xs) (lx : Hid (xs.length = n)) (hn : n ≤ 2097152) (ans : Bool) (hans : Hid (hasB xs x = ans)) :
    Calls Tryz.prog 46 #[.slice A n c, .int .i64 x] w fun e w' => e = .returned (.bool ans) ∧ w = w' := by
  go_enter Tryz.func46, Tryz.ntmps46
  go_wp2
  go_loop [5] (fun i => ∃ k : Nat, k ≤ n ∧ i = .int .i64 k ∧ ∀ j, j < k → xs.getD j 0 ≠ x) (fun i => n - (intOf i).toNat)
  case atStart => exact ⟨0, Nat.zero_le _, rfl, fun j h => absurd h (by omega)⟩
  case round =>
    obtain ⟨k, hk, rfl, heq⟩ := hrel
    have Heq := Lib.hid heq
    clear heq
    by_cases hlt : k < n
    · obtain ⟨b, off, rfl, hb, hc⟩ := hx (by rw [lx.out]; omega)
      have c1 := hc k (by rw [lx.out]; omega)
      obtain ⟨y, ey⟩ : ∃ y, xs.getD k 0 = y := ⟨_, rfl⟩
      rw [ey] at c1
      have Ey := Lib.hid ey
      clear ey hc hx
      by_cases hxy : y = x
      · have hd : (y == x) = true := by simpa using hxy
        have Fin : Hid (hasB xs x = true) := Lib.hid (decide_eq_true ⟨k, by rw [lx.out]; exact hlt, by rw [Ey.out, hxy]⟩)
        subst hxy
        go_wp2
        go_ret
        exact ⟨ret_bool (by rw [← Fin.out, ← hans.out]), rfl⟩
      · have hd : (y == x) = false := by simpa using hxy
        have Hxy := Lib.hid hxy
        clear hxy
        go_wp2
        go_round
        case rel => exact ⟨k + 1, by omega, by go_num, fun j hj => by
          by_cases e : j = k
          · subst e; rw [Ey.out]; exact Hxy.out
          · exact Heq.out j (by omega)⟩
        case measure => simp [intOf]; omega
    · have Fin : Hid (hasB xs x = false) := Lib.hid (decide_eq_false fun ⟨j, hj, e⟩ => Heq.out j (by rw [lx.out] at hj; omega) e)
      go_wp2
      go_ret
      exact ⟨ret_bool (by rw [← Fin.out, ← hans.out]), rfl⟩

theorem take_getD {xs : List Int} {k j : Nat} (h : j < k) : (xs.take k).getD j 0 = xs.getD j 0 := by
  rw [List.getD_eq_getElem?_getD, List.getElem?_take, if_pos h, ← List.getD_eq_getElem?_getD]
theorem RI.take {w : World} {B b off n : Nat} {xs : List Int} (h : RI w B (some ⟨b, off, none⟩) xs) (hn : xs.length = n) (k : Nat) (hk : k ≤ n) : RI w B (some ⟨b, off, none⟩) (xs.take k) := fun hp => by
  rw [List.length_take] at hp
  obtain ⟨b', off', e, hb, hc⟩ := h (by omega)
  refine ⟨b', off', e, hb, fun j hj => ?_⟩
  rw [List.length_take] at hj
  rw [take_getD (by omega)]
  exact hc j (by omega)

set_option maxHeartbeats 400000 in
theorem specIsP_core (A : Option Addr) (c n : Nat) (xs : List Int) (w : World) (hx : RI w w.heap.size A xs) (lx : Hid (xs.length = n)) (hn1 : 1 ≤ n) (hn : n ≤ 20) (hnc : n ≤ c) :
    Calls Tryz.prog 41 #[.slice A n c] w fun e w' => e = .returned (.bool (isP xs)) ∧ ∃ m, w' = w.drewN m := by
  go_enter Tryz.func41, Tryz.ntmps41
  go_wp2_with (go_at_call 40; refine (inR_true _ _ _ _ (by omega) (by omega)).mono ?_; rintro e w' ⟨rfl, rfl⟩)
  go_loopw [4] (fun i wr => ∃ k : Nat, k ≤ n ∧ i = .int .i64 (k : Nat) ∧ okTo xs k ∧ ∃ m, wr = w.drewN m) (fun i _ => n - (intOf i).toNat)
  case atStart => exact ⟨0, Nat.zero_le _, rfl, okTo_zero _, 0, rfl⟩
  case round =>
    obtain ⟨k, hk, rfl, ok, m, rfl⟩ := hrel
    have Ok := Lib.hid ok
    clear ok
    by_cases hlt : k < n
    · have hx1 := hx
      obtain ⟨b, off, rfl, hb, hc⟩ := hx (by rw [lx.out]; omega)
      have hx0 : RI w w.heap.size (some ⟨b, off, none⟩) xs := hx1
      clear hx1 hx
      have c1 := hc k (by rw [lx.out]; omega)
      obtain ⟨x, ex⟩ : ∃ x, xs.getD k 0 = x := ⟨_, rfl⟩
      rw [ex] at c1
      have Ex := Lib.hid ex
      clear ex hc
      have p1 : (0 : Int) ≤ k := by omega
      have p2 : (k : Int) < n := by omega
      by_cases h1 : x < 0 ∨ (n : Int) - 1 < x
      · have Fin : Hid (isP xs = false) := Lib.hid (isP_no_range (by rw [lx.out]; exact hlt) (by rw [Ex.out, lx.out]; omega))
        have H1 := Lib.hid h1
        clear h1
        go_wp2
        go_quiet ((go_at_call 40; exact quiet_add_left (inR_false _ _ _ _ H1.out)))
        go_wp2
        go_ret
        exact ⟨ret_bool Fin.out.symm, _, World.drewN_drewN _ _ _⟩
      · have q0 : 0 ≤ x := by omega
        have q1 : x ≤ (n : Int) - 1 := by omega
        have ht := hx0.take lx.out k (by omega)
        have lt : Hid ((xs.take k).length = k) := Lib.hid (by rw [List.length_take, lx.out]; omega)
        by_cases hs : hasB (xs.take k) x = true
        · have Hs := Lib.hid hs
          have Fin : Hid (isP xs = false) := by
            obtain ⟨j, hj, e⟩ := of_decide_eq_true hs
            rw [lt.out] at hj
            exact Lib.hid (isP_no_twice (by rw [lx.out]; exact hlt) hj (by rw [← take_getD hj, e, Ex.out]))
          have HT := Lib.hid ht
          clear hs h1 ht
          go_wp2
          go_quiet ((first | (go_at_call 40; exact quiet_add_left (inR_true _ _ _ _ (by omega) (by omega))) | (go_at_call 46; exact quiet_add_left (containsI_any _ _ _ _ _ _ _ (HT.out.drewN _) lt (by omega) true Hs))))
          go_wp2
          go_ret
          exact ⟨ret_bool Fin.out.symm, _, World.drewN_drewN _ _ _⟩
        · have Hs := Lib.hid ((Bool.not_eq_true _).mp hs)
          have HT := Lib.hid ht
          have NT : Hid (∀ i, i < k → xs.getD i 0 ≠ xs.getD k 0) := Lib.hid fun i hi e => hs (decide_eq_true ⟨i, by rw [lt.out]; exact hi, by rw [take_getD hi, e, Ex.out]⟩)
          clear hs h1 ht
          go_wp2
          go_quiet ((first | (go_at_call 40; exact quiet_add_left (inR_true _ _ _ _ (by omega) (by omega))) | (go_at_call 46; exact quiet_add_left (containsI_any _ _ _ _ _ _ _ (HT.out.drewN _) lt (by omega) false Hs))))
          go_wp2
          go_roundw
          case rel => exact ⟨k + 1, by omega, by go_num, okTo_succ Ok.out (by rw [Ex.out]; omega) (by rw [Ex.out, lx.out]; omega) NT.out, _, rfl⟩
          case measure => simp [intOf]; omega
    · have hkn : k = n := by omega
      subst hkn
      have Fin : Hid (isP xs = true) := Lib.hid (isP_of_ok (by rw [lx.out]; exact hn1) (by rw [lx.out]; exact hn) (by rw [lx.out]; exact Ok.out))
      go_wp2
      go_ret
      exact ⟨ret_bool Fin.out.symm, _, rfl⟩

/-- The model's IsPermutation. -/
theorem specIsP (A : Option Addr) (c n : Nat) (xs : List Int) (w : World) (hx : RI w w.heap.size A xs) (lx : Hid (xs.length = n)) (hn : n ≤ 2097152) (hnc : n ≤ c) :
    Calls Tryz.prog 41 #[.slice A n c] w fun e w' => e = .returned (.bool (isP xs)) ∧ ∃ m, w' = w.drewN m := by
  by_cases h1 : n < 1 ∨ 20 < n
  · have Fin : Hid (isP xs = false) := Lib.hid (isP_no_len (by rw [lx.out]; exact h1))
    have H1 := Lib.hid h1
    clear h1
    go_enter Tryz.func41, Tryz.ntmps41
    go_wp2_with (go_at_call 40; refine (inR_false _ _ _ _ (by have := H1.out; omega)).mono ?_; rintro e w' ⟨rfl, rfl⟩)
    go_ret
    exact ⟨ret_bool Fin.out.symm, 0, rfl⟩
  · exact specIsP_core A c n xs w hx lx (by omega) (by omega) hnc
end Go.Proofs.YtedfcljikgmpgaaGreat

/- Identity, of the program and of the model. No condition. -/
namespace Go.Proofs.YtedfcljikgmpgaaGreat
open Go.RowKit

theorem idL_length (n : Nat) : (idL n).length = n := by simp [idL]
theorem idL_getD {n j : Nat} (h : j < n) : (idL n).getD j 0 = (j : Int) := by
  rw [List.getD_eq_getElem?_getD, List.getElem?_eq_getElem (by simp [idL, h])]; simp [idL]
theorem idL_succ (n : Nat) : idL (n + 1) = idL n ++ [(n : Int)] := by simp [idL, List.range_succ]

/-- What Identity answers. -/
def identL (n : Int) : List Int := if 1 ≤ n ∧ n ≤ 20 then idL n.toNat else []

set_option maxHeartbeats 400000 in
theorem implId_core (n : Nat) (w : World) (h1 : 1 ≤ n) (h2 : n ≤ 20) :
    Calls Tryz.prog 38 #[.int .i64 n] w fun e w' => ∃ A' c', e = .returned (.slice A' n c') ∧ Slc w' w.heap.size A' n c' (idL n) ∧ Below w.heap.size w w' := by
  obtain ⟨i0, hi, hz0, hz1, hz2⟩ := info_parts infoI
  have d1 : decide ((n : Int) < 1) = false := by simp; omega
  have d2 : decide ((20 : Int) < n) = false := by simp; omega
  go_enter Tryz.func38, Tryz.ntmps38
  go_wp2_with (first | (at_make; refine wpList_make_full _ rfl _ _ 37 rfl w.heap.size 2 i0 (.int .i64 0) 1 Tryz.underlying37 hi hz0 hz1 .i64 .i64 _ _ n rfl rfl rfl rfl (by rw [hz2]; omega) (by unfold maxLen; omega) (Nat.le_refl _) ?_; intro w1 hown1 hgrow1))
  have row1 := Row.made hown1
  have bel1 : Below w.heap.size w w1 := (Below.refl _ _).grown hgrow1 (Nat.le_refl _) (fun k e => nomatch e)
  clear hown1 hgrow1 d1 d2
  go_loopw [4, 15] (fun _ i wr => ∃ k ys, k ≤ n ∧ i = .int .i64 (k : Nat) ∧ Row wr w.heap.size w.heap.size n n ys ∧ (∀ j, j < k → ys.getD j 0 = (j : Int)) ∧ Below w.heap.size w wr) (fun _ i _ => n - (intOf i).toNat)
  case atStart => exact ⟨0, _, Nat.zero_le _, rfl, row1, fun j h => absurd h (by omega), bel1⟩
  case round =>
    clear row1 bel1
    obtain ⟨k, ys, hk, rfl, row, heq, bel⟩ := hrel
    have Heq := Lib.hid heq
    clear heq
    by_cases hlt : k < n
    · have c2 := row.cell hlt
      have f2 := row.free k
      have Row2 := Lib.hid (row.store k (k : Int))
      have Bel2 := Lib.hid (bel.setCell (p := ⟨w.heap.size, k, none⟩) (Nat.le_refl _) (.int .i64 (k : Int)))
      have hyl : Hid (ys.length = n) := Lib.hid row.1
      clear row bel
      go_wp2
      go_roundw
      case rel =>
        refine ⟨k + 1, _, by omega, by go_num, Row2.out, fun j hj => ?_, Bel2.out⟩
        rw [set_getD hyl.out (by omega)]
        by_cases e : k = j
        · subst e; rw [if_pos rfl]
        · rw [if_neg e]; exact Heq.out j (by omega)
      case measure => simp [intOf]; omega
    · have hkn : k = n := by omega
      subst hkn
      have Em : Hid (ys = idL k) := Lib.hid (ext_getD row.1 (idL_length k) fun j hj => by rw [Heq.out j hj, idL_getD hj])
      have Ro := Lib.hid row
      have Be := Lib.hid bel
      clear row bel
      go_wp2
      go_ret
      exact ⟨_, _, rfl, by rw [← Em.out]; exact Ro.out.slc, Be.out⟩

/-- The program's Identity. -/
theorem implId (n : Int) (w : World) :
    Calls Tryz.prog 38 #[.int .i64 n] w fun e w' => ∃ A' n' c', e = .returned (.slice A' n' c') ∧ Slc w' w.heap.size A' n' c' (identL n) ∧ n' ≤ 20 ∧ Below w.heap.size w w' := by
  by_cases h1 : n < 1
  · have Fin : Hid (identL n = []) := Lib.hid (if_neg (by omega))
    have d1 : decide ((n : Int) < 1) = true := by simp; omega
    go_enter Tryz.func38, Tryz.ntmps38
    go_wp2
    go_ret
    exact ⟨_, _, _, rfl, by rw [Fin.out]; exact Slc.nil_, Nat.zero_le _, Below.refl _ _⟩
  · by_cases h2 : 20 < n
    · have Fin : Hid (identL n = []) := Lib.hid (if_neg (by omega))
      have d1 : decide ((n : Int) < 1) = false := by simp; omega
      have d2 : decide ((20 : Int) < n) = true := by simp; omega
      go_enter Tryz.func38, Tryz.ntmps38
      go_wp2
      go_ret
      exact ⟨_, _, _, rfl, by rw [Fin.out]; exact Slc.nil_, Nat.zero_le _, Below.refl _ _⟩
    · obtain ⟨m, rfl⟩ := Int.eq_ofNat_of_zero_le (show 0 ≤ n by omega)
      refine (implId_core m w (by omega) (by omega)).mono fun e w' ⟨A', c', he, hs, hb⟩ => ⟨A', m, c', he, ?_, by omega, hb⟩
      rw [show identL (m : Int) = idL m from by unfold identL; rw [if_pos (by omega)]; rfl]
      exact hs

set_option maxHeartbeats 400000 in
theorem specIdent (n : Nat) (w : World) (h2 : n ≤ 1000000) :
    Calls Tryz.prog 33 #[.int .i64 n] w fun e w' => ∃ A' c', e = .returned (.slice A' n c') ∧ Slc w' w.heap.size A' n c' (idL n) ∧ Below w.heap.size w w' := by
  go_enter Tryz.func33, Tryz.ntmps33
  go_wp2
  go_loopw [3, 4] (fun v i wr => ∃ k A c, k ≤ n ∧ i = .int .i64 (k : Nat) ∧ v = .slice A k c ∧ Slc wr w.heap.size A k c (idL k) ∧ Below w.heap.size w wr) (fun _ i _ => n - (intOf i).toNat)
  case atStart => exact ⟨0, _, _, Nat.zero_le _, rfl, rfl, Slc.lit0 w _ (Nat.le_refl _), (Below.refl _ _).alloc (Nat.le_refl _) _⟩
  case round =>
    obtain ⟨k, A, c, hk, rfl, rfl, own, bel⟩ := hrel
    have Own' := Lib.hid own
    have Bel := Lib.hid bel
    clear own bel
    by_cases hlt : k < n
    · go_wp2_with (first | (at_builtin; refine wpList_app1 rfl _ _ rfl w.heap.size A k c (idL k) rfl (Own'.out.alloc _) wr.heap.size k rfl (by rw [World.cell?_alloc_at _ _ _ _ rfl]; rfl) (by omega) (by have := Bel.out.size; simp; omega) ?_; intro A' c' w1 own1 hg1))
      have Own1 := Lib.hid own1
      have Bel1 : Hid (Below w.heap.size w w1) := Lib.hid ((Bel.out.alloc Bel.out.size _).grown hg1 (by have := Bel.out.size; simp; omega) (fun j hj => (Own'.out.lt_ j hj).1))
      clear own1 hg1
      go_wp2
      go_roundw
      case rel => exact ⟨k + 1, A', c', by omega, by go_num, rfl, by rw [idL_succ]; exact Own1.out, Bel1.out⟩
      case measure => simp [intOf]; omega
    · have hkn : k = n := by omega
      subst hkn
      go_wp2
      go_ret
      exact ⟨_, _, rfl, Own'.out, Bel.out⟩

end Go.Proofs.YtedfcljikgmpgaaGreat

/- Compose and Inverse, of the program and of the model. Condition: at most 2097152 entries. -/
namespace Go.Proofs.YtedfcljikgmpgaaGreat
open Go.RowKit

def sameD (p q : List Int) : Bool := decide (p.length = q.length) && isP p && isP q
theorem sameD_iff {p q : List Int} : sameD p q = true ↔ p.length = q.length ∧ IsP p ∧ IsP q := by
  unfold sameD
  rw [Bool.and_eq_true, Bool.and_eq_true, decide_eq_true_eq, isP_iff, isP_iff]
  exact ⟨fun ⟨⟨a, b⟩, c⟩ => ⟨a, b, c⟩, fun ⟨a, b, c⟩ => ⟨⟨a, b⟩, c⟩⟩

theorem compL_length (p q : List Int) : (compL p q).length = p.length := by simp [compL]
theorem compL_getD {p q : List Int} {k : Nat} (hk : k < p.length) : (compL p q).getD k 0 = q.getD (nx p k) 0 := by
  unfold compL nx
  rw [List.getD_eq_getElem?_getD, List.getElem?_map, List.getElem?_eq_getElem hk, List.getD_eq_getElem?_getD (l := p), List.getElem?_eq_getElem hk]
  rfl

def composeL (p q : List Int) : List Int := if sameD p q = true then compL p q else []

theorem compL_snoc {p q : List Int} {k : Nat} (hk : k < p.length) : compL (p.take (k + 1)) q = compL (p.take k) q ++ [q.getD (nx p k) 0] := by
  unfold compL nx
  rw [List.take_succ_eq_append_getElem hk, List.map_append, List.getD_eq_getElem?_getD (l := p), List.getElem?_eq_getElem hk]
  rfl

end Go.Proofs.YtedfcljikgmpgaaGreat

/- The model's source of draws. Conditions: at most 4096 bytes; draws below at most 256. -/
namespace Go.Proofs.YtedfcljikgmpgaaGreat
open Go.RowKit

/-- The bytes at A can be read: len of them, in blocks below B. -/
def SB (w : World) (B : Nat) (A : Option Addr) (len : Nat) : Prop :=
  0 < len → ∃ b off, A = some ⟨b, off, none⟩ ∧ b < B ∧ ∀ j, j < len → ∃ z : Nat, z ≤ 255 ∧ w.cell? ⟨b, off + j, none⟩ = some (.int .u8 z)
theorem SB.keep {w w' : World} {B len : Nat} {A : Option Addr} (h : SB w B A len) (hk : ∀ p : Addr, p.block < B → w'.cell? p = w.cell? p) : SB w' B A len := fun hn => by
  obtain ⟨b, off, e, hb, hc⟩ := h hn
  exact ⟨b, off, e, hb, fun j hj => by obtain ⟨z, hz, c⟩ := hc j hj; exact ⟨z, hz, (hk ⟨b, off + j, none⟩ hb).trans c⟩⟩
theorem SB.up {w w' : World} {B B' len : Nat} {A : Option Addr} (h : SB w B A len) (hB : B ≤ B') : SB w B' A len := fun hn => by
  obtain ⟨b, off, e, hb, hc⟩ := h hn
  exact ⟨b, off, e, by omega, hc⟩
theorem SB.below {w w' : World} {B B' len : Nat} {A : Option Addr} (h : SB w B A len) (hb : Below B' w w') (hB : B ≤ B') : SB w' B A len := h.keep fun _ hp => hb.cell (by omega)

/-- Block g is a source. -/
def Src (w : World) (g : Nat) : Prop :=
  ∃ (A : Option Addr) (len cap k : Nat) (h : Int), k ≤ len ∧ len ≤ 4096 ∧ SB w g A len ∧ Blk w g 45 #[.slice A len cap, .int .i64 (k : Nat), .int .i64 h]
theorem Src.lt {w : World} {g : Nat} (h : Src w g) : g < w.heap.size := by
  obtain ⟨A, len, cap, k, x, h1, h2, h3, h4⟩ := h; exact h4.lt
theorem Src.below {B g : Nat} {w w' : World} (h : Src w g) (hb : Below B w w') (hg : g < B) : Src w' g := by
  obtain ⟨A, len, cap, k, x, h1, h2, h3, h4⟩ := h
  exact ⟨A, len, cap, k, x, h1, h2, h3.below hb (by omega), h4.below hb hg⟩
theorem Src.gro {g r : Nat} {w w' : World} (h : Src w g) (hb : w.grownBy w' (some r)) (hg : g < r) : Src w' g := by
  obtain ⟨A, len, cap, k, x, h1, h2, h3, h4⟩ := h
  refine ⟨A, len, cap, k, x, h1, h2, h3.keep fun p hp => World.cell?_of_block (hb.block p.block (by have := h4.lt; omega) (by simp; omega)), h4.grown hb (by simp; omega)⟩
theorem and255 (x : Int) : bits .and .i64 x 255 = x % 256 := by
  have h255 : (BitVec.ofInt 64 255).toNat = 2 ^ 8 - 1 := by decide
  have key : (BitVec.ofInt 64 x &&& BitVec.ofInt 64 255).toNat = (x % ((2 ^ 64 : Nat) : Int)).toNat % 2 ^ 8 := by
    rw [BitVec.toNat_and, BitVec.toNat_ofInt, h255, Nat.and_two_pow_sub_one_eq_mod]
  show IntKind.i64.wrap ((BitVec.ofInt 64 x &&& BitVec.ofInt 64 255).toNat : Nat) = x % 256
  rw [key, IntKind.wrap_i64]
  omega

set_option maxHeartbeats 1600000 in
theorem srcByte (g : Nat) (w : World) (hs : Src w g) :
    Calls Tryz.prog 53 #[.pointer (some ⟨g, 0, none⟩)] w fun e w' => ∃ r : Nat, r ≤ 255 ∧ e = .returned (.int .i64 r) ∧ Src w' g ∧ w.grownBy w' (some g) := by
  obtain ⟨A, len, cap, k, h, hk, hl, hb, blk⟩ := hs
  have c0 : w.cell? ⟨g, 0, none⟩ = some (.slice A len cap) := blk.cell 0
  have c1 : w.cell? ⟨g, 1, none⟩ = some (.int .i64 k) := blk.cell 1
  have c2 : w.cell? ⟨g, 2, none⟩ = some (.int .i64 h) := blk.cell 2
  have f1 := blk.frozen 1
  have f2 := blk.frozen 2
  obtain ⟨H, eH⟩ : ∃ H, wrap64 (wrap64 (h * 6364136223846793005) + 1442695040888963407) = H := ⟨_, rfl⟩
  obtain ⟨X, hX, eX⟩ : ∃ X : Nat, X ≤ 255 ∧ bits .xor .i64 (H / 8589934592) (H / 35184372088832) % 256 = (X : Int) := ⟨(bits .xor .i64 (H / 8589934592) (H / 35184372088832) % 256).toNat, by omega, by omega⟩
  have a255 := and255
  have Blk' := Lib.hid blk
  have j0 : (0 : Int) ≤ k := by omega
  by_cases hlt : k < len
  · obtain ⟨b, off, rfl, hb', hc⟩ := hb (by omega)
    obtain ⟨z, hz, cz⟩ := hc k hlt
    have cz2 : (w.setCell ⟨g, 2, none⟩ (.int .i64 H)).cell? ⟨b, off + k, none⟩ = some (.int .u8 z) := (World.cell?_setCell_other _ _ _ _ (fun e => by injection e with e1; omega)).trans cz
    have j1 : (k : Int) < len := by omega
    have j2 : decide ((k : Int) < (len : Int)) = true := by simpa using hlt
    have Hb := Lib.hid hb
    have Blk2 := Lib.hid ((Blk'.out.set_ 2 (.int .i64 H)).set_ 1 (.int .i64 ((k : Int) + 1)))
    clear hb hc blk
    go_enter Tryz.func53, Tryz.ntmps53
    go_wp2_with fail
    go_quiet (fail)
    go_wp2_with fail
    go_quiet (fail)
    go_wp2_with fail
    go_quiet (fail)
    go_wp2_with fail
    go_ret
    refine ⟨(X + z) % 256, by omega, ret_int (by rw [Int.natCast_emod, Int.natCast_add]; rfl), ⟨_, len, cap, k + 1, H, by omega, hl, ?_, Blk2.out⟩, ?_⟩
    · exact Hb.out.keep fun p hp => by
        refine (World.cell?_setCell_other _ _ _ _ (fun e => by subst e; simp at hp)).trans ?_
        exact (World.cell?_setCell_other _ _ _ _ (fun e => by subst e; simp at hp))
    · exact grown_set (grown_drewN (grown_set (grown_refl w _) 2 _) _) 1 _
  · have j2 : decide ((k : Int) < (len : Int)) = false := by simp; omega
    have Hb := Lib.hid hb
    have Blk2 := Lib.hid (Blk'.out.set_ 2 (.int .i64 H))
    clear hb blk
    go_enter Tryz.func53, Tryz.ntmps53
    go_wp2_with fail
    go_quiet (fail)
    go_wp2_with fail
    go_quiet (fail)
    go_wp2_with fail
    go_ret
    refine ⟨X, hX, rfl, ⟨A, len, cap, k, H, by omega, hl, ?_, Blk2.out⟩, ?_⟩
    · exact Hb.out.keep fun p hp => by
        exact (World.cell?_setCell_other _ _ _ _ (fun e => by subst e; simp at hp))
    · exact grown_drewN (grown_drewN (grown_set (grown_refl w _) 2 _) _) _

theorem grown_trans' {a b c : World} {row : Option Nat} (h : a.grownBy b row) (k : b.grownBy c row) : a.grownBy c row :=
  ⟨k.os.trans h.os, k.tape.trans h.tape, k.output.trans h.output, Nat.le_trans h.size k.size, fun i hi hn => (k.block i (Nat.lt_of_lt_of_le hi h.size) hn).trans (h.block i hi hn)⟩

set_option maxHeartbeats 800000 in
theorem srcBelow (g : Nat) (N : Int) (n : Nat) (w : World) (hs : Src w g) (hN : N = (n : Int)) (h1 : 1 ≤ n) (h2 : n ≤ 256) :
    Calls Tryz.prog 30 #[.pointer (some ⟨g, 0, none⟩), .int .i64 N] w fun e w' => ∃ r : Nat, r < n ∧ e = .returned (.int .i64 r) ∧ Src w' g ∧ w.grownBy w' (some g) := by
  subst hN
  have d1 : decide ((n : Int) ≤ 0) = false := by simp; omega
  have d2 : decide ((n : Int) ≤ 256) = true := by simp; omega
  go_enter Tryz.func30, Tryz.ntmps30
  go_wp2_with fail
  refine (srcByte g w hs).mono ?_
  rintro e w1 ⟨r, hr, rfl, s1, g1⟩
  have S1 := Lib.hid s1
  have G1 := Lib.hid g1
  clear s1 g1
  go_wp2_with fail
  go_ret
  exact ⟨r % n, Nat.mod_lt _ (by omega), ret_int (by rw [Int.natCast_emod]), S1.out, G1.out⟩

set_option maxHeartbeats 800000 in
theorem srcOne (g : Nat) (N : Int) (n : Nat) (w : World) (hs : Src w g) (hN : N = (n : Int)) (h1 : 1 ≤ n) (h2 : n ≤ 256) :
    Calls Tryz.prog 28 #[.pointer (some ⟨g, 0, none⟩), .int .i64 N] w fun e w' => ∃ b : Bool, e = .returned (.bool b) ∧ Src w' g ∧ w.grownBy w' (some g) := by
  subst hN
  go_enter Tryz.func28, Tryz.ntmps28
  go_wp2_with fail
  refine (srcBelow g _ n w hs rfl h1 h2).mono ?_
  rintro e w1 ⟨r, hr, rfl, s1, g1⟩
  have S1 := Lib.hid s1
  have G1 := Lib.hid g1
  clear s1 g1
  by_cases hr0 : r = 0
  · have e0 : ((r : Int) == 0) = true := by rw [beq_iff_eq]; omega
    clear hr0
    go_wp2_with fail
    go_ret
    exact ⟨true, rfl, S1.out, G1.out⟩
  · have e0 : ((r : Int) == 0) = false := by rw [beq_eq_false_iff_ne]; omega
    clear hr0
    go_wp2_with fail
    go_ret
    exact ⟨false, rfl, S1.out, G1.out⟩

theorem srcBetween (g lo hi : Nat) (w : World) (hs : Src w g) (h1 : lo ≤ hi) (h2 : hi ≤ 200) :
    Calls Tryz.prog 27 #[.pointer (some ⟨g, 0, none⟩), .int .i64 (lo : Int), .int .i64 (hi : Int)] w fun e w' => ∃ r : Nat, lo ≤ r ∧ r ≤ hi ∧ e = .returned (.int .i64 r) ∧ Src w' g ∧ w.grownBy w' (some g) := by
  go_enter Tryz.func27, Tryz.ntmps27
  go_wp2_with fail
  refine (srcBelow g _ (hi - lo + 1) w hs (by omega) (by omega) (by omega)).mono ?_
  rintro e w1 ⟨r, hr, rfl, s1, g1⟩
  have S1 := Lib.hid s1
  have G1 := Lib.hid g1
  clear s1 g1
  go_wp2_with fail
  go_ret
  exact ⟨lo + r, by omega, by omega, ret_int (by omega), S1.out, G1.out⟩

set_option maxHeartbeats 1600000 in
theorem newSrc (len cap : Nat) (A : Option Addr) (w : World) (hb : SB w w.heap.size A len) (hl : len ≤ 4096) :
    Calls Tryz.prog 12 #[.slice A len cap] w fun e w' => e = .returned (.pointer (some ⟨w.heap.size, 0, none⟩)) ∧ Src w' w.heap.size ∧ Below w.heap.size w w' := by
  go_enter Tryz.func12, Tryz.ntmps12
  go_wp2_with fail
  go_loopg [3, 4] len (fun gg h i wr => ∃ k x, k ≤ len ∧ len - k ≤ gg ∧ i = .int .i64 (k : Nat) ∧ h = .int .i64 x ∧ wr = w)
  case atStart => exact ⟨0, _, Nat.zero_le _, by omega, rfl, rfl, rfl⟩
  case round =>
    obtain ⟨k, x, hk, hg, rfl, rfl, rfl⟩ := hrel
    by_cases hlt : k < len
    · obtain ⟨b, off, rfl, hb', hc⟩ := hb (by omega)
      obtain ⟨z, hz, cz⟩ := hc k hlt
      have j1 : (k : Int) < len := by omega
      have j0 : (0 : Int) ≤ k := by omega
      clear hb hc
      go_wp2_with fail
      go_roundg (len - (k + 1))
      case rel => exact ⟨k + 1, _, by omega, Nat.le_refl _, by go_num, rfl, rfl⟩
      case measure => omega
    · have hkn : k = len := by omega
      subst hkn
      have Hb := Lib.hid hb
      clear hb
      go_wp2_with fail
      go_ret
      exact ⟨rfl, ⟨A, k, cap, 0, x, Nat.zero_le _, hl, (Hb.out.below ((Below.refl wr.heap.size wr).alloc (Nat.le_refl _) _) (Nat.le_refl _)), Blk.new _ _ _⟩, (Below.refl _ _).alloc (Nat.le_refl _) _⟩
end Go.Proofs.YtedfcljikgmpgaaGreat

/- What the frame of a proof knows of a slice of bytes that came in, in the words of the walks. No condition. -/
namespace Go.Proofs.YtedfcljikgmpgaaGreat
open Go.RowKit

theorem SB.of_rowB {w : World} {a : Option Addr} {len cap : Nat} {zs : List Int}
    (h : (a = none ∧ len = 0 ∧ cap = 0 ∧ zs = []) ∨ ∃ x, a = some x ∧ len ≤ cap ∧ cap ≤ maxLen ∧ zs.length = cap ∧ (∀ i, i < zs.length → w.cell? (x.add i) = some (.int .u8 (zs.getD i 0))) ∧ ∀ n ∈ zs, (Lit.int .u8 n).wf = true)
    (hw : ∀ n : Int, (Lit.int .u8 n).wf = true → 0 ≤ n ∧ n ≤ 255) : SB w w.heap.size a len := by
  rcases h with ⟨rfl, rfl, rfl, rfl⟩ | ⟨⟨b, off, spot⟩, rfl, hl, hm, hz, hc, hwf⟩
  · exact fun h => absurd h (by omega)
  · intro hp
    have h0 := hc 0 (by omega)
    have hspot : spot = none := by simpa [Addr.add] using World.cell?_spot h0
    subst hspot
    refine ⟨b, off, rfl, ?_, fun j hj => ?_⟩
    · have := World.block_lt_of_cell? w _ h0
      simpa [Addr.add] using this
    · have hjz : j < zs.length := by omega
      have hr := hw (zs.getD j 0) (hwf _ (by rw [List.getD_eq_getElem?_getD, List.getElem?_eq_getElem hjz]; exact List.getElem_mem _))
      refine ⟨(zs.getD j 0).toNat, by omega, ?_⟩
      rw [Int.toNat_of_nonneg hr.1, ← hc j hjz]
      unfold Addr.add
      split <;> simp_all
end Go.Proofs.YtedfcljikgmpgaaGreat

/- The model's drawn permutations. Condition: degrees of at most 100. -/
namespace Go.Proofs.YtedfcljikgmpgaaGreat
open Go.RowKit

theorem RI.cellAt {w : World} {B b o : Nat} {ys : List Int} (h : RI w B (some ⟨b, o, none⟩) ys) {j : Nat} (hj : j < ys.length) : b < B ∧ w.cell? ⟨b, o + j, none⟩ = some (.int .i64 (ys.getD j 0)) := by
  obtain ⟨b', o', e, hb, hc⟩ := h (by omega)
  injection e with e
  injection e with e1 e2
  subst e1; subst e2
  exact ⟨hb, hc j hj⟩

/-- append of readable numbers. -/
theorem wpList_appN {w : World} {ops : Array Oper} {rest : List Oper} {o : Oper} {a : Act} {Q : Exit → Act → World → Prop} (hgd : o.guard = none) (s x : Operand)
    (ho : o.op = .call { callee := .builtin .append, args := #[s, x], argTypes := #[37, 37] })
    (base : Nat) (A : Option Addr) (n c : Nat) (xs : List Int) (hs : a.eval s = .slice A n c) (hown : Slc w base A n c xs) (g off m c2 : Nat) (ys : List Int) (hx : a.eval x = .slice (some ⟨g, off, none⟩) m c2)
    (hy : RI w w.heap.size (some ⟨g, off, none⟩) ys) (ly : ys.length = m) (hn : n + m ≤ 1000000000000) (hbase : base ≤ w.heap.size)
    (h : ∀ A' c' w', Slc w' base A' (n + m) c' (xs ++ ys) → w.grownBy w' (Value.slice A n c).ownBlock → wpList Tryz.prog ops Q rest (a.put o.dst (.slice A' (n + m) c')) w') : wpList Tryz.prog ops Q (o :: rest) a w := by
  obtain ⟨i0, hi, hz0, hz1, hz2⟩ := info_parts infoI
  obtain ⟨hl, ho'⟩ := hown
  subst hl
  refine wpList_append_own w hgd s x 37 ho base 2 i0 (.int .i64 0) 1 8 Tryz.underlying37 hi hz0 hz1 hz2 rfl (by decide) _ xs.length _ hs ho' ⟨g, off, none⟩ m c2 (ys.map (Value.int .i64)) hx (by simp [ly]) ?_ ?_ ?_ (by omega) hbase ?_
  · intro j v hj
    have hjl : j < ys.length := by
      have := (List.getElem?_eq_some_iff.1 hj).1
      simpa using this
    have e : (⟨g, off, none⟩ : Addr).add j = ⟨g, off + j, none⟩ := by unfold Addr.add; split <;> simp_all
    rw [e, (hy.cellAt hjl).2]
    rw [List.getElem?_map, List.getElem?_eq_getElem hjl] at hj
    rw [← Option.some.inj hj, List.getD_eq_getElem?_getD, List.getElem?_eq_getElem hjl]; rfl
  · intro v hv; rw [List.mem_map] at hv; obtain ⟨u, _, rfl⟩ := hv; rfl
  · unfold maxLen; omega
  · intro v' w' hown' hg _
    have hO : Own w' base v' (xs ++ ys) := by
      unfold Own
      rw [List.length_append, List.map_append, ly]
      exact hown'
    obtain ⟨A', c', rfl, hS⟩ := Slc.of_own (n := xs.length + m) hO (by simp [ly])
    exact h A' c' w' hS hg

/-- append of readable numbers, as one step of a region that draws. -/
theorem step_appN {w : World} {ops : Array Oper} {o : Oper} {a : Act} {K : Act → World → Prop} {Q : Exit → Act → World → Prop} {E : Prop} (hgd : o.guard = none) (s x : Operand)
    (ho : o.op = .call { callee := .builtin .append, args := #[s, x], argTypes := #[37, 37] })
    (base : Nat) (A : Option Addr) (n c : Nat) (xs : List Int) (hs : a.eval s = .slice A n c) (hown : Slc w base A n c xs) (g off m c2 : Nat) (ys : List Int) (hx : a.eval x = .slice (some ⟨g, off, none⟩) m c2)
    (hy : RI w w.heap.size (some ⟨g, off, none⟩) ys) (ly : ys.length = m) (hn : n + m ≤ 1000000000000) (hbase : base ≤ w.heap.size) (N : Nat) (hN : n + m = N)
    (h : ∀ A' c' w', Slc w' base A' N c' (xs ++ ys) → w.grownBy w' (Value.slice A n c).ownBlock → K (a.put o.dst (.slice A' N c')) w') : if Region.wanted o (yielded ops a.tmps) = true then Oper.wp Tryz.prog o a w K Q else E := by
  have hw : Region.wanted o (yielded ops a.tmps) = true := by simp [Region.wanted, hgd]
  rw [if_pos hw]
  subst hN
  obtain ⟨i0, hi, hz0, hz1, hz2⟩ := info_parts infoI
  obtain ⟨hl, ho'⟩ := hown
  subst hl
  refine wp_append_own w s x 37 ho base 2 i0 (.int .i64 0) 1 8 Tryz.underlying37 hi hz0 hz1 hz2 rfl (by decide) _ xs.length _ hs ho' ⟨g, off, none⟩ m c2 (ys.map (Value.int .i64)) hx (by simp [ly]) ?_ ?_ ?_ (by omega) hbase ?_
  · intro j v hj
    have hjl : j < ys.length := by
      have := (List.getElem?_eq_some_iff.1 hj).1
      simpa using this
    have e : (⟨g, off, none⟩ : Addr).add j = ⟨g, off + j, none⟩ := by unfold Addr.add; split <;> simp_all
    rw [e, (hy.cellAt hjl).2]
    rw [List.getElem?_map, List.getElem?_eq_getElem hjl] at hj
    rw [← Option.some.inj hj, List.getD_eq_getElem?_getD, List.getElem?_eq_getElem hjl]; rfl
  · intro v hv; rw [List.mem_map] at hv; obtain ⟨u, _, rfl⟩ := hv; rfl
  · unfold maxLen; omega
  · intro v' w' hown' hg _
    have hO : Own w' base v' (xs ++ ys) := by
      unfold Own
      rw [List.length_append, List.map_append, ly]
      exact hown'
    obtain ⟨A', c', rfl, hS⟩ := Slc.of_own (n := xs.length + m) hO (by simp [ly])
    exact h A' c' w' hS hg
theorem litRI (w : World) (u : Int) : RI (w.alloc (.cells #[.int .i64 u] 2)) (w.alloc (.cells #[.int .i64 u] 2)).heap.size (some ⟨w.heap.size, 0, none⟩) [u] := (Slc.lit1 w w.heap.size u (Nat.le_refl _)).ri_
theorem RI.belowAll {w w' : World} {A : Option Addr} {xs : List Int} (h : RI w w.heap.size A xs) (hb : Below w.heap.size w w') : RI w' w'.heap.size A xs := fun hp => by
  obtain ⟨b, o, e, hbb, hc⟩ := h hp
  exact ⟨b, o, e, by have := hb.size; omega, fun j hj => (hb.cell (p := ⟨b, o + j, none⟩) hbb).trans (hc j hj)⟩

theorem grown_below2 {w w1 w' : World} {row : Option Nat} (h : w.grownBy w1 row) (b : Below w1.heap.size w1 w') : w.grownBy w' row :=
  ⟨b.os.trans h.os, b.tape.trans h.tape, b.output.trans h.output, Nat.le_trans h.size b.size, fun k hk hn => (b.block k (Nat.lt_of_lt_of_le hk h.size)).trans (h.block k hk hn)⟩
theorem below_undrew {w w' : World} (h : Below w.drew.heap.size w.drew w') : Below w.heap.size w w' := ⟨h.os, h.tape, h.output, h.size, h.block⟩
theorem below_undrewA {w w' : World} {o : Obj} (h : Below (w.drew.alloc o).heap.size (w.drew.alloc o) w') : Below (w.alloc o).heap.size (w.alloc o) w' := ⟨h.os, h.tape, h.output, h.size, h.block⟩

/-- copyInts of what can be read. -/
theorem copyRI (g off n c : Nat) (xs : List Int) (w : World) (h : RI w w.heap.size (some ⟨g, off, none⟩) xs) (lx : xs.length = n) (hn : n ≤ 1000000) :
    Calls Tryz.prog 60 #[.slice (some ⟨g, off, none⟩) n c] w fun e w' => ∃ A' c', e = .returned (.slice A' n c') ∧ Slc w' w.heap.size A' n c' xs ∧ Below w.heap.size w w' := by
  have H0 := Lib.hid (Slc.lit0 w w.heap.size (Nat.le_refl _))
  have H : Hid (RI (w.alloc (.cells #[] 2)) (w.alloc (.cells #[] 2)).heap.size (some ⟨g, off, none⟩) xs) := Lib.hid fun hp => by
    obtain ⟨b, o, e, hb, hc⟩ := h hp
    exact ⟨b, o, e, by simp; omega, fun j hj => by rw [World.cell?_alloc_lt w _ ⟨b, o + j, none⟩ hb]; exact hc j hj⟩
  clear h
  go_enter Tryz.func60, Tryz.ntmps60
  go_wp2_with (first | (at_builtin; refine wpList_appN rfl _ _ rfl w.heap.size (some ⟨w.heap.size, 0, none⟩) 0 0 [] rfl H0.out g off n c xs rfl H.out lx (by omega) (by simp) ?_; intro A' c' w' s1 g1))
  have S1 : Hid (Slc w' w.heap.size A' n c' xs) := Lib.hid (by simpa using s1)
  have B1 : Hid (Below w.heap.size w w') := Lib.hid (((Below.refl _ w).alloc (Nat.le_refl _) _).grown g1 (by simp) (fun k e => by simp [Value.ownBlock] at e; omega))
  clear s1 g1
  go_wp2
  go_ret
  exact ⟨_, _, by simp, S1.out, B1.out⟩

theorem grown_alloc2 {w w1 : World} {row : Option Nat} (h : w.grownBy w1 row) (o : Obj) : w.grownBy (w1.alloc o) row :=
  ⟨h.os, h.tape, h.output, Nat.le_trans h.size (by simp), fun k hk hn => (Below.heap_alloc w1 o k (Nat.lt_of_lt_of_le hk h.size)).trans (h.block k hk hn)⟩
theorem takeRI {w : World} {B q off : Nat} {xs : List Int} (h : RI w B (some ⟨q, off, none⟩) xs) (r : Nat) : RI w B (some ⟨q, off, none⟩) (xs.take r) := fun hp => by
  have hl : (xs.take r).length ≤ xs.length := by rw [List.length_take]; omega
  obtain ⟨b, o, e, hb, hc⟩ := h (by omega)
  refine ⟨b, o, e, hb, fun j hj => ?_⟩
  rw [hc j (by omega)]
  have : (xs.take r).getD j 0 = xs.getD j 0 := by
    rw [List.length_take] at hj
    rw [List.getD_eq_getElem?_getD, List.getElem?_take, if_pos (by omega), ← List.getD_eq_getElem?_getD]
  rw [this]
theorem dropRI {w w' : World} {base q k c r off : Nat} {xs : List Int} (h : Slc w base (some ⟨q, 0, none⟩) k c xs) (hb : Below w.heap.size w w') (ho : r < k → off = r) : RI w' w'.heap.size (some ⟨q, off, none⟩) (xs.drop r) := fun hp => by
  have lx := h.1
  rw [List.length_drop] at hp
  obtain rfl := ho (by omega)
  have hri : RI w w.heap.size (some ⟨q, 0, none⟩) xs := h.ri_
  have hq := (h.lt_ q rfl).2
  refine ⟨q, _, rfl, by have := hb.size; omega, fun j hj => ?_⟩
  rw [List.length_drop] at hj
  rw [hb.cell (p := ⟨q, _, none⟩) hq]
  have := (hri.cellAt (j := off + j) (by omega)).2
  rw [Nat.zero_add] at this
  rw [this, List.getD_eq_getElem?_getD, List.getD_eq_getElem?_getD, List.getElem?_drop]

set_option maxRecDepth 100000 in
set_option maxHeartbeats 2000000 in
theorem drawPerm (g n : Nat) (w : World) (hs : Src w g) (hn : n ≤ 100) :
    Calls Tryz.prog 52 #[.pointer (some ⟨g, 0, none⟩), .int .i64 (n : Int)] w fun e w' => ∃ q c xs, e = .returned (.slice (some ⟨q, 0, none⟩) n c) ∧ Slc w' w.heap.size (some ⟨q, 0, none⟩) n c xs ∧ Src w' g ∧ w.grownBy w' (some g) := by
  have Hs := Lib.hid hs
  have hg := hs.lt
  clear hs
  go_enter Tryz.func52, Tryz.ntmps52
  go_wp2_with fail
  go_loopg [5, 6, 7] n (fun gg v i _ wr => ∃ k q c xs, k ≤ n ∧ n - k ≤ gg ∧ i = .int .i64 (k : Nat) ∧ v = .slice (some ⟨q, 0, none⟩) k c ∧ Slc wr w.heap.size (some ⟨q, 0, none⟩) k c xs ∧ Src wr g ∧ w.grownBy wr (some g))
  case atStart => exact ⟨0, _, _, [], Nat.zero_le _, by omega, rfl, rfl, Slc.lit0 w _ (Nat.le_refl _), Hs.out.below ((Below.refl w.heap.size w).alloc (Nat.le_refl _) _) hg, grown_alloc2 (grown_refl _ _) _⟩
  case round =>
    obtain ⟨k, q, c, xs, hk, hgg, rfl, rfl, sl, src, gro⟩ := hrel
    have Sl := Lib.hid sl
    have Sr := Lib.hid src
    have Gr := Lib.hid gro
    have hkc := sl.le.1
    clear sl src gro
    by_cases hlt : k < n
    · go_wp2_with fail
      refine (srcBelow g _ (k + 1) wr Sr.out (by push_cast; rfl) (by omega) (by omega)).mono ?_
      rintro e w1 ⟨r, hr, rfl, s1, g1⟩
      have Sr1 := Lib.hid s1
      have Gr1 : Hid (w.grownBy w1 (some g)) := Lib.hid (grown_trans' Gr.out g1)
      have Sl1 : Hid (Slc w1 w.heap.size (some ⟨q, 0, none⟩) k c xs) := Lib.hid (Sl.out.kept g1 (.inr (by have := (Sl.out.lt_ q rfl).1; intro e; simp [Value.ownBlock] at e; omega)))
      have p0 : (0 : Int) ≤ r := by omega
      have p1 : (r : Int) ≤ k := by omega
      have p2 : (r : Int) ≤ c := by omega
      have p3 : r ≤ k := by omega
      have p4 : r ≤ c := by omega
      have lxs : xs.length = k := Sl1.out.1
      have RIt : Hid (RI w1 w1.heap.size (some ⟨q, 0, none⟩) (xs.take r)) := Lib.hid (takeRI Sl1.out.ri_ r)
      have ltk : Hid ((xs.take r).length = r) := Lib.hid (by rw [List.length_take]; omega)
      have ldr : Hid ((xs.drop r).length = k - r) := Lib.hid (by rw [List.length_drop]; omega)
      have hwb := Gr1.out.size
      clear s1 g1 lxs
      have RItA : Hid (RI (w1.alloc (.cells #[.int .i64 (k : Int)] 2)) (w1.alloc (.cells #[.int .i64 (k : Int)] 2)).heap.size (some ⟨q, 0, none⟩) (xs.take r)) := Lib.hid (RIt.out.belowAll ((Below.refl _ _).alloc (Nat.le_refl _) _))
      have Lit : Hid (RI (w1.alloc (.cells #[.int .i64 (k : Int)] 2)) (w1.alloc (.cells #[.int .i64 (k : Int)] 2)).heap.size (some ⟨w1.heap.size, 0, none⟩) [(k : Int)]) := Lib.hid (litRI w1 k)
      have DrX : Hid (∀ w3 : World, Below w1.heap.size w1 w3 → RI w3 w3.heap.size (some ⟨q, r, none⟩) (xs.drop r)) := Lib.hid fun w3 hb => dropRI Sl1.out hb fun _ => rfl
      have ld0 : Hid (c = r → (xs.drop r).length = 0) := Lib.hid fun e => by have := ldr.out; omega
      have Dr0 : Hid (c = r → ∀ w3 : World, Below w1.heap.size w1 w3 → RI w3 w3.heap.size (some ⟨q, 0, none⟩) (xs.drop r)) := Lib.hid fun e w3 hb => dropRI Sl1.out hb fun h => by omega
      by_cases hcr : c = r
      · obtain rfl : k = r := by omega
        subst hcr
        go_wp2_with fail
        go_region_law (first
          | (refine step_appN rfl (.tmp 21) (.tmp 23) rfl w1.heap.size A2 c c2 (xs.take c) ?_ (s2.alloc _) w2.heap.size 0 1 1 [(c : Int)] ?_ (litRI w2 c) rfl ?_ ?_ (c + 1) rfl ?_; (simp [Act.eval, Act.put]); (simp [Act.eval, Act.put]); (omega); (have hz := b2.size; simp at hz ⊢; omega); (intro A3 c3 w3 s3 g3; have bb : Below w1.heap.size w1 w3 := (Below.alloc b2 b2.size _).grown g3 (by have hz := b2.size; simp at hz ⊢; omega) (fun j hj => (s2.lt_ j hj).1)))
          | (refine step_appN rfl (.tmp 21) (.tmp 23) rfl w1.heap.size A2 c c2 (xs.take c) ?_ (s2.mono (by simp)) w1.heap.size 0 1 1 [(c : Int)] ?_ (Lit.out.belowAll b2) rfl ?_ ?_ (c + 1) rfl ?_; (simp [Act.eval, Act.put]); (simp [Act.eval, Act.put]); (omega); (have hz := b2.size; simp at hz ⊢; omega); (intro A3 c3 w3 s3 g3; have bb : Below w1.heap.size w1 w3 := (btr ((Below.refl w1.heap.size w1).alloc (Nat.le_refl _) _) b2).grown g3 (by have hz := b2.size; simp at hz ⊢; omega) (fun j hj => Nat.le_trans (by simp) (s2.lt_ j hj).1)))
          | (refine step_appN rfl (.tmp 24) (.tmp 27) rfl w1.heap.size A3 (c + 1) c3 _ ?_ s3 q 0 0 0 (xs.drop c) ?_ (Dr0.out trivial _ bb) (ld0.out trivial) ?_ ?_ (c + 1) ?_ ?_; (simp [Act.eval, Act.put]); (simp [Act.eval, Act.put]); (omega); (have hz := bb.size; omega); (omega); (intro A4 c4 w4 s4 g4))
          | (go_simp; go_wp2_with (go_at_call 60; (first | refine (copyRI q 0 c _ (xs.take c) w1.drew RIt.out ltk.out (by omega)).mono ?_ | refine (copyRI q 0 c _ (xs.take c) (w1.alloc (.cells #[.int .i64 (c : Int)] 2)).drew RItA.out ltk.out (by omega)).mono ?_); rintro e w2 ⟨A2, c2, rfl, s2, b20⟩; have b2 := below_undrew b20; clear b20)))
        all_goals
          have B4 : Hid (Below w1.heap.size w1 w4) := Lib.hid (bb.grown g4 bb.size (fun j hj => (s3.lt_ j hj).1))
          have Sr4 := Lib.hid (Sr1.out.below B4.out (Nat.lt_of_lt_of_le hg hwb))
          have Gr4 := Lib.hid (grown_below2 Gr1.out B4.out)
          obtain ⟨q4, e4⟩ : ∃ q4, A4 = some ⟨q4, 0, none⟩ := by
            rcases s4.at_ with ⟨_, _, e0, _⟩ | ⟨q4, e0, _, _⟩
            · omega
            · exact ⟨q4, e0⟩
          subst e4
          have S4 := Lib.hid (s4.mono hwb)
          clear s4 g4 s3 g3 s2 b2 bb
          go_wp2_with fail
          go_roundg (n - (c + 1))
          case rel => exact ⟨c + 1, _, _, _, by omega, Nat.le_refl _, by go_num, rfl, S4.out, Sr4.out, Gr4.out⟩
          case measure => omega
      · go_wp2_with fail
        go_region_law (first
          | (refine step_appN rfl (.tmp 21) (.tmp 23) rfl w1.heap.size A2 r c2 (xs.take r) ?_ (s2.alloc _) w2.heap.size 0 1 1 [(k : Int)] ?_ (litRI w2 k) rfl ?_ ?_ (r + 1) rfl ?_; (simp [Act.eval, Act.put]); (simp [Act.eval, Act.put]); (omega); (have hz := b2.size; simp at hz ⊢; omega); (intro A3 c3 w3 s3 g3; have bb : Below w1.heap.size w1 w3 := (Below.alloc b2 b2.size _).grown g3 (by have hz := b2.size; simp at hz ⊢; omega) (fun j hj => (s2.lt_ j hj).1)))
          | (refine step_appN rfl (.tmp 21) (.tmp 23) rfl w1.heap.size A2 r c2 (xs.take r) ?_ (s2.mono (by simp)) w1.heap.size 0 1 1 [(k : Int)] ?_ (Lit.out.belowAll b2) rfl ?_ ?_ (r + 1) rfl ?_; (simp [Act.eval, Act.put]); (simp [Act.eval, Act.put]); (omega); (have hz := b2.size; simp at hz ⊢; omega); (intro A3 c3 w3 s3 g3; have bb : Below w1.heap.size w1 w3 := (btr ((Below.refl w1.heap.size w1).alloc (Nat.le_refl _) _) b2).grown g3 (by have hz := b2.size; simp at hz ⊢; omega) (fun j hj => Nat.le_trans (by simp) (s2.lt_ j hj).1)))
          | (refine step_appN rfl (.tmp 24) (.tmp 27) rfl w1.heap.size A3 (r + 1) c3 _ ?_ s3 q r (k - r) (c - r) (xs.drop r) ?_ (DrX.out _ bb) ldr.out ?_ ?_ (k + 1) ?_ ?_; (simp [Act.eval, Act.put]); (simp [Act.eval, Act.put]); (omega); (have hz := bb.size; omega); (omega); (intro A4 c4 w4 s4 g4))
          | (go_simp; go_wp2_with (go_at_call 60; (first | refine (copyRI q 0 r _ (xs.take r) w1.drew RIt.out ltk.out (by omega)).mono ?_ | refine (copyRI q 0 r _ (xs.take r) (w1.alloc (.cells #[.int .i64 (k : Int)] 2)).drew RItA.out ltk.out (by omega)).mono ?_); rintro e w2 ⟨A2, c2, rfl, s2, b20⟩; have b2 := below_undrew b20; clear b20)))
        all_goals
          have B4 : Hid (Below w1.heap.size w1 w4) := Lib.hid (bb.grown g4 bb.size (fun j hj => (s3.lt_ j hj).1))
          have Sr4 := Lib.hid (Sr1.out.below B4.out (Nat.lt_of_lt_of_le hg hwb))
          have Gr4 := Lib.hid (grown_below2 Gr1.out B4.out)
          obtain ⟨q4, e4⟩ : ∃ q4, A4 = some ⟨q4, 0, none⟩ := by
            rcases s4.at_ with ⟨_, _, e0, _⟩ | ⟨q4, e0, _, _⟩
            · omega
            · exact ⟨q4, e0⟩
          subst e4
          have S4 := Lib.hid (s4.mono hwb)
          clear s4 g4 s3 g3 s2 b2 bb
          go_wp2_with fail
          go_roundg (n - (k + 1))
          case rel => exact ⟨k + 1, _, _, _, by omega, Nat.le_refl _, by go_num, rfl, S4.out, Sr4.out, Gr4.out⟩
          case measure => omega
    · have hkn : k = n := by omega
      subst hkn
      go_wp2_with fail
      go_ret
      exact ⟨_, _, _, rfl, Sl.out, Sr.out, Gr.out⟩
end Go.Proofs.YtedfcljikgmpgaaGreat

/- The model's draws of any permutation. Condition: degrees from 1 to 20. -/
namespace Go.Proofs.YtedfcljikgmpgaaGreat
open Go.RowKit

/-- A literal row of numbers, read later. -/
theorem lit_at {w w1 : World} {g : Nat} {cs : Array Value} {r : Nat} (hg : g < w.heap.size) (hb : (w.alloc (.cells cs 2)).grownBy w1 (some g)) (hr : r < cs.size) (hall : ∀ (i : Nat) (h : i < cs.size), ∃ z : Int, cs[i] = .int .i64 z) : ∃ z : Int, w1.cell? ⟨w.heap.size, r, none⟩ = some (.int .i64 z) := by
  obtain ⟨z, hz⟩ := hall r hr
  refine ⟨z, ?_⟩
  rw [World.cell?_of_block (hb.block w.heap.size (by simp) (by intro e; injection e with e; omega)), World.cell?_alloc_at _ _ _ _ rfl]
  show cs[r]? = _
  rw [Array.getElem?_eq_getElem hr, hz]

set_option maxHeartbeats 1600000 in
theorem srcExtreme (g : Nat) (w : World) (hs : Src w g) :
    Calls Tryz.prog 54 #[.pointer (some ⟨g, 0, none⟩)] w fun e w' => ∃ z : Int, e = .returned (.int .i64 z) ∧ Src w' g ∧ w.grownBy w' (some g) := by
  have hg := hs.lt
  have Hs := Lib.hid hs
  clear hs
  go_enter Tryz.func54, Tryz.ntmps54
  go_wp2_with fail
  refine (srcBelow g _ 10 _ (Hs.out.below ((Below.refl w.heap.size w).alloc (Nat.le_refl _) _) hg) rfl (by omega) (by omega)).mono ?_
  rintro e w1 ⟨r, hr, rfl, s1, g1⟩
  have S1 := Lib.hid s1
  have G1 : Hid (w.grownBy w1 (some g)) := Lib.hid (grown_trans' (grown_alloc2 (grown_refl _ _) _) g1)
  obtain ⟨z, hz⟩ := lit_at (r := r) hg g1 hr (by
    intro i h
    have h : i < 10 := h
    rcases i with _ | _ | _ | _ | _ | _ | _ | _ | _ | _ | i
    all_goals first | exact ⟨_, rfl⟩ | omega)
  have p0 : (0 : Int) ≤ r := by omega
  have p1 : (r : Int) < 10 := by omega
  clear s1 g1
  go_wp2_with fail
  go_ret
  exact ⟨z, rfl, S1.out, G1.out⟩

set_option maxHeartbeats 1600000 in
theorem srcNumber (g n : Nat) (w : World) (hs : Src w g) (h1 : 1 ≤ n) (hn : n ≤ 100) :
    Calls Tryz.prog 31 #[.pointer (some ⟨g, 0, none⟩), .int .i64 (n : Int)] w fun e w' => ∃ z : Int, e = .returned (.int .i64 z) ∧ Src w' g ∧ w.grownBy w' (some g) := by
  go_enter Tryz.func31, Tryz.ntmps31
  go_wp2_with fail
  refine (srcOne g _ 10 w hs rfl (by omega) (by omega)).mono ?_
  rintro e w1 ⟨b, rfl, s1, g1⟩
  have S1 := Lib.hid s1
  have G1 := Lib.hid g1
  clear s1 g1
  cases b
  · go_wp2_with fail
    refine (srcOne g _ 2 w1 S1.out rfl (by omega) (by omega)).mono ?_
    rintro e w2 ⟨b, rfl, s2, g2⟩
    have S2 := Lib.hid s2
    have G2 : Hid (w.grownBy w2 (some g)) := Lib.hid (grown_trans' G1.out g2)
    clear s2 g2
    cases b
    · go_wp2_with fail
      refine (srcBelow g _ (n + 1) w2 S2.out (by omega) (by omega) (by omega)).mono ?_
      rintro e w3 ⟨r, hr, rfl, s3, g3⟩
      have S3 := Lib.hid s3
      have G3 : Hid (w.grownBy w3 (some g)) := Lib.hid (grown_trans' G2.out g3)
      clear s3 g3
      go_wp2_with fail
      go_ret
      exact ⟨r, rfl, S3.out, G3.out⟩
    · by_cases h4 : n ≤ 4
      · have hm : (min (n : Int) 4) = (n : Int) := by omega
        have d4 : decide ((n : Int) ≤ 4) = true := by simp; omega
        go_wp2_with fail
        refine (srcBelow g _ (n + 1) w2 S2.out (by omega) (by omega) (by omega)).mono ?_
        rintro e w3 ⟨r, hr, rfl, s3, g3⟩
        have S3 := Lib.hid s3
        have G3 : Hid (w.grownBy w3 (some g)) := Lib.hid (grown_trans' G2.out g3)
        clear s3 g3
        go_wp2_with fail
        go_ret
        exact ⟨r, rfl, S3.out, G3.out⟩
      · have hm : (min (n : Int) 4) = 4 := by omega
        have d4 : decide ((n : Int) ≤ 4) = false := by simp; omega
        go_wp2_with fail
        refine (srcBelow g _ (5) w2 S2.out (by omega) (by omega) (by omega)).mono ?_
        rintro e w3 ⟨r, hr, rfl, s3, g3⟩
        have S3 := Lib.hid s3
        have G3 : Hid (w.grownBy w3 (some g)) := Lib.hid (grown_trans' G2.out g3)
        clear s3 g3
        go_wp2_with fail
        go_ret
        exact ⟨r, rfl, S3.out, G3.out⟩
  · go_wp2_with fail
    refine (srcExtreme g w1 S1.out).mono ?_
    rintro e w2 ⟨z, rfl, s2, g2⟩
    have S2 := Lib.hid s2
    have hg2 := s2.lt
    have G2 : Hid (w.grownBy w2 (some g)) := Lib.hid (grown_trans' G1.out g2)
    clear s2 g2
    go_wp2_with fail
    refine (srcBelow g _ 4 _ (S2.out.below ((Below.refl w2.heap.size w2).alloc (Nat.le_refl _) _) hg2) rfl (by omega) (by omega)).mono ?_
    rintro e w3 ⟨r, hr, rfl, s3, g3⟩
    have S3 := Lib.hid s3
    have G3 : Hid (w.grownBy w3 (some g)) := Lib.hid (grown_trans' (grown_alloc2 G2.out _) g3)
    obtain ⟨y, hy⟩ := lit_at (r := r) hg2 g3 hr (by
      intro i h
      have h : i < 4 := h
      rcases i with _ | _ | _ | _ | i
      all_goals first | exact ⟨_, rfl⟩ | omega)
    have p0 : (0 : Int) ≤ r := by omega
    have p1 : (r : Int) < 4 := by omega
    clear s3 g3
    go_wp2_with fail
    go_ret
    exact ⟨y, rfl, S3.out, G3.out⟩

/-- What can be read: m numbers, in a block from base on. -/
def Pm (w : World) (base : Nat) (A : Option Addr) (m c : Nat) (xs : List Int) : Prop :=
  xs.length = m ∧ m ≤ c ∧ (0 < m → ∃ b off, A = some ⟨b, off, none⟩ ∧ base ≤ b ∧ b < w.heap.size ∧ ∀ j, j < m → w.cell? ⟨b, off + j, none⟩ = some (.int .i64 (xs.getD j 0)))
theorem Pm.of_slc {w : World} {base n c : Nat} {A : Option Addr} {xs : List Int} (h : Slc w base A n c xs) : Pm w base A n c xs := by
  refine ⟨h.1, h.le.1, fun hp => ?_⟩
  have hri := h.ri_
  obtain ⟨b, o, e, hb, hc⟩ := hri (by rw [h.1]; exact hp)
  refine ⟨b, o, e, (h.lt_ b (by subst e; rfl)).1, hb, fun j hj => hc j (by rw [h.1]; exact hj)⟩
theorem Pm.ri {w : World} {base n c : Nat} {A : Option Addr} {xs : List Int} (h : Pm w base A n c xs) : RI w w.heap.size A xs := fun hp => by
  obtain ⟨b, o, e, h1, h2, hc⟩ := h.2.2 (by rw [← h.1]; exact hp)
  exact ⟨b, o, e, h2, fun j hj => hc j (by rw [← h.1]; exact hj)⟩
theorem Pm.gro {w w' : World} {base n c g : Nat} {A : Option Addr} {xs : List Int} (h : Pm w base A n c xs) (hg : w.grownBy w' (some g)) (hb : g < base) : Pm w' base A n c xs := by
  refine ⟨h.1, h.2.1, fun hp => ?_⟩
  obtain ⟨b, o, e, h1, h2, hc⟩ := h.2.2 hp
  exact ⟨b, o, e, h1, Nat.lt_of_lt_of_le h2 hg.size, fun j hj => (World.cell?_of_block (a := ⟨b, o + j, none⟩) (hg.block b h2 (by intro e2; injection e2 with e2; omega))).trans (hc j hj)⟩
theorem Pm.up {w w' : World} {base n c : Nat} {A : Option Addr} {xs : List Int} (h : Pm w base A n c xs) (hb : Below w.heap.size w w') : Pm w' base A n c xs := by
  refine ⟨h.1, h.2.1, fun hp => ?_⟩
  obtain ⟨b, o, e, h1, h2, hc⟩ := h.2.2 hp
  exact ⟨b, o, e, h1, Nat.lt_of_lt_of_le h2 hb.size, fun j hj => (hb.cell (p := ⟨b, o + j, none⟩) h2).trans (hc j hj)⟩
theorem Pm.mono {w : World} {base base' n c : Nat} {A : Option Addr} {xs : List Int} (h : Pm w base A n c xs) (hb : base' ≤ base) : Pm w base' A n c xs := by
  refine ⟨h.1, h.2.1, fun hp => ?_⟩
  obtain ⟨b, o, e, h1, h2, hc⟩ := h.2.2 hp
  exact ⟨b, o, e, by omega, h2, hc⟩
theorem Pm.tail {w : World} {base n c q : Nat} {xs : List Int} (h : Slc w base (some ⟨q, 0, none⟩) n c xs) {A : Option Addr} (hA : 1 < n → A = some ⟨q, 1, none⟩) : Pm w base A (n - 1) (c - 1) (xs.drop 1) := by
  refine ⟨by rw [List.length_drop, h.1], by have := h.le.1; omega, fun hp => ?_⟩
  have hri : RI w w.heap.size (some ⟨q, 0, none⟩) xs := h.ri_
  have lx := h.1
  refine ⟨q, 1, hA (by omega), (h.lt_ q rfl).1, (h.lt_ q rfl).2, fun j hj => ?_⟩
  have := (hri.cellAt (j := 1 + j) (by omega)).2
  rw [Nat.zero_add] at this
  rw [this, List.getD_eq_getElem?_getD, List.getD_eq_getElem?_getD, List.getElem?_drop]

theorem grown_below3 {w w1 w' : World} {row : Option Nat} (h : w.grownBy w1 row) (b : Below w.heap.size w1 w') : w.grownBy w' row :=
  ⟨b.os.trans h.os, b.tape.trans h.tape, b.output.trans h.output, Nat.le_trans h.size b.size, fun k hk hn => (b.block k hk).trans (h.block k hk hn)⟩
theorem drawPermK (g n : Nat) (N : Int) (w : World) (hs : Src w g) (hN : N = (n : Int)) (hn : n ≤ 100) :
    Calls Tryz.prog 52 #[.pointer (some ⟨g, 0, none⟩), .int .i64 N] w fun e w' => ∃ q c xs, e = .returned (.slice (some ⟨q, 0, none⟩) n c) ∧ Slc w' w.heap.size (some ⟨q, 0, none⟩) n c xs ∧ Src w' g ∧ w.grownBy w' (some g) := by
  subst hN; exact drawPerm g n w hs hn
theorem grown_far {w w1 : World} {g q : Nat} (h : w.grownBy w1 (some g)) (hq : w.heap.size ≤ q) (j : Nat) (u : Value) : w.grownBy (w1.setCell ⟨q, j, none⟩ u) (some g) :=
  ⟨h.os, h.tape, h.output, by simpa [World.setCell] using h.size, fun k hk hn => (Below.heap_setCell w1 _ u k (by show k ≠ q; omega)).trans (h.block k hk hn)⟩

set_option maxHeartbeats 4000000 in
theorem drawAny (g n : Nat) (w : World) (hs : Src w g) (h1 : 1 ≤ n) (hn : n ≤ 20) :
    Calls Tryz.prog 32 #[.pointer (some ⟨g, 0, none⟩), .int .i64 (n : Int)] w fun e w' => ∃ A m c xs, e = .returned (.slice A m c) ∧ Pm w' w.heap.size A m c xs ∧ m ≤ 21 ∧ Src w' g ∧ w.grownBy w' (some g) := by
  have hg := hs.lt
  go_enter Tryz.func32, Tryz.ntmps32
  go_wp2_with fail
  refine (drawPerm g n w hs (by omega)).mono ?_
  rintro e w1 ⟨q, c, xs, rfl, sl1, s1, g1⟩
  have Sl1 := Lib.hid sl1
  have S1 := Lib.hid s1
  have G1 := Lib.hid g1
  have hq := (sl1.lt_ q rfl).1
  have hnc := sl1.le.1
  clear sl1 s1 g1
  go_wp2_with fail
  refine (srcOne g _ 12 w1 S1.out rfl (by omega) (by omega)).mono ?_
  rintro e w2 ⟨b2, rfl, s2, g2⟩
  have S2 := Lib.hid s2
  have G2 : Hid (w.grownBy w2 (some g)) := Lib.hid (grown_trans' G1.out g2)
  have Sl2 : Hid (Slc w2 w.heap.size (some ⟨q, 0, none⟩) n c xs) := Lib.hid (Sl1.out.kept g2 (.inr (by intro e; simp [Value.ownBlock] at e; omega)))
  clear s2 g2
  have hn0 : 0 < n := by omega
  cases b2
  · have S4 := S2
    have G4 := G2
    have P4 := Lib.hid (Pm.of_slc Sl2.out)
    have hm4 : n ≤ 21 := by omega
    go_wp2_with fail
    refine (srcOne g _ 60 _ S4.out rfl (by omega) (by omega)).mono ?_
    rintro e w5 ⟨b5, rfl, s5, g5⟩
    have S5 := Lib.hid s5
    have G5 : Hid (w.grownBy w5 (some g)) := Lib.hid (grown_trans' G4.out g5)
    have P5 := Lib.hid (P4.out.gro g5 hg)
    clear s5 g5
    cases b5
    · go_wp2_with fail
      go_ret
      exact ⟨_, _, _, _, rfl, P5.out, hm4, S5.out, G5.out⟩
    · go_wp2_with fail
      refine (srcBelow g _ 2 w5 S5.out rfl (by omega) (by omega)).mono ?_
      rintro e w6 ⟨r6, hr6, rfl, s6, g6⟩
      have S6 := Lib.hid s6
      have G6 : Hid (w.grownBy w6 (some g)) := Lib.hid (grown_trans' G5.out g6)
      clear s6 g6
      go_wp2_with fail
      refine (drawPermK g (20 + r6) _ w6 S6.out (by push_cast; rfl) (by omega)).mono ?_
      rintro e w7 ⟨q7, c7, xs7, rfl, sl7, s7, g7⟩
      have S7 := Lib.hid s7
      have G7 : Hid (w.grownBy w7 (some g)) := Lib.hid (grown_trans' G6.out g7)
      have P7 : Hid (Pm w7 w.heap.size (some ⟨q7, 0, none⟩) (20 + r6) c7 xs7) := Lib.hid ((Pm.of_slc sl7).mono G6.out.size)
      clear s7 g7 sl7
      go_wp2_with fail
      go_ret
      exact ⟨_, _, _, _, rfl, P7.out, by omega, S7.out, G7.out⟩
  · go_wp2_with fail
    refine (srcBelow g _ 3 w2 S2.out rfl (by omega) (by omega)).mono ?_
    rintro e w3 ⟨r3, hr3, rfl, s3, g3⟩
    have S3 := Lib.hid s3
    have G3 : Hid (w.grownBy w3 (some g)) := Lib.hid (grown_trans' G2.out g3)
    have Sl3 : Hid (Slc w3 w.heap.size (some ⟨q, 0, none⟩) n c xs) := Lib.hid (Sl2.out.kept g3 (.inr (by intro e; simp [Value.ownBlock] at e; omega)))
    clear s3 g3
    obtain rfl | rfl | rfl : r3 = 0 ∨ r3 = 1 ∨ r3 = 2 := by omega
    · go_wp2_with fail
      refine (srcBelow g _ n w3 S3.out rfl (by omega) (by omega)).mono ?_
      rintro e w8 ⟨i, hi, rfl, s8, g8⟩
      have S8 := Lib.hid s8
      have G8 : Hid (w.grownBy w8 (some g)) := Lib.hid (grown_trans' G3.out g8)
      have Sl8 : Hid (Slc w8 w.heap.size (some ⟨q, 0, none⟩) n c xs) := Lib.hid (Sl3.out.kept g8 (.inr (by intro e; simp [Value.ownBlock] at e; omega)))
      clear s8 g8
      go_wp2_with fail
      refine (srcNumber g n w8 S8.out h1 (by omega)).mono ?_
      rintro e w9 ⟨z, rfl, s9, g9⟩
      have row : Row w9 w.heap.size q n c xs := Row.of_own (by have := (Sl8.out.kept g9 (.inr (by intro e; simp [Value.ownBlock] at e; omega))); have h2 := this.2; rw [← this.1] at h2; rw [this.1] at h2; exact h2)
      have c9 := row.cell hi
      have f9 := row.free i
      have p0 : (0 : Int) ≤ i := by omega
      have p1 : (i : Int) < n := by omega
      have P4 := Lib.hid (Pm.of_slc (row.store i z).slc)
      have S4 : Hid (Src (w9.setCell ⟨q, i, none⟩ (.int .i64 z)) g) := Lib.hid (s9.below ((Below.refl (g + 1) w9).setCell (by show g + 1 ≤ q; omega) _) (by omega))
      have G4 : Hid (w.grownBy (w9.setCell ⟨q, i, none⟩ (.int .i64 z)) (some g)) := Lib.hid (grown_far (grown_trans' G8.out g9) hq _ _)
      have hm4 : n ≤ 21 := by omega
      clear s9 g9 row
      go_wp2_with fail
      refine (srcOne g _ 60 _ S4.out rfl (by omega) (by omega)).mono ?_
      rintro e w5 ⟨b5, rfl, s5, g5⟩
      have S5 := Lib.hid s5
      have G5 : Hid (w.grownBy w5 (some g)) := Lib.hid (grown_trans' G4.out g5)
      have P5 := Lib.hid (P4.out.gro g5 hg)
      clear s5 g5
      cases b5
      · go_wp2_with fail
        go_ret
        exact ⟨_, _, _, _, rfl, P5.out, hm4, S5.out, G5.out⟩
      · go_wp2_with fail
        refine (srcBelow g _ 2 w5 S5.out rfl (by omega) (by omega)).mono ?_
        rintro e w6 ⟨r6, hr6, rfl, s6, g6⟩
        have S6 := Lib.hid s6
        have G6 : Hid (w.grownBy w6 (some g)) := Lib.hid (grown_trans' G5.out g6)
        clear s6 g6
        go_wp2_with fail
        refine (drawPermK g (20 + r6) _ w6 S6.out (by push_cast; rfl) (by omega)).mono ?_
        rintro e w7 ⟨q7, c7, xs7, rfl, sl7, s7, g7⟩
        have S7 := Lib.hid s7
        have G7 : Hid (w.grownBy w7 (some g)) := Lib.hid (grown_trans' G6.out g7)
        have P7 : Hid (Pm w7 w.heap.size (some ⟨q7, 0, none⟩) (20 + r6) c7 xs7) := Lib.hid ((Pm.of_slc sl7).mono G6.out.size)
        clear s7 g7 sl7
        go_wp2_with fail
        go_ret
        exact ⟨_, _, _, _, rfl, P7.out, by omega, S7.out, G7.out⟩
    · have p1 : (1 : Int) ≤ n := by omega
      have p2 : (1 : Int) ≤ c := by omega
      have S4 := S3
      have G4 := G3
      have hm4 : n - 1 ≤ 21 := by omega
      by_cases hc1 : c = 1
      · have P4 : Hid (Pm w3 w.heap.size (some ⟨q, 0, none⟩) (n - 1) 0 (xs.drop 1)) := Lib.hid (by have := Pm.tail (A := some ⟨q, 0, none⟩) Sl3.out (fun h => by omega); rw [show c - 1 = 0 by omega] at this; exact this)
        go_wp2_with fail
        refine (srcOne g _ 60 _ S4.out rfl (by omega) (by omega)).mono ?_
        rintro e w5 ⟨b5, rfl, s5, g5⟩
        have S5 := Lib.hid s5
        have G5 : Hid (w.grownBy w5 (some g)) := Lib.hid (grown_trans' G4.out g5)
        have P5 := Lib.hid (P4.out.gro g5 hg)
        clear s5 g5
        cases b5
        · go_wp2_with fail
          go_ret
          exact ⟨_, _, _, _, rfl, P5.out, hm4, S5.out, G5.out⟩
        · go_wp2_with fail
          refine (srcBelow g _ 2 w5 S5.out rfl (by omega) (by omega)).mono ?_
          rintro e w6 ⟨r6, hr6, rfl, s6, g6⟩
          have S6 := Lib.hid s6
          have G6 : Hid (w.grownBy w6 (some g)) := Lib.hid (grown_trans' G5.out g6)
          clear s6 g6
          go_wp2_with fail
          refine (drawPermK g (20 + r6) _ w6 S6.out (by push_cast; rfl) (by omega)).mono ?_
          rintro e w7 ⟨q7, c7, xs7, rfl, sl7, s7, g7⟩
          have S7 := Lib.hid s7
          have G7 : Hid (w.grownBy w7 (some g)) := Lib.hid (grown_trans' G6.out g7)
          have P7 : Hid (Pm w7 w.heap.size (some ⟨q7, 0, none⟩) (20 + r6) c7 xs7) := Lib.hid ((Pm.of_slc sl7).mono G6.out.size)
          clear s7 g7 sl7
          go_wp2_with fail
          go_ret
          exact ⟨_, _, _, _, rfl, P7.out, by omega, S7.out, G7.out⟩
      · have P4 : Hid (Pm w3 w.heap.size (some ⟨q, 1, none⟩) (n - 1) (c - 1) (xs.drop 1)) := Lib.hid (Pm.tail Sl3.out (fun _ => rfl))
        go_wp2_with fail
        refine (srcOne g _ 60 _ S4.out rfl (by omega) (by omega)).mono ?_
        rintro e w5 ⟨b5, rfl, s5, g5⟩
        have S5 := Lib.hid s5
        have G5 : Hid (w.grownBy w5 (some g)) := Lib.hid (grown_trans' G4.out g5)
        have P5 := Lib.hid (P4.out.gro g5 hg)
        clear s5 g5
        cases b5
        · go_wp2_with fail
          go_ret
          exact ⟨_, _, _, _, rfl, P5.out, hm4, S5.out, G5.out⟩
        · go_wp2_with fail
          refine (srcBelow g _ 2 w5 S5.out rfl (by omega) (by omega)).mono ?_
          rintro e w6 ⟨r6, hr6, rfl, s6, g6⟩
          have S6 := Lib.hid s6
          have G6 : Hid (w.grownBy w6 (some g)) := Lib.hid (grown_trans' G5.out g6)
          clear s6 g6
          go_wp2_with fail
          refine (drawPermK g (20 + r6) _ w6 S6.out (by push_cast; rfl) (by omega)).mono ?_
          rintro e w7 ⟨q7, c7, xs7, rfl, sl7, s7, g7⟩
          have S7 := Lib.hid s7
          have G7 : Hid (w.grownBy w7 (some g)) := Lib.hid (grown_trans' G6.out g7)
          have P7 : Hid (Pm w7 w.heap.size (some ⟨q7, 0, none⟩) (20 + r6) c7 xs7) := Lib.hid ((Pm.of_slc sl7).mono G6.out.size)
          clear s7 g7 sl7
          go_wp2_with fail
          go_ret
          exact ⟨_, _, _, _, rfl, P7.out, by omega, S7.out, G7.out⟩
    · have hz := G3.out.size
      go_wp2_with (first | (at_builtin; refine wpList_app1 rfl _ _ rfl w.heap.size (some ⟨q, 0, none⟩) n c _ rfl (Sl3.out.alloc _) w3.heap.size (n : Int) rfl (by rw [World.cell?_alloc_at _ _ _ _ rfl]; rfl) (by omega) (by simp; omega) ?_; intro A4 c4 w4 s4 g4))
      have P4 := Lib.hid (Pm.of_slc s4)
      have B4 : Below w.heap.size w3 w4 := ((Below.refl _ w3).alloc hz _).grown g4 (by simp; omega) (fun j hj => (Sl3.out.lt_ j hj).1)
      have S4 : Hid (Src w4 g) := Lib.hid (S3.out.below B4 hg)
      have G4 : Hid (w.grownBy w4 (some g)) := Lib.hid (grown_below3 G3.out B4)
      have hm4 : n + 1 ≤ 21 := by omega
      clear s4 g4 B4
      go_wp2_with fail
      refine (srcOne g _ 60 _ S4.out rfl (by omega) (by omega)).mono ?_
      rintro e w5 ⟨b5, rfl, s5, g5⟩
      have S5 := Lib.hid s5
      have G5 : Hid (w.grownBy w5 (some g)) := Lib.hid (grown_trans' G4.out g5)
      have P5 := Lib.hid (P4.out.gro g5 hg)
      clear s5 g5
      cases b5
      · go_wp2_with fail
        go_ret
        exact ⟨_, _, _, _, rfl, P5.out, hm4, S5.out, G5.out⟩
      · go_wp2_with fail
        refine (srcBelow g _ 2 w5 S5.out rfl (by omega) (by omega)).mono ?_
        rintro e w6 ⟨r6, hr6, rfl, s6, g6⟩
        have S6 := Lib.hid s6
        have G6 : Hid (w.grownBy w6 (some g)) := Lib.hid (grown_trans' G5.out g6)
        clear s6 g6
        go_wp2_with fail
        refine (drawPermK g (20 + r6) _ w6 S6.out (by push_cast; rfl) (by omega)).mono ?_
        rintro e w7 ⟨q7, c7, xs7, rfl, sl7, s7, g7⟩
        have S7 := Lib.hid s7
        have G7 : Hid (w.grownBy w7 (some g)) := Lib.hid (grown_trans' G6.out g7)
        have P7 : Hid (Pm w7 w.heap.size (some ⟨q7, 0, none⟩) (20 + r6) c7 xs7) := Lib.hid ((Pm.of_slc sl7).mono G6.out.size)
        clear s7 g7 sl7
        go_wp2_with fail
        go_ret
        exact ⟨_, _, _, _, rfl, P7.out, by omega, S7.out, G7.out⟩
end Go.Proofs.YtedfcljikgmpgaaGreat

/- Words for slices of slices of int64 that the call itself made. No condition. -/
namespace Go.Proofs.YtedfcljikgmpgaaGreat
open Go.RowKit

abbrev SV := Option Addr × Nat × Nat
def sval (d : SV) : Value := .slice d.1 d.2.1 d.2.2
def sd0 : SV := (none, 0, 0)

/-- '.slice A n c' is a row of the call's own of n slices vs, which are rows of the call's own that hold the lists xss; no two of them share a block. -/
structure SS (w : World) (base bi : Nat) (A : Option Addr) (n c : Nat) (vs : List SV) (xss : List (List Int)) : Prop where
  own : w.ownsRow base 37 1 (.slice A n c) n (vs.map sval)
  lv : vs.length = n
  lx : xss.length = n
  row : ∀ i, i < n → Slc w bi (vs.getD i sd0).1 (vs.getD i sd0).2.1 (vs.getD i sd0).2.2 (xss.getD i [])
  dis : ∀ i j, i < j → j < n → (sval (vs.getD i sd0)).ownBlock = none ∨ (sval (vs.getD i sd0)).ownBlock ≠ (sval (vs.getD j sd0)).ownBlock

theorem infoS : (Tryz.prog.info? 37).map (fun i => (i.zero, i.size, i.bytes)) = some (some (.slice none 0 0), 1, 24) := by kernel_rfl

theorem getD_app {α : Type} (l l' : List α) (d : α) (i : Nat) (h : i < l.length) : (l ++ l').getD i d = l.getD i d := by
  rw [List.getD_eq_getElem?_getD, List.getElem?_append_left h, ← List.getD_eq_getElem?_getD]
theorem getD_snoc {α : Type} (l : List α) (x d : α) (i : Nat) (h : i = l.length) : (l ++ [x]).getD i d = x := by
  subst h
  rw [List.getD_eq_getElem?_getD, List.getElem?_append_right (Nat.le_refl _), Nat.sub_self]; rfl

section
variable {w w' : World} {base bi n c B : Nat} {A : Option Addr} {vs : List SV} {xss : List (List Int)}
theorem SS.nil_ : SS w base bi none 0 0 [] [] := ⟨World.ownsRow_nil _ _ _ _, rfl, rfl, fun i h => absurd h (by omega), fun i j _ h => absurd h (by omega)⟩
theorem SS.lit0 (w : World) (base bi : Nat) (hb : base ≤ w.heap.size) : SS (w.alloc (.cells #[] 37)) base bi (some ⟨w.heap.size, 0, none⟩) 0 0 [] [] :=
  ⟨World.ownsRow_lit (size := 1) w #[] 0 hb (Nat.zero_le _) rfl, rfl, rfl, fun i h => absurd h (by omega), fun i j _ h => absurd h (by omega)⟩
/-- An inner row never lies in the outer row's block: their elements' types differ. -/
theorem apart_types {a n' c' : Nat} {A' : Option Addr} {xs : List Int} {base' : Nat} {v : Value} {ys : List Value} (h : Slc w base' A' n' c' xs) (ho : w.ownsRow base 37 1 v a ys) :
    (Value.slice A' n' c').ownBlock = none ∨ (Value.slice A' n' c').ownBlock ≠ v.ownBlock := by
  rcases h.2.2 with ⟨e, _⟩ | ⟨g, cap, cur, e, hb, hg, _⟩
  · left; rw [e]; rfl
  · right
    rw [e]
    rcases ho.2 with ⟨rfl, _⟩ | ⟨g', cap', cur', rfl, hb', hg', _⟩
    · simp [Value.ownBlock]
    · simp only [Value.ownBlock]
      intro e2
      injection e2 with e2
      subst e2
      rw [hg] at hg'
      injection hg' with hg'
      injection hg' with _ ht
      exact absurd ht (by decide)
theorem SS.below_lt (h : SS w base bi A n c vs xss) (hb : Below B w w') (hB : w.heap.size ≤ B) : SS w' base bi A n c vs xss := by
  refine ⟨⟨h.own.1, ?_⟩, h.lv, h.lx, fun i hi => (h.row i hi).below hb hB, h.dis⟩
  rcases h.own.2 with hn | ⟨g, cap, cur, e, hb', hg, rest⟩
  · exact .inl hn
  · exact .inr ⟨g, cap, cur, e, hb', by rw [hb.block g (by have := (Array.getElem?_eq_some_iff.1 hg).1; omega)]; exact hg, rest⟩
theorem SS.up (h : SS w base bi A n c vs xss) (hb : Below w.heap.size w w') : SS w' base bi A n c vs xss := h.below_lt hb (Nat.le_refl _)
theorem SS.drewN (h : SS w base bi A n c vs xss) (k : Nat) : SS (w.drewN k) base bi A n c vs xss := ⟨h.own, h.lv, h.lx, fun i hi => (h.row i hi).drewN k, h.dis⟩
theorem SS.mono (h : SS w base bi A n c vs xss) {base' bi' : Nat} (hb : base' ≤ base) (hi' : bi' ≤ bi) : SS w base' bi' A n c vs xss := by
  refine ⟨⟨h.own.1, ?_⟩, h.lv, h.lx, fun i hi => (h.row i hi).mono hi', h.dis⟩
  rcases h.own.2 with hn | ⟨g, cap, cur, e, hb', rest⟩
  · exact .inl hn
  · exact .inr ⟨g, cap, cur, e, by omega, rest⟩
theorem SS.alloc (h : SS w base bi A n c vs xss) (o : Obj) : SS (w.alloc o) base bi A n c vs xss := ⟨World.ownsRow.alloc h.own o, h.lv, h.lx, fun i hi => (h.row i hi).alloc o, h.dis⟩
/-- The outer row's cells. -/
theorem SS.at_ (h : SS w base bi A n c vs xss) (hn : 0 < n) : ∃ g, A = some ⟨g, 0, none⟩ ∧ base ≤ g ∧ g < w.heap.size ∧ ∀ i, i < n → w.cell? ⟨g, i, none⟩ = some (.slice (vs.getD i sd0).1 (vs.getD i sd0).2.1 (vs.getD i sd0).2.2) := by
  rcases h.own.2 with ⟨e, h0⟩ | ⟨g, cap, cur, e, hb, hg, rest⟩
  · omega
  · injection e with e1 e2 e3
    subst e1
    refine ⟨g, rfl, hb, (Array.getElem?_eq_some_iff.1 hg).1, fun i hi => ?_⟩
    rw [h.own.cellAt i (by omega), List.getElem?_map, List.getD_eq_getElem?_getD, List.getElem?_eq_getElem (by rw [h.lv]; exact hi)]
    rfl
theorem SS.lt_ (h : SS w base bi A n c vs xss) : ∀ k, (Value.slice A n c).ownBlock = some k → base ≤ k ∧ k < w.heap.size := World.ownsRow.lt h.own

/-- append of one slice onto a slice of slices of the call's own. -/
theorem wpList_app2_at {ops : Array Oper} {rest : List Oper} {o : Oper} {a : Act} {Q : Exit → Act → World → Prop} (hgd : o.guard = none) (s x : Operand)
    (ho : o.op = .call { callee := .builtin .append, args := #[s, x], argTypes := #[24, 24] })
    (hs : a.eval s = .slice A n c) (hss : SS w base bi A n c vs xss) (g : Nat) (dA : Option Addr) (dn dc : Nat) (ys : List Int) (hx : a.eval x = .slice (some ⟨g, 0, none⟩) 1 1)
    (hcell : w.cell? ⟨g, 0, none⟩ = some (.slice dA dn dc)) (hys : Slc w bi dA dn dc ys)
    (hdis : ∀ i, i < n → (sval (vs.getD i sd0)).ownBlock = none ∨ (sval (vs.getD i sd0)).ownBlock ≠ (Value.slice dA dn dc).ownBlock) (hn : n ≤ 1000000000) (hbase : base ≤ w.heap.size)
    (h : ∀ A' c' w', SS w' base bi A' (n + 1) c' (vs ++ [(dA, dn, dc)]) (xss ++ [ys]) → w.grownBy w' (Value.slice A n c).ownBlock → ((Value.slice A' (n + 1) c').ownBlock = (Value.slice A n c).ownBlock ∨ (Value.slice A' (n + 1) c').ownBlock = some w.heap.size) → wpList Tryz.prog ops Q rest (a.put o.dst (.slice A' (n + 1) c')) w') : wpList Tryz.prog ops Q (o :: rest) a w := by
  obtain ⟨i0, hi, hz0, hz1, hz2⟩ := info_parts infoS
  refine wpList_append_own_at w hgd s x 24 ho base 37 i0 (.slice none 0 0) 1 24 Tryz.underlying24 hi hz0 hz1 hz2 rfl (by decide) _ n _ hs hss.own ⟨g, 0, none⟩ 1 1 [.slice dA dn dc] hx rfl ?_ ?_ ?_ (by omega) hbase ?_
  · intro j v hj
    match j, hj with
    | 0, hj => simp at hj; subst hj; simpa [Addr.add] using hcell
    | j + 1, hj => simp at hj
  · intro v hv; simp at hv; subst hv; rfl
  · unfold maxLen; omega
  · intro v' w' hown' hg _ hat
    have hform : ∃ A' c', v' = .slice A' (n + 1) c' := by
      rcases hown'.2 with ⟨rfl, h0⟩ | ⟨g', cap, cur, rfl, _⟩
      · omega
      · exact ⟨_, _, rfl⟩
    obtain ⟨A', c', rfl⟩ := hform
    refine h A' c' w' ⟨?_, by simp [hss.lv], by simp [hss.lx], fun i hi' => ?_, fun i j hij hj => ?_⟩ hg hat
    · rw [List.map_append]; exact hown'
    · by_cases e : i < n
      · rw [getD_app _ _ _ _ (by rw [hss.lv]; exact e), getD_app _ _ _ _ (by rw [hss.lx]; exact e)]
        exact (hss.row i e).kept hg (apart_types (hss.row i e) hss.own)
      · obtain rfl : i = n := by omega
        rw [getD_snoc _ _ _ _ hss.lv.symm, getD_snoc _ _ _ _ hss.lx.symm]
        exact hys.kept hg (apart_types hys hss.own)
    · rw [getD_app _ _ _ i (by rw [hss.lv]; omega)]
      by_cases e : j < n
      · rw [getD_app _ _ _ j (by rw [hss.lv]; exact e)]; exact hss.dis i j hij e
      · obtain rfl : j = n := by omega
        rw [getD_snoc _ _ _ _ hss.lv.symm]
        exact hdis i hij
/-- append of one slice onto a slice of slices of the call's own. -/
theorem wpList_app2 {ops : Array Oper} {rest : List Oper} {o : Oper} {a : Act} {Q : Exit → Act → World → Prop} (hgd : o.guard = none) (s x : Operand)
    (ho : o.op = .call { callee := .builtin .append, args := #[s, x], argTypes := #[24, 24] })
    (hs : a.eval s = .slice A n c) (hss : SS w base bi A n c vs xss) (g : Nat) (dA : Option Addr) (dn dc : Nat) (ys : List Int) (hx : a.eval x = .slice (some ⟨g, 0, none⟩) 1 1)
    (hcell : w.cell? ⟨g, 0, none⟩ = some (.slice dA dn dc)) (hys : Slc w bi dA dn dc ys)
    (hdis : ∀ i, i < n → (sval (vs.getD i sd0)).ownBlock = none ∨ (sval (vs.getD i sd0)).ownBlock ≠ (Value.slice dA dn dc).ownBlock) (hn : n ≤ 1000000000) (hbase : base ≤ w.heap.size)
    (h : ∀ A' c' w', SS w' base bi A' (n + 1) c' (vs ++ [(dA, dn, dc)]) (xss ++ [ys]) → w.grownBy w' (Value.slice A n c).ownBlock → wpList Tryz.prog ops Q rest (a.put o.dst (.slice A' (n + 1) c')) w') : wpList Tryz.prog ops Q (o :: rest) a w :=
  wpList_app2_at hgd s x ho hs hss g dA dn dc ys hx hcell hys hdis hn hbase fun A' c' w' h1 h2 _ => h A' c' w' h1 h2
/-- What lies from block lo on is kept where those blocks are. -/
theorem Slc.mid {base n c lo : Nat} {A : Option Addr} {xs : List Int} (h : Slc w base A n c xs) (hm : ∀ k, lo ≤ k → k < w.heap.size → w'.heap[k]? = w.heap[k]?) (hl : lo ≤ base) : Slc w' base A n c xs := by
  refine ⟨h.1, h.2.1, ?_⟩
  rcases h.2.2 with hn | ⟨g, cap, cur, e, hb, hg, rest⟩
  · exact .inl hn
  · exact .inr ⟨g, cap, cur, e, hb, by rw [hm g (by omega) (Array.getElem?_eq_some_iff.1 hg).1]; exact hg, rest⟩
theorem SS.mid {lo : Nat} (h : SS w base bi A n c vs xss) (hm : ∀ k, lo ≤ k → k < w.heap.size → w'.heap[k]? = w.heap[k]?) (hl : lo ≤ base) (hi : lo ≤ bi) : SS w' base bi A n c vs xss := by
  refine ⟨⟨h.own.1, ?_⟩, h.lv, h.lx, fun i hi' => (h.row i hi').mid hm hi, h.dis⟩
  rcases h.own.2 with hn | ⟨g, cap, cur, e, hb, hg, rest⟩
  · exact .inl hn
  · exact .inr ⟨g, cap, cur, e, hb, by rw [hm g (by omega) (Array.getElem?_eq_some_iff.1 hg).1]; exact hg, rest⟩
end
theorem lies_dis {w : World} {base bi n c : Nat} {A : Option Addr} {vs : List SV} {xss : List (List Int)} (h : SS w base bi A n c vs xss) {dA : Option Addr} {dn dc lo hi : Nat} (l : Lies dA dn dc lo hi) (hlo : w.heap.size ≤ lo) :
    ∀ i, i < n → (sval (vs.getD i sd0)).ownBlock = none ∨ (sval (vs.getD i sd0)).ownBlock ≠ (Value.slice dA dn dc).ownBlock :=
  fun i hi => (h.row i hi).lies.apart l (.inl hlo)
end Go.Proofs.YtedfcljikgmpgaaGreat

/- Slices of slices of int64 that are only read, and the laws' helpers on them. Conditions: at most 1048576 slices, numbers in all. -/
namespace Go.Proofs.YtedfcljikgmpgaaGreat
open Go.RowKit

/-- '.slice A n _' reads as the slices vs, which read as the lists xss, all in blocks below B. -/
structure RR (w : World) (B : Nat) (A : Option Addr) (n : Nat) (vs : List SV) (xss : List (List Int)) : Prop where
  lv : vs.length = n
  lx : xss.length = n
  cells : 0 < n → ∃ b off, A = some ⟨b, off, none⟩ ∧ b < B ∧ ∀ j, j < n → w.cell? ⟨b, off + j, none⟩ = some (.slice (vs.getD j sd0).1 (vs.getD j sd0).2.1 (vs.getD j sd0).2.2)
  rows : ∀ j, j < n → RI w B (vs.getD j sd0).1 (xss.getD j [])
  lens : ∀ j, j < n → (xss.getD j []).length = (vs.getD j sd0).2.1
  caps : ∀ j, j < n → (vs.getD j sd0).2.1 ≤ (vs.getD j sd0).2.2

section
variable {w w' : World} {B B' n : Nat} {A : Option Addr} {vs : List SV} {xss : List (List Int)}
theorem RR.keep (h : RR w B A n vs xss) (hk : ∀ p : Addr, p.block < B → w'.cell? p = w.cell? p) : RR w' B A n vs xss :=
  ⟨h.lv, h.lx, fun hn => by obtain ⟨b, off, e, hb, hc⟩ := h.cells hn; exact ⟨b, off, e, hb, fun j hj => (hk ⟨b, off + j, none⟩ hb).trans (hc j hj)⟩, fun j hj => (h.rows j hj).keep hk, h.lens, h.caps⟩
theorem RR.more (h : RR w B A n vs xss) (hB : B ≤ B') : RR w B' A n vs xss :=
  ⟨h.lv, h.lx, fun hn => by obtain ⟨b, off, e, hb, hc⟩ := h.cells hn; exact ⟨b, off, e, by omega, hc⟩, fun j hj => (h.rows j hj).more hB, h.lens, h.caps⟩
theorem RR.below (h : RR w B A n vs xss) {B' : Nat} (hb : Below B' w w') (hB : B ≤ B') : RR w' B A n vs xss := h.keep fun _ hp => hb.cell (by omega)
theorem RR.up (h : RR w w.heap.size A n vs xss) (hb : Below w.heap.size w w') : RR w' w'.heap.size A n vs xss := (h.below hb (Nat.le_refl _)).more hb.size
theorem RR.drewN (h : RR w B A n vs xss) (k : Nat) : RR (w.drewN k) B A n vs xss := h.keep fun _ _ => rfl
theorem RR.alloc (h : RR w B A n vs xss) (hB : B ≤ w.heap.size) (o : Obj) : RR (w.alloc o) B A n vs xss := h.keep fun p hp => World.cell?_alloc_lt w o p (by omega)
theorem RR.grown (h : RR w B A n vs xss) {row : Option Nat} (hg : w.grownBy w' row) (hB : B ≤ w.heap.size) (hr : ∀ g, row = some g → B ≤ g) : RR w' B A n vs xss :=
  h.keep fun p hp => World.cell?_of_block (hg.block p.block (by omega) (fun e => by have := hr _ e.symm; omega))
theorem RR.setCell (h : RR w B A n vs xss) {p : Addr} (hB : B ≤ p.block) (u : Value) : RR (w.setCell p u) B A n vs xss :=
  h.keep fun q hq => World.cell?_setCell_other w p q u (fun e => by subst e; omega)
theorem RR.nil_ : RR w B A 0 [] [] := ⟨rfl, rfl, fun h => absurd h (by omega), fun j h => absurd h (by omega), fun j h => absurd h (by omega), fun j h => absurd h (by omega)⟩
/-- What the k-th slice is. -/
theorem RR.at_ (h : RR w B A n vs xss) {k : Nat} (hk : k < n) : ∃ b off A5 l c5 y, A = some ⟨b, off, none⟩ ∧ b < B ∧ vs.getD k sd0 = (A5, l, c5) ∧ xss.getD k [] = y ∧
    w.cell? ⟨b, off + k, none⟩ = some (.slice A5 l c5) ∧ RI w B A5 y ∧ y.length = l ∧ l ≤ c5 := by
  obtain ⟨b, off, e, hb, hc⟩ := h.cells (by omega)
  exact ⟨b, off, _, _, _, _, e, hb, rfl, rfl, hc k hk, h.rows k hk, h.lens k hk, h.caps k hk⟩
theorem SS.rr {bo bi c : Nat} (h : SS w bo bi A n c vs xss) : RR w w.heap.size A n vs xss :=
  ⟨h.lv, h.lx, fun hn => by obtain ⟨g, e, _, hg, hc⟩ := h.at_ hn; exact ⟨g, 0, e, hg, fun j hj => by rw [Nat.zero_add]; exact hc j hj⟩, fun j hj => (h.row j hj).ri_, fun j hj => (h.row j hj).1, fun j hj => (h.row j hj).le.1⟩
end

/-- The sum of the first k lengths. -/
def tot : List SV → Nat → Nat
  | _, 0 => 0
  | vs, k + 1 => tot vs k + (vs.getD k sd0).2.1
theorem tot_succ (vs : List SV) (k : Nat) : tot vs (k + 1) = tot vs k + (vs.getD k sd0).2.1 := rfl
theorem tot_mono {vs : List SV} {a b : Nat} (h : a ≤ b) : tot vs a ≤ tot vs b := by
  induction b with
  | zero => obtain rfl : a = 0 := by omega
            exact Nat.le_refl _
  | succ b ih =>
    by_cases e : a = b + 1
    · subst e; exact Nat.le_refl _
    · have := ih (by omega); rw [tot_succ]; omega
theorem tot_row {vs : List SV} {k n : Nat} (h : k < n) : (vs.getD k sd0).2.1 ≤ tot vs n := by
  have := tot_mono (vs := vs) (show k + 1 ≤ n from h)
  rw [tot_succ] at this; omega
theorem tot_eq {vs us : List SV} : ∀ n, (∀ i, i < n → (vs.getD i sd0).2.1 = (us.getD i sd0).2.1) → tot vs n = tot us n
  | 0, _ => rfl
  | n + 1, h => by rw [tot_succ, tot_succ, tot_eq n (fun i hi => h i (by omega)), h n (by omega)]
theorem tot_le_mul {vs : List SV} {n m : Nat} (h : ∀ i, i < n → (vs.getD i sd0).2.1 ≤ m) : tot vs n ≤ n * m := by
  induction n with
  | zero => exact Nat.zero_le _
  | succ n ih => have := ih (fun i hi => h i (by omega)); have := h n (by omega); rw [tot_succ, Nat.succ_mul]; omega

theorem getD_set_ne {α : Type} {l : List α} {i j : Nat} {x d : α} (h : i ≠ j) : (l.set i x).getD j d = l.getD j d := by
  rw [List.getD_eq_getElem?_getD, List.getElem?_set, if_neg h, ← List.getD_eq_getElem?_getD]
theorem getD_set_eq {α : Type} {l : List α} {i : Nat} {x d : α} (h : i < l.length) : (l.set i x).getD i d = x := by
  rw [List.getD_eq_getElem?_getD, List.getElem?_set, if_pos rfl, if_pos h]; rfl
theorem getD_rep {α : Type} {n i : Nat} {d : α} : (List.replicate n d).getD i d = d := by
  rw [List.getD_eq_getElem?_getD, List.getElem?_replicate]; split <;> rfl
/-- 'make([][]int64, n)': a row of nil slices. -/
theorem SS.made {w : World} {base bi g n : Nat} (h : w.ownsRow base 37 1 (.slice (some ⟨g, 0, none⟩) n n) n (madeCells (Value.slice none 0 0).cells (n * 1)).toList) : SS w base bi (some ⟨g, 0, none⟩) n n (List.replicate n sd0) (List.replicate n []) := by
  refine ⟨?_, by simp, by simp, fun i _ => ?_, fun i j _ _ => ?_⟩
  · have e : (madeCells (Value.slice none 0 0).cells (n * 1)).toList = (List.replicate n sd0).map sval := by
      show (madeCells #[Value.slice none 0 0] (n * 1)).toList = _
      rw [toList_madeCells_one]; simp [sval, sd0]
    rw [← e]; exact h
  · rw [getD_rep, getD_rep]; exact Slc.nil_
  · rw [getD_rep]; exact .inl rfl
/-- Where cell j of the outer row takes another slice. -/
theorem SS.store {w : World} {base bi g n c j dn dc : Nat} {dA : Option Addr} {vs : List SV} {xss : List (List Int)} {ys : List Int} (h : SS w base bi (some ⟨g, 0, none⟩) n c vs xss) (hj : j < n) (hs : Slc w bi dA dn dc ys)
    (hd : ∀ i, i < n → i ≠ j → (sval (vs.getD i sd0)).ownBlock = none ∨ (sval (vs.getD i sd0)).ownBlock ≠ (Value.slice dA dn dc).ownBlock) :
    SS (w.setCell ⟨g, j, none⟩ (.slice dA dn dc)) base bi (some ⟨g, 0, none⟩) n c (vs.set j (dA, dn, dc)) (xss.set j ys) ∧ w.grownBy (w.setCell ⟨g, j, none⟩ (.slice dA dn dc)) (some g) := by
  obtain ⟨hown, hgr⟩ := h.own.stored j (.slice dA dn dc)
  refine ⟨⟨by rw [List.map_set]; exact hown, by rw [List.length_set]; exact h.lv, by rw [List.length_set]; exact h.lx, fun i hi => ?_, fun a b hab hb => ?_⟩, hgr⟩
  · by_cases e : j = i
    · subst e
      rw [getD_set_eq (by rw [h.lv]; exact hj), getD_set_eq (by rw [h.lx]; exact hj)]
      exact hs.kept hgr (apart_types hs h.own)
    · rw [getD_set_ne e, getD_set_ne e]
      exact (h.row i hi).kept hgr (apart_types (h.row i hi) h.own)
  · by_cases ea : j = a
    · subst ea
      rw [getD_set_eq (by rw [h.lv]; exact hj), getD_set_ne (by omega)]
      rcases hd b hb (by omega) with e | e
      · rw [e]
        rcases (sval (dA, dn, dc)).ownBlock with _ | q
        · exact .inl rfl
        · exact .inr (by simp)
      · exact .inr fun e2 => e e2.symm
    · rw [getD_set_ne ea]
      by_cases eb : j = b
      · subst eb
        rw [getD_set_eq (by rw [h.lv]; exact hj)]
        exact hd a (by omega) (by omega)
      · rw [getD_set_ne eb]; exact h.dis a b hab hb

end Go.Proofs.YtedfcljikgmpgaaGreat

/- Orbits under lists of maps, as a search in the order of discovery; sorted orbits; the sweep over all points. No Go in it. No condition. -/
namespace Go.Proofs.YtedfcljikgmpgaaGreat

/-- A rearrangement of the points below N. -/
structure PM (N : Nat) (g : List Int) : Prop where
  len : g.length = N
  lo : ∀ i, i < N → 0 ≤ g.getD i 0
  hi : ∀ i, i < N → g.getD i 0 < N
  inj : ∀ i j, i < N → j < N → g.getD i 0 = g.getD j 0 → i = j
def PMs (N : Nat) (gs : List (List Int)) : Prop := ∀ g ∈ gs, PM N g

theorem PM.nx_lt {N : Nat} {g : List Int} (h : PM N g) {x : Nat} (hx : x < N) : nx g x < N := by
  have := h.lo x hx; have := h.hi x hx; unfold nx; omega
theorem PM.nx_val {N : Nat} {g : List Int} (h : PM N g) {x : Nat} (hx : x < N) : g.getD x 0 = (nx g x : Int) := by
  have := h.lo x hx; unfold nx; omega
theorem PM.nx_inj {N : Nat} {g : List Int} (h : PM N g) {x y : Nat} (hx : x < N) (hy : y < N) (e : nx g x = nx g y) : x = y :=
  h.inj x y hx hy (by rw [h.nx_val hx, h.nx_val hy, e])
theorem IsP.pm {p : List Int} (h : IsP p) : PM p.length p := ⟨rfl, h.lo, h.hi, h.inj⟩

theorem nd_sub {l' : List Nat} : ∀ {l : List Nat}, l'.Nodup → (∀ x ∈ l', x ∈ l) → l'.length ≤ l.length := by
  induction l' with
  | nil => intro l _ _; simp
  | cons a t ih =>
    intro l hd h
    rw [List.nodup_cons] at hd
    have ha : a ∈ l := h a (by simp)
    have := ih (l := l.erase a) hd.2 fun x hx => by
      have hne : x ≠ a := fun e => hd.1 (e ▸ hx)
      exact (List.mem_erase_of_ne hne).2 (h x (by simp [hx]))
    rw [List.length_erase_of_mem ha] at this
    have h0 : 0 < l.length := List.length_pos_of_mem ha
    simp; omega
/-- A nodup list within another of the same length is all of it. -/
theorem nd_all {l' l : List Nat} (hd : l'.Nodup) (h : ∀ x ∈ l', x ∈ l) (hl : l.length ≤ l'.length) : ∀ y ∈ l, y ∈ l' := fun y hy => by
  rcases Decidable.em (y ∈ l') with h1 | h1
  · exact h1
  · have := nd_sub (l' := y :: l') (l := l) (List.nodup_cons.2 ⟨h1, hd⟩) (fun x hx => by
      rcases List.mem_cons.1 hx with rfl | hx
      · exact hy
      · exact h x hx)
    simp at this; omega
theorem nd_map {f : Nat → Nat} {l : List Nat} (hd : l.Nodup) (hf : ∀ x ∈ l, ∀ y ∈ l, f x = f y → x = y) : (l.map f).Nodup := by
  induction l with
  | nil => simp
  | cons a t ih =>
    rw [List.nodup_cons] at hd
    rw [List.map_cons, List.nodup_cons]
    refine ⟨fun hm => ?_, ih hd.2 fun x hx y hy => hf x (by simp [hx]) y (by simp [hy])⟩
    obtain ⟨b, hb, e⟩ := List.mem_map.1 hm
    have := hf b (by simp [hb]) a (by simp) e
    subst this
    exact hd.1 hb

/-! ### reach -/
inductive Rch (gs : List (List Int)) (x : Nat) : Nat → Prop
  | refl : Rch gs x x
  | step {u : Nat} {g : List Int} : Rch gs x u → g ∈ gs → Rch gs x (nx g u)
section
variable {gs : List (List Int)} {N x y z : Nat}
theorem Rch.trans (h : Rch gs x y) (k : Rch gs y z) : Rch gs x z := by
  induction k with
  | refl => exact h
  | step _ hg ih => exact ih.step hg
theorem Rch.lt (hp : PMs N gs) (hx : x < N) (h : Rch gs x y) : y < N := by
  induction h with
  | refl => exact hx
  | step _ hg ih => exact (hp _ hg).nx_lt ih
end

/-! ### the search -/
def addN (f : List Nat) (y : Nat) : List Nat := if y ∈ f then f else f ++ [y]
def expd (gs : List (List Int)) (u : Nat) (f : List Nat) : List Nat := gs.foldl (fun f g => addN f (nx g u)) f
def bfs (gs : List (List Int)) : Nat → Nat → List Nat → List Nat
  | 0, _, f => f
  | fuel + 1, i, f => if i < f.length then bfs gs fuel (i + 1) (expd gs (f.getD i 0) f) else f
/-- The orbit of x in the order of discovery. -/
def orb (gs : List (List Int)) (N x : Nat) : List Nat := bfs gs (N + 1) 0 [x]

theorem bfs_go {gs : List (List Int)} {N i : Nat} {f : List Nat} (hi : i < f.length) (hl : f.length ≤ N) : bfs gs (N + 1 - i) i f = bfs gs (N + 1 - (i + 1)) (i + 1) (expd gs (f.getD i 0) f) := by
  obtain ⟨k, hk⟩ : ∃ k, N + 1 - i = k + 1 := ⟨N - i, by omega⟩
  have hk' : N + 1 - (i + 1) = k := by omega
  rw [hk, hk', bfs, if_pos hi]
theorem bfs_end {gs : List (List Int)} {N i : Nat} {f : List Nat} (hi : f.length ≤ i) : bfs gs (N + 1 - i) i f = f := by
  cases N + 1 - i with
  | zero => rfl
  | succ k => rw [bfs, if_neg (by omega)]

/-- What the search holds of its list. -/
structure Fd (gs : List (List Int)) (N x : Nat) (f : List Nat) : Prop where
  nd : f.Nodup
  lt : ∀ y ∈ f, y < N
  rch : ∀ y ∈ f, Rch gs x y
  pre : ∃ t, f = x :: t
section
variable {gs : List (List Int)} {N x : Nat} {f : List Nat}
theorem Fd.len (h : Fd gs N x f) : f.length ≤ N := ndlen N f h.nd h.lt
theorem Fd.pos (h : Fd gs N x f) : 0 < f.length := by obtain ⟨t, rfl⟩ := h.pre; simp
theorem Fd.one (hx : x < N) : Fd gs N x [x] := ⟨by simp, by simpa using hx, by simpa using Rch.refl, ⟨[], rfl⟩⟩
theorem addN_pre (f : List Nat) (y : Nat) : ∃ t, addN f y = f ++ t := by
  unfold addN; split
  · exact ⟨[], by simp⟩
  · exact ⟨[y], rfl⟩
theorem mem_addN {f : List Nat} {y z : Nat} : z ∈ addN f y ↔ z ∈ f ∨ z = y := by
  unfold addN; split
  · rename_i h
    exact ⟨.inl, fun h' => h'.elim id (fun e => e ▸ h)⟩
  · simp
theorem Fd.add (h : Fd gs N x f) {y : Nat} (hy : y < N) (hr : Rch gs x y) : Fd gs N x (addN f y) := by
  obtain ⟨t, rfl⟩ := h.pre
  refine ⟨?_, fun z hz => ?_, fun z hz => ?_, ?_⟩
  · unfold addN; split
    · exact h.nd
    · rename_i hn
      rw [List.nodup_append]
      refine ⟨h.nd, by simp, fun a ha b hb e => ?_⟩
      obtain rfl : b = y := by simpa using hb
      exact hn (e ▸ ha)
  · rcases mem_addN.1 hz with h1 | rfl
    · exact h.lt z h1
    · exact hy
  · rcases mem_addN.1 hz with h1 | rfl
    · exact h.rch z h1
    · exact hr
  · obtain ⟨t', e⟩ := addN_pre (x :: t) y
    exact ⟨t ++ t', by rw [e]; rfl⟩
theorem expd_pre (gs : List (List Int)) (u : Nat) : ∀ f : List Nat, ∃ t, expd gs u f = f ++ t := by
  unfold expd
  induction gs with
  | nil => intro f; exact ⟨[], by simp⟩
  | cons g gs ih =>
    intro f
    obtain ⟨t, e⟩ := addN_pre f (nx g u)
    obtain ⟨t', e'⟩ := ih (addN f (nx g u))
    exact ⟨t ++ t', by rw [List.foldl_cons, e', e, List.append_assoc]⟩
theorem expd_mem (gs : List (List Int)) (u : Nat) : ∀ f : List Nat, ∀ g ∈ gs, nx g u ∈ expd gs u f := by
  unfold expd
  induction gs with
  | nil => intro f g hg; cases hg
  | cons g gs ih =>
    intro f g' hg'
    rw [List.foldl_cons]
    rcases List.mem_cons.1 hg' with rfl | hg'
    · obtain ⟨t, e⟩ := expd_pre gs u (addN f (nx g' u))
      unfold expd at e
      rw [e, List.mem_append]
      exact .inl (mem_addN.2 (.inr rfl))
    · exact ih _ g' hg'
theorem Fd.fold (hp : PMs N gs) {u : Nat} (hu : u < N) (hr : Rch gs x u) : ∀ (l : List (List Int)), (∀ g ∈ l, g ∈ gs) → ∀ f : List Nat, Fd gs N x f → Fd gs N x (l.foldl (fun f g => addN f (nx g u)) f)
  | [], _, f, h => h
  | g :: l, hl, f, h => by
    rw [List.foldl_cons]
    exact Fd.fold hp hu hr l (fun g' hg' => hl g' (by simp [hg'])) _ (h.add ((hp g (hl g (by simp))).nx_lt hu) (hr.step (hl g (by simp))))
theorem getD_memN {l : List Nat} {i : Nat} (h : i < l.length) : l.getD i 0 ∈ l := by
  rw [List.getD_eq_getElem?_getD, List.getElem?_eq_getElem h]
  exact List.getElem_mem h
theorem getD_preN {l t : List Nat} {i : Nat} (h : i < l.length) : (l ++ t).getD i 0 = l.getD i 0 := by
  rw [List.getD_eq_getElem?_getD, List.getElem?_append_left h, ← List.getD_eq_getElem?_getD]
theorem Fd.exp (hp : PMs N gs) (h : Fd gs N x f) {i : Nat} (hi : i < f.length) : Fd gs N x (expd gs (f.getD i 0) f) :=
  Fd.fold hp (h.lt _ (getD_memN hi)) (h.rch _ (getD_memN hi)) gs (fun _ h => h) f h
/-- The first i are expanded. -/
def Cl (gs : List (List Int)) (i : Nat) (f : List Nat) : Prop := ∀ j, j < i → ∀ g ∈ gs, nx g (f.getD j 0) ∈ f
theorem Cl.exp {i : Nat} (h : Cl gs i f) (hi : i < f.length) : Cl gs (i + 1) (expd gs (f.getD i 0) f) := by
  obtain ⟨t, e⟩ := expd_pre gs (f.getD i 0) f
  intro j hj g hg
  by_cases e2 : j = i
  · subst e2
    have := expd_mem gs (f.getD j 0) f g hg
    rw [e] at this ⊢
    rw [getD_preN hi]
    exact this
  · rw [e, getD_preN (by omega), List.mem_append]
    exact .inl (h j (by omega) g hg)
theorem bfs_spec (hp : PMs N gs) : ∀ (fuel i : Nat) (f : List Nat), Fd gs N x f → Cl gs i f → i ≤ f.length → N + 1 ≤ fuel + i → Fd gs N x (bfs gs fuel i f) ∧ Cl gs (bfs gs fuel i f).length (bfs gs fuel i f)
  | 0, i, f, h, c, hi, hf => by have := h.len; omega
  | fuel + 1, i, f, h, c, hi, hf => by
    rw [bfs]
    split
    · rename_i hlt
      have hpre := expd_pre gs (f.getD i 0) f
      exact bfs_spec hp fuel (i + 1) _ (h.exp hp hlt) (c.exp hlt) (by obtain ⟨t, e⟩ := hpre; rw [e, List.length_append]; omega) (by omega)
    · obtain rfl : i = f.length := by omega
      exact ⟨h, c⟩
end

section
variable {gs : List (List Int)} {N : Nat}
theorem orb_fd (hp : PMs N gs) {x : Nat} (hx : x < N) : Fd gs N x (orb gs N x) :=
  (bfs_spec hp (N + 1) 0 [x] (Fd.one hx) (fun j hj => absurd hj (by omega)) (Nat.zero_le _) (by omega)).1
theorem orb_cl (hp : PMs N gs) {x : Nat} (hx : x < N) : Cl gs (orb gs N x).length (orb gs N x) :=
  (bfs_spec hp (N + 1) 0 [x] (Fd.one hx) (fun j hj => absurd hj (by omega)) (Nat.zero_le _) (by omega)).2
theorem orb_self (hp : PMs N gs) {x : Nat} (hx : x < N) : x ∈ orb gs N x := by
  obtain ⟨t, e⟩ := (orb_fd hp hx).pre
  rw [e]; simp
theorem orb_step (hp : PMs N gs) {x u : Nat} (hx : x < N) (hu : u ∈ orb gs N x) {g : List Int} (hg : g ∈ gs) : nx g u ∈ orb gs N x := by
  obtain ⟨j, hj, e⟩ := List.mem_iff_getElem.1 hu
  have := orb_cl hp hx j hj g hg
  rw [List.getD_eq_getElem?_getD, List.getElem?_eq_getElem hj] at this
  simpa [e] using this
theorem orb_iff (hp : PMs N gs) {x y : Nat} (hx : x < N) : y ∈ orb gs N x ↔ Rch gs x y := by
  refine ⟨(orb_fd hp hx).rch y, fun h => ?_⟩
  induction h with
  | refl => exact orb_self hp hx
  | step _ hg ih => exact orb_step hp hx ih hg
theorem orb_lt (hp : PMs N gs) {x y : Nat} (hx : x < N) (h : y ∈ orb gs N x) : y < N := (orb_fd hp hx).lt y h
theorem orb_sub (hp : PMs N gs) {x y z : Nat} (hx : x < N) (hy : y ∈ orb gs N x) (hz : z ∈ orb gs N y) : z ∈ orb gs N x := by
  have hy' := orb_lt hp hx hy
  rw [orb_iff hp hx] at hy ⊢
  rw [orb_iff hp hy'] at hz
  exact hy.trans hz
/-- Whoever comes into an orbit came out of it. -/
theorem orb_back (hp : PMs N gs) {x u : Nat} (hx : x < N) (hu : u < N) {g : List Int} (hg : g ∈ gs) (h : nx g u ∈ orb gs N x) : u ∈ orb gs N x := by
  have hf := orb_fd hp hx
  have h1 : ((orb gs N x).map (nx g)).Nodup := nd_map hf.nd fun a ha b hb e => (hp g hg).nx_inj (hf.lt a ha) (hf.lt b hb) e
  have h2 := nd_all h1 (l := orb gs N x) (fun a ha => by
    obtain ⟨b, hb, rfl⟩ := List.mem_map.1 ha
    exact orb_step hp hx hb hg) (by simp) _ h
  obtain ⟨b, hb, e⟩ := List.mem_map.1 h2
  rw [← (hp g hg).nx_inj (hf.lt b hb) hu e]
  exact hb
theorem rch_symm (hp : PMs N gs) {x y : Nat} (hx : x < N) (h : Rch gs x y) : Rch gs y x := by
  have hx' : x ∈ orb gs N y := by
    have : ∀ z, Rch gs x z → ∀ y, y < N → z ∈ orb gs N y → x ∈ orb gs N y := by
      intro z hz
      induction hz with
      | refl => intro y _ h; exact h
      | step hu hg ih => intro y hy h; exact ih y hy (orb_back hp hy (hu.lt hp hx) hg h)
    exact this y h y (h.lt hp hx) (orb_self hp (h.lt hp hx))
  exact (orb_iff hp (h.lt hp hx)).1 hx'
theorem orb_symm (hp : PMs N gs) {x y : Nat} (hx : x < N) (h : y ∈ orb gs N x) : x ∈ orb gs N y := by
  have hy := orb_lt hp hx h
  rw [orb_iff hp hx] at h
  rw [orb_iff hp hy]
  exact rch_symm hp hx h
end

/-! ### sorted -/
def oN (gs : List (List Int)) (N x : Nat) : List Nat := (List.range N).filter fun y => decide (y ∈ orb gs N x)
def oS (gs : List (List Int)) (N x : Nat) : List Int := (oN gs N x).map Int.ofNat
theorem mem_oN {gs : List (List Int)} {N x y : Nat} : y ∈ oN gs N x ↔ y < N ∧ y ∈ orb gs N x := by simp [oN]
theorem oN_nd (gs : List (List Int)) (N x : Nat) : (oN gs N x).Nodup := List.nodup_range.filter _
theorem oN_len {gs : List (List Int)} {N : Nat} (hp : PMs N gs) {x : Nat} (hx : x < N) : (oN gs N x).length = (orb gs N x).length :=
  Nat.le_antisymm (nd_sub (oN_nd gs N x) fun y hy => (mem_oN.1 hy).2) (nd_sub (orb_fd hp hx).nd fun y hy => mem_oN.2 ⟨orb_lt hp hx hy, hy⟩)
theorem oN_perm {gs : List (List Int)} {N : Nat} (hp : PMs N gs) {x : Nat} (hx : x < N) : (orb gs N x).Perm (oN gs N x) :=
  (List.perm_ext_iff_of_nodup (orb_fd hp hx).nd (oN_nd gs N x)).2 fun y => ⟨fun hy => mem_oN.2 ⟨orb_lt hp hx hy, hy⟩, fun hy => (mem_oN.1 hy).2⟩
theorem oS_sorted (gs : List (List Int)) (N x : Nat) : (oS gs N x).Pairwise fun a b => a ≤ b := by
  unfold oS oN
  rw [List.pairwise_map]
  refine List.Pairwise.filter _ ?_
  exact (List.pairwise_lt_range (n := N)).imp fun h => by simp; omega
theorem sorted_uniq : ∀ {l l' : List Int}, l.Perm l' → l.Pairwise (· ≤ ·) → l'.Pairwise (· ≤ ·) → l = l' := fun hp h1 h2 =>
  hp.eq_of_pairwise (fun a b _ _ h h' => Int.le_antisymm h h') h1 h2
/-- Whatever sorts the search's list comes to the same list. -/
theorem oS_of {gs : List (List Int)} {N : Nat} (hp : PMs N gs) {x : Nat} (hx : x < N) {l : List Int} (h : l.Perm ((orb gs N x).map Int.ofNat)) (hs : l.Pairwise (· ≤ ·)) : l = oS gs N x :=
  sorted_uniq (h.trans ((oN_perm hp hx).map _)) hs (oS_sorted gs N x)
theorem oS_sort {gs : List (List Int)} {N : Nat} (hp : PMs N gs) {x : Nat} (hx : x < N) : (((orb gs N x).map Int.ofNat).mergeSort fun a b => decide (a ≤ b)) = oS gs N x := by
  refine oS_of hp hx (List.mergeSort_perm _ _) ?_
  have := List.pairwise_mergeSort (le := fun a b : Int => decide (a ≤ b)) (fun a b c h1 h2 => by simp at h1 h2 ⊢; omega) (fun a b => by simp; omega) ((orb gs N x).map Int.ofNat)
  exact this.imp fun h => by simpa using h

/-! ### the sweep -/
/-- y lies in the orbit of one of the first k. -/
def sn (gs : List (List Int)) (N k y : Nat) : Bool := (List.range k).any fun z => decide (y ∈ orb gs N z)
def starts (gs : List (List Int)) (N k : Nat) : List Nat := (List.range k).filter fun z => !sn gs N z z
def orbs (gs : List (List Int)) (N k : Nat) : List (List Int) := (starts gs N k).map (oS gs N)
section
variable {gs : List (List Int)} {N : Nat}
theorem sn_iff {k y : Nat} : sn gs N k y = true ↔ ∃ z, z < k ∧ y ∈ orb gs N z := by simp [sn]
theorem sn_zero (y : Nat) : sn gs N 0 y = false := rfl
theorem sn_succ (k y : Nat) : sn gs N (k + 1) y = (sn gs N k y || decide (y ∈ orb gs N k)) := by
  simp [sn, List.range_succ]
theorem sn_seen (hp : PMs N gs) {k : Nat} (hk : k < N) (h : sn gs N k k = true) (y : Nat) : sn gs N (k + 1) y = sn gs N k y := by
  rw [sn_succ]
  rcases hy : sn gs N k y with _ | _
  · obtain ⟨z, hz, hkz⟩ := sn_iff.1 h
    have : ¬ y ∈ orb gs N k := fun hy' => by
      have : sn gs N k y = true := sn_iff.2 ⟨z, hz, orb_sub hp (by omega) hkz hy'⟩
      rw [hy] at this; cases this
    simp [this]
  · rfl
theorem sn_out (hp : PMs N gs) {k u : Nat} (hk : k ≤ N) (hu : u < N) (h : sn gs N k u = false) {g : List Int} (hg : g ∈ gs) : sn gs N k (nx g u) = false := by
  rcases h' : sn gs N k (nx g u) with _ | _
  · rfl
  · obtain ⟨z, hz, hm⟩ := sn_iff.1 h'
    have : sn gs N k u = true := sn_iff.2 ⟨z, hz, orb_back hp (by omega) hu hg hm⟩
    rw [h] at this; cases this
theorem starts_no {k : Nat} (h : sn gs N k k = true) : starts gs N (k + 1) = starts gs N k := by
  simp [starts, List.range_succ, h]
theorem starts_yes {k : Nat} (h : sn gs N k k = false) : starts gs N (k + 1) = starts gs N k ++ [k] := by
  simp [starts, List.range_succ, h]
theorem orbs_no {k : Nat} (h : sn gs N k k = true) : orbs gs N (k + 1) = orbs gs N k := by rw [orbs, starts_no h, orbs]
theorem orbs_yes {k : Nat} (h : sn gs N k k = false) : orbs gs N (k + 1) = orbs gs N k ++ [oS gs N k] := by rw [orbs, starts_yes h, orbs]; simp
theorem starts_le (k : Nat) : (starts gs N k).length ≤ k := by
  have := List.length_filter_le (fun z => !sn gs N z z) (List.range k)
  simpa [starts] using this
theorem orbs_len (k : Nat) : (orbs gs N k).length = (starts gs N k).length := by simp [orbs]
theorem starts_pre {k m : Nat} (h : k ≤ m) : ∃ t, starts gs N m = starts gs N k ++ t := by
  induction m with
  | zero => exact ⟨[], by obtain rfl : k = 0 := by omega
                          simp⟩
  | succ m ih =>
    by_cases e : k = m + 1
    · exact ⟨[], by rw [e]; simp⟩
    · obtain ⟨t, ht⟩ := ih (by omega)
      rcases hs : sn gs N m m with _ | _
      · exact ⟨t ++ [m], by rw [starts_yes hs, ht, List.append_assoc]⟩
      · exact ⟨t, by rw [starts_no hs, ht]⟩
theorem orbs_pre {k m : Nat} (h : k ≤ m) : ∃ t, orbs gs N m = orbs gs N k ++ t := by
  obtain ⟨t, ht⟩ := starts_pre (gs := gs) (N := N) h
  exact ⟨t.map (oS gs N), by rw [orbs, ht, List.map_append, orbs]⟩
/-- The next orbit that comes. -/
theorem orbs_at {k : Nat} (hk : k < N) (h : sn gs N k k = false) : (orbs gs N N).getD (orbs gs N k).length [] = oS gs N k ∧ (orbs gs N k).length < (orbs gs N N).length := by
  obtain ⟨t, ht⟩ := orbs_pre (gs := gs) (N := N) (show k + 1 ≤ N from hk)
  rw [ht, orbs_yes h]
  refine ⟨?_, by simp⟩
  rw [List.append_assoc, List.getD_eq_getElem?_getD, List.getElem?_append_right (Nat.le_refl _), Nat.sub_self]
  rfl
end
end Go.Proofs.YtedfcljikgmpgaaGreat
