/- Words for the walks of this seat: a slice of int64 that reads as a list; a row of the call's own; how both are kept. No condition. -/
import Derived.WalkKit
import Derived.Test.YtonanelghnjhpabProg
import Derived.Maps.AppendAt
import Derived.Deep.Draws
import Derived.Lib.Hide
import Derived.Deep.QuietTactic
namespace Go.Proofs.Ytonanelghnjhpab
open Go.RowKit

/-- The slice at A reads as the numbers xs, in blocks below B. -/
def RI (w : World) (B : Nat) (A : Option Addr) (xs : List Int) : Prop :=
  0 < xs.length → ∃ b off, A = some ⟨b, off, none⟩ ∧ b < B ∧ ∀ j, j < xs.length → w.cell? ⟨b, off + j, none⟩ = some (.int .i64 (xs.getD j 0))

section
variable {w w' : World} {B B' : Nat} {A : Option Addr} {xs : List Int}
theorem RI.nil_ : RI w B A [] := fun h => absurd h (by simp)
theorem RI.keep (h : RI w B A xs) (hk : ∀ p : Addr, p.block < B → w'.cell? p = w.cell? p) : RI w' B A xs := fun hn => by
  obtain ⟨b, off, e, hb, hc⟩ := h hn
  exact ⟨b, off, e, hb, fun j hj => (hk ⟨b, off + j, none⟩ hb).trans (hc j hj)⟩
theorem RI.more (h : RI w B A xs) (hB : B ≤ B') : RI w B' A xs := fun hn => by
  obtain ⟨b, off, e, hb, hc⟩ := h hn
  exact ⟨b, off, e, by omega, hc⟩
theorem RI.below (h : RI w B A xs) {B' : Nat} (hb : Below B' w w') (hB : B ≤ B') : RI w' B A xs := h.keep fun _ hp => hb.cell (by omega)
theorem RI.drew (h : RI w B A xs) : RI w.drew B A xs := h
theorem RI.drewN (h : RI w B A xs) (k : Nat) : RI (w.drewN k) B A xs := h
theorem RI.alloc (h : RI w B A xs) (hB : B ≤ w.heap.size) (o : Obj) : RI (w.alloc o) B A xs := h.keep fun p hp => World.cell?_alloc_lt w o p (by omega)
theorem RI.setCell (h : RI w B A xs) {p : Addr} (hB : B ≤ p.block) (u : Value) : RI (w.setCell p u) B A xs :=
  h.keep fun q hq => World.cell?_setCell_other w p q u (fun e => by subst e; omega)
theorem RI.grown (h : RI w B A xs) {row : Option Nat} (hg : w.grownBy w' row) (hB : B ≤ w.heap.size) (hr : ∀ g, row = some g → B ≤ g) : RI w' B A xs :=
  h.keep fun p hp => World.cell?_of_block (hg.block p.block (by omega) (fun e => by have := hr _ e.symm; omega))
end

/-- v is a row of the call's own, from block base on, that holds the numbers xs. -/
def Own (w : World) (base : Nat) (v : Value) (xs : List Int) : Prop := w.ownsRow base 2 1 v xs.length (xs.map (Value.int .i64))

section
variable {w w' : World} {base B : Nat} {v : Value} {xs : List Int}
/-- The value written out: its address, its capacity; it reads as xs. -/
theorem Own.form (h : Own w base v xs) : ∃ A c, v = .slice A xs.length c ∧ RI w w.heap.size A xs ∧ (∀ b off, A = some ⟨b, off, none⟩ → base ≤ b ∧ b < w.heap.size ∧ off = 0) ∧ (A = none → xs = [] ∧ c = 0) ∧ xs.length ≤ maxLen := by
  rcases h.2 with ⟨rfl, h0⟩ | ⟨g, cap, cur, rfl, hb, hg, hn, hm, hcs, htake⟩
  · obtain rfl : xs = [] := List.eq_nil_of_length_eq_zero h0
    exact ⟨none, 0, rfl, RI.nil_, fun _ _ e => (nomatch e), fun _ => ⟨rfl, rfl⟩, Nat.zero_le _⟩
  · have hlt : g < w.heap.size := (Array.getElem?_eq_some_iff.1 hg).1
    refine ⟨some ⟨g, 0, none⟩, cap, rfl, fun _ => ⟨g, 0, rfl, hlt, fun j hj => ?_⟩, fun b off e => (by injection e with e; injection e with e1 e2; subst e1; subst e2; exact ⟨hb, hlt, rfl⟩), fun e => (nomatch e), Nat.le_trans hn hm⟩
    have := h.cells (g := g) rfl j (.int .i64 (xs.getD j 0)) (by rw [List.getElem?_map, List.getD_eq_getElem?_getD, List.getElem?_eq_getElem hj]; rfl)
    rw [← this]
    unfold Addr.add
    split <;> simp_all
theorem Own.kept (h : Own w base v xs) {row : Option Nat} (hg : w.grownBy w' row) (hne : v.ownBlock = none ∨ v.ownBlock ≠ row) : Own w' base v xs := World.ownsRow.kept h hg hne
theorem Own.alloc (h : Own w base v xs) (o : Obj) : Own (w.alloc o) base v xs := World.ownsRow.alloc h o
theorem Own.below (h : Own w base v xs) (hb : Below B w w') (hv : ∀ k, v.ownBlock = some k → k < B) : Own w' base v xs := by
  refine ⟨h.1, ?_⟩
  rcases h.2 with hn | ⟨g, cap, cur, rfl, hb', hg, rest⟩
  · exact .inl hn
  · exact .inr ⟨g, cap, cur, rfl, hb', by rw [hb.block g (hv g rfl)]; exact hg, rest⟩
theorem Own.drewN (h : Own w base v xs) (n : Nat) : Own (w.drewN n) base v xs := h
theorem Own.mono (h : Own w base v xs) {base' : Nat} (hb : base' ≤ base) : Own w base' v xs := by
  refine ⟨h.1, ?_⟩
  rcases h.2 with hn | ⟨g, cap, cur, rfl, hb', rest⟩
  · exact .inl hn
  · exact .inr ⟨g, cap, cur, rfl, by omega, rest⟩
theorem Own.lt_ (h : Own w base v xs) : ∀ k, v.ownBlock = some k → base ≤ k ∧ k < w.heap.size := World.ownsRow.lt h
end

/-- The slice value '.slice A n c' is a row of the call's own, from block base on; it holds the numbers xs. -/
def Slc (w : World) (base : Nat) (A : Option Addr) (n c : Nat) (xs : List Int) : Prop := xs.length = n ∧ Own w base (.slice A n c) xs
section
variable {w w' : World} {base n c B : Nat} {A : Option Addr} {xs : List Int}
theorem Slc.hid (h : Slc w base A n c xs) : Hid (xs.length = n) := Lib.hid h.1
theorem Slc.of_own {v : Value} (h : Own w base v xs) (hn : xs.length = n) : ∃ A c, v = .slice A n c ∧ Slc w base A n c xs := by
  subst hn
  obtain ⟨A, c, rfl, _⟩ := h.form
  exact ⟨A, c, rfl, rfl, h⟩
theorem Slc.ri (h : Slc w base A n c xs) (hB : w.heap.size ≤ B) : RI w B A xs := by
  obtain ⟨A', c', e, r, _⟩ := h.2.form
  injection e with e1 e2 e3
  subst e1
  exact r.more hB
theorem Slc.le (h : Slc w base A n c xs) : n ≤ c ∧ n ≤ maxLen := by
  rcases h.2.2 with ⟨e, h0⟩ | ⟨g, cap, cur, e, hb, hg, hn, hm, hcs, htake⟩
  · injection e with e1 e2 e3; subst e2; subst e3; exact ⟨Nat.zero_le _, Nat.zero_le _⟩
  · injection e with e1 e2 e3; subst e2; subst e3; exact ⟨hn, Nat.le_trans hn hm⟩
theorem Slc.at_ (h : Slc w base A n c xs) : (A = none ∧ xs = [] ∧ n = 0 ∧ c = 0) ∨ ∃ g, A = some ⟨g, 0, none⟩ ∧ base ≤ g ∧ g < w.heap.size := by
  rcases h.2.2 with ⟨e, h0⟩ | ⟨g, cap, cur, e, hb, hg, hn, hm, hcs, htake⟩
  · injection e with e1 e2 e3; exact .inl ⟨e1, List.eq_nil_of_length_eq_zero h0, e2, e3⟩
  · injection e with e1 e2 e3; exact .inr ⟨g, e1, hb, (Array.getElem?_eq_some_iff.1 hg).1⟩
theorem Slc.lt_ (h : Slc w base A n c xs) : ∀ k, (Value.slice A n c).ownBlock = some k → base ≤ k ∧ k < w.heap.size := h.2.lt_
theorem Slc.kept (h : Slc w base A n c xs) {row : Option Nat} (hg : w.grownBy w' row) (hne : (Value.slice A n c).ownBlock = none ∨ (Value.slice A n c).ownBlock ≠ row) : Slc w' base A n c xs := ⟨h.1, h.2.kept hg hne⟩
theorem Slc.below (h : Slc w base A n c xs) (hb : Below B w w') (hB : w.heap.size ≤ B) : Slc w' base A n c xs := ⟨h.1, h.2.below hb fun k e => by have := (h.lt_ k e).2; omega⟩
theorem Slc.below_lt (h : Slc w base A n c xs) (hb : Below B w w') (hB : ∀ k, (Value.slice A n c).ownBlock = some k → k < B) : Slc w' base A n c xs := ⟨h.1, h.2.below hb hB⟩
theorem Slc.mono (h : Slc w base A n c xs) {base' : Nat} (hb : base' ≤ base) : Slc w base' A n c xs := ⟨h.1, h.2.mono hb⟩
theorem Slc.alloc (h : Slc w base A n c xs) (o : Obj) : Slc (w.alloc o) base A n c xs := ⟨h.1, h.2.alloc o⟩
theorem Slc.drewN (h : Slc w base A n c xs) (k : Nat) : Slc (w.drewN k) base A n c xs := h
theorem Slc.nil_ : Slc w base none 0 0 [] := ⟨rfl, World.ownsRow_nil _ _ _ _⟩
end

/-- What the frame of a proof knows of a slice of int64 that came in, as RI. -/
theorem RI.of_row {w : World} {a : Option Addr} {len cap : Nat} {zs : List Int}
    (h : (a = none ∧ len = 0 ∧ cap = 0 ∧ zs = []) ∨ ∃ x, a = some x ∧ len ≤ cap ∧ cap ≤ maxLen ∧ zs.length = cap ∧ (∀ i, i < zs.length → w.cell? (x.add i) = some (.int .i64 (zs.getD i 0))) ∧ ∀ n ∈ zs, (Lit.int .i64 n).wf = true) :
    ∃ xs : List Int, Hid (xs.length = len) ∧ RI w w.heap.size a xs := by
  rcases h with ⟨rfl, rfl, rfl, rfl⟩ | ⟨⟨b, off, spot⟩, rfl, hl, hm, hz, hc, hw⟩
  · exact ⟨[], Lib.hid rfl, RI.nil_⟩
  · refine ⟨zs.take len, Lib.hid (by rw [List.length_take]; omega), fun hp => ?_⟩
    rw [List.length_take] at hp
    have h0 := hc 0 (by omega)
    have hspot : spot = none := by simpa [Addr.add] using World.cell?_spot h0
    subst hspot
    refine ⟨b, off, rfl, ?_, fun j hj => ?_⟩
    · have := World.block_lt_of_cell? w _ h0
      simpa [Addr.add] using this
    · rw [List.length_take] at hj
      rw [List.getD_eq_getElem?_getD, List.getElem?_take, if_pos (by omega), ← List.getD_eq_getElem?_getD, ← hc j (by omega)]
      unfold Addr.add
      split <;> simp_all

/-- A row at the head of block g, of length n, that holds the numbers xs. -/
def Row (w : World) (base g n c : Nat) (xs : List Int) : Prop := xs.length = n ∧ w.ownsRow base 2 1 (.slice (some ⟨g, 0, none⟩) n c) n (xs.map (Value.int .i64))
section
variable {w w' : World} {base g n c B : Nat} {xs : List Int}
theorem Row.own (h : Row w base g n c xs) : Own w base (.slice (some ⟨g, 0, none⟩) n c) xs := by
  obtain ⟨rfl, h⟩ := h; exact h
theorem Row.slc (h : Row w base g n c xs) : Slc w base (some ⟨g, 0, none⟩) n c xs := ⟨h.1, by obtain ⟨rfl, h⟩ := h; exact h⟩
theorem Row.of_own (h : Own w base (.slice (some ⟨g, 0, none⟩) n c) xs) : Row w base g n c xs := by
  obtain ⟨A, c', e, _⟩ := h.form
  injection e with _ e1
  subst e1
  exact ⟨rfl, h⟩
theorem Row.cell (h : Row w base g n c xs) {j : Nat} (hj : j < n) : w.cell? ⟨g, j, none⟩ = some (.int .i64 (xs.getD j 0)) := by
  have hl := h.1
  rw [h.2.cellAt j (by omega), List.getElem?_map, List.getD_eq_getElem?_getD, List.getElem?_eq_getElem (by omega)]; rfl
theorem Row.free (h : Row w base g n c xs) (j : Nat) : w.frozen? ⟨g, j, none⟩ = false := h.2.frozenAt j
theorem Row.store (h : Row w base g n c xs) (j : Nat) (u : Int) : Row (w.setCell ⟨g, j, none⟩ (.int .i64 u)) base g n c (xs.set j u) := by
  refine ⟨by rw [List.length_set]; exact h.1, ?_⟩
  rw [List.map_set]
  exact (h.2.stored j _).1
theorem Row.lt_ (h : Row w base g n c xs) : base ≤ g ∧ g < w.heap.size := World.ownsRow.lt h.2 g rfl
theorem Row.ri (h : Row w base g n c xs) (hB : g < B) : RI w B (some ⟨g, 0, none⟩) xs := fun _ => ⟨g, 0, rfl, hB, fun j hj => by rw [Nat.zero_add]; exact h.cell (by have := h.1; omega)⟩
theorem Row.kept (h : Row w base g n c xs) {row : Option Nat} (hg : w.grownBy w' row) (hne : some g ≠ row) : Row w' base g n c xs := ⟨h.1, World.ownsRow.kept h.2 hg (.inr hne)⟩
theorem Row.alloc (h : Row w base g n c xs) (o : Obj) : Row (w.alloc o) base g n c xs := ⟨h.1, World.ownsRow.alloc h.2 o⟩
theorem Row.drew (h : Row w base g n c xs) : Row w.drew base g n c xs := h
theorem Row.drewN (h : Row w base g n c xs) (k : Nat) : Row (w.drewN k) base g n c xs := h
theorem Row.below (h : Row w base g n c xs) (hb : Below B w w') (hg : g < B) : Row w' base g n c xs :=
  Row.of_own (h.own.below hb fun k e => by simp [Value.ownBlock] at e; omega)
theorem Row.mono (h : Row w base g n c xs) {base' : Nat} (hb : base' ≤ base) : Row w base' g n c xs := ⟨h.1, (Own.mono h.own hb).1.trans (by rw [h.1]), by have := (Own.mono h.own hb).2; rw [h.1] at this; exact this⟩
theorem Row.made (h : w.ownsRow base 2 1 (.slice (some ⟨g, 0, none⟩) n c) n (madeCells (Value.int .i64 0).cells (n * 1)).toList) : Row w base g n c (List.replicate n 0) := by
  refine ⟨by simp, ?_⟩
  have e : (madeCells (Value.int .i64 0).cells (n * 1)).toList = (List.replicate n (0 : Int)).map (Value.int .i64) := by
    show (madeCells #[Value.int .i64 0] (n * 1)).toList = _
    rw [toList_madeCells_one]; simp
  rw [← e]; exact h
end

/-- Where a slice's block may lie: from lo on, below hi. -/
def Lies (A : Option Addr) (n c lo hi : Nat) : Prop := ∀ k, (Value.slice A n c).ownBlock = some k → lo ≤ k ∧ k < hi
theorem Slc.lies {w : World} {base n c : Nat} {A : Option Addr} {xs : List Int} (h : Slc w base A n c xs) : Lies A n c base w.heap.size := h.lt_
theorem Lies.apart {A A' : Option Addr} {n c n' c' lo hi lo' hi' : Nat} (h : Lies A n c lo hi) (h' : Lies A' n' c' lo' hi') (hb : hi ≤ lo' ∨ hi' ≤ lo) :
    (Value.slice A n c).ownBlock = none ∨ (Value.slice A n c).ownBlock ≠ (Value.slice A' n' c').ownBlock := by
  rcases e : (Value.slice A n c).ownBlock with _ | k
  · exact .inl rfl
  · right
    intro e'
    have := h k e
    have := h' k e'.symm
    omega
theorem Slc.far {w w' : World} {base n c lo hi n' c' lo' hi' : Nat} {A A' : Option Addr} {xs : List Int} (h : Slc w base A n c xs) (hg : w.grownBy w' (Value.slice A' n' c').ownBlock)
    (l : Lies A n c lo hi) (l' : Lies A' n' c' lo' hi') (hb : hi ≤ lo' ∨ hi' ≤ lo) : Slc w' base A n c xs := h.kept hg (l.apart l' hb)
theorem below_mark {B : Nat} {w w' : World} {n c lo hi : Nat} {A : Option Addr} (hg : w.grownBy w' (Value.slice A n c).ownBlock) (l : Lies A n c lo hi) (hB : B ≤ lo) (hw : B ≤ w.heap.size) : Below B w w' :=
  (Below.refl B w).grown hg hw (fun k e => by have := l k e; omega)

/-- Block g is just the cells cs of type t, none frozen. -/
def Blk (w : World) (g : Nat) (t : TypeId) (cs : Array Value) : Prop := w.heap[g]? = some (.cells cs t (0, 0))
section
variable {w w' : World} {g : Nat} {t : TypeId} {cs : Array Value}
theorem Blk.lt (h : Blk w g t cs) : g < w.heap.size := by
  rcases Nat.lt_or_ge g w.heap.size with hlt | hge
  · exact hlt
  · unfold Blk at h; rw [Array.getElem?_eq_none hge] at h; cases h
theorem Blk.cell (h : Blk w g t cs) (i : Nat) : w.cell? ⟨g, i, none⟩ = cs[i]? := cell_of_row w g i cs t (0, 0) h
theorem Blk.frozen (h : Blk w g t cs) (i : Nat) : w.frozen? ⟨g, i, none⟩ = false := by
  unfold Blk at h
  simp [World.frozen?, h]
theorem Blk.new (w : World) (t : TypeId) (cs : Array Value) : Blk (w.alloc (.cells cs t)) w.heap.size t cs := heap_alloc_new w _
theorem Blk.drewN (h : Blk w g t cs) (n : Nat) : Blk (w.drewN n) g t cs := h
theorem Blk.alloc (h : Blk w g t cs) (o : Obj) : Blk (w.alloc o) g t cs := (Below.heap_alloc w o g h.lt).trans h
theorem Blk.set_ (h : Blk w g t cs) (i : Nat) (u : Value) : Blk (w.setCell ⟨g, i, none⟩ u) g t (cs.setIfInBounds i u) := by
  unfold Blk at h ⊢
  simp [World.setCell, Array.getElem?_modify, h]
theorem Blk.far (h : Blk w g t cs) {p : Addr} (hp : g ≠ p.block) (u : Value) : Blk (w.setCell p u) g t cs := (Below.heap_setCell w p u g hp).trans h
theorem Blk.below {B : Nat} (h : Blk w g t cs) (hb : Below B w w') (hg : g < B) : Blk w' g t cs := (hb.block g hg).trans h
theorem Blk.grown {row : Option Nat} (h : Blk w g t cs) (hb : w.grownBy w' row) (hg : some g ≠ row) : Blk w' g t cs := (hb.block g h.lt hg).trans h
end

theorem quiet_add {P : Program} {f : FuncId} {args : Array Value} {w : World} {a n : Nat} {v : Value}
    (h : Calls P f args (w.drewN (a + n)) fun e w' => e = .returned v ∧ ∃ m, w' = (w.drewN (a + n)).drewN m) :
    Calls P f args (w.drewN (a + n)) fun e w'' => e = .returned v ∧ ∃ m, w'' = w.drewN (a + m) :=
  h.mono fun _ _ ⟨he, m, hm⟩ => ⟨he, n + m, by rw [hm, World.drewN_drewN, Nat.add_assoc]⟩
theorem quiet_add_left {P : Program} {f : FuncId} {args : Array Value} {w : World} {a n : Nat} {v : Value}
    (h : Calls P f args (w.drewN (a + n)) fun e w' => e = .returned v ∧ w.drewN (a + n) = w') :
    Calls P f args (w.drewN (a + n)) fun e w'' => e = .returned v ∧ ∃ m, w'' = w.drewN (a + m) :=
  h.mono fun _ _ ⟨he, hm⟩ => ⟨he, n, hm.symm⟩
theorem quiet_left {P : Program} {f : FuncId} {args : Array Value} {w : World} {n : Nat} {v : Value}
    (h : Calls P f args (w.drewN n) fun e w' => e = .returned v ∧ w.drewN n = w') : Calls P f args (w.drewN n) fun e w'' => e = .returned v ∧ ∃ m, w'' = w.drewN m :=
  h.mono fun _ _ ⟨he, hm⟩ => ⟨he, n, hm.symm⟩
theorem btr {a b c : World} (h : Below a.heap.size a b) (k : Below b.heap.size b c) : Below a.heap.size a c := h.trans (k.mono h.size)
theorem quiet_below {P : Program} {f : FuncId} {args : Array Value} {w : World} {e0 : Ending}
    (h : Calls P f args w fun e w' => e = e0 ∧ ∃ m, w' = w.drewN m) : Calls P f args w fun e w' => e = e0 ∧ Below w.heap.size w w' :=
  h.mono fun _ _ ⟨he, m, hm⟩ => ⟨he, by rw [hm]; exact ⟨rfl, rfl, rfl, Nat.le_refl _, fun _ _ => rfl⟩⟩
/-- What came in still reads so behind the call. -/
theorem RI.up {w w' : World} {A : Option Addr} {xs : List Int} (h : RI w w.heap.size A xs) (hb : Below w.heap.size w w') : RI w' w'.heap.size A xs := (h.below hb (Nat.le_refl _)).more hb.size
theorem Slc.up {w w' : World} {base n c : Nat} {A : Option Addr} {xs : List Int} (h : Slc w base A n c xs) (hb : Below w.heap.size w w') : Slc w' base A n c xs := h.below hb (Nat.le_refl _)
theorem Slc.ri_ {w : World} {base n c : Nat} {A : Option Addr} {xs : List Int} (h : Slc w base A n c xs) : RI w w.heap.size A xs := h.ri (Nat.le_refl _)
theorem infoI : (Try.prog.info? 2).map (fun i => (i.zero, i.size, i.bytes)) = some (some (.int .i64 0), 1, 8) := by kernel_rfl

/-- append of one number onto a slice of the call's own. -/
theorem wpList_app1 {w : World} {ops : Array Oper} {rest : List Oper} {o : Oper} {a : Act} {Q : Exit → Act → World → Prop} (hgd : o.guard = none) (s x : Operand)
    (ho : o.op = .call { callee := .builtin .append, args := #[s, x], argTypes := #[22, 22] })
    (base : Nat) (A : Option Addr) (n c : Nat) (xs : List Int) (hs : a.eval s = .slice A n c) (hown : Slc w base A n c xs) (g : Nat) (u : Int) (hx : a.eval x = .slice (some ⟨g, 0, none⟩) 1 1)
    (hcell : w.cell? ⟨g, 0, none⟩ = some (.int .i64 u)) (hn : n ≤ 1000000000000) (hbase : base ≤ w.heap.size)
    (h : ∀ A' c' w', Slc w' base A' (n + 1) c' (xs ++ [u]) → w.grownBy w' (Value.slice A n c).ownBlock → wpList Try.prog ops Q rest (a.put o.dst (.slice A' (n + 1) c')) w') : wpList Try.prog ops Q (o :: rest) a w := by
  obtain ⟨i0, hi, hz0, hz1, hz2⟩ := info_parts infoI
  obtain ⟨hl, ho'⟩ := hown
  subst hl
  refine wpList_append_own w hgd s x 22 ho base 2 i0 (.int .i64 0) 1 8 Try.underlying22 hi hz0 hz1 hz2 rfl (by decide) _ xs.length _ hs ho' ⟨g, 0, none⟩ 1 1 [.int .i64 u] hx rfl ?_ ?_ ?_ (by omega) hbase ?_
  · intro j v hj
    match j, hj with
    | 0, hj => simp at hj; subst hj; simpa [Addr.add] using hcell
    | j + 1, hj => simp at hj
  · intro v hv; simp at hv; subst hv; rfl
  · unfold maxLen; omega
  · intro v' w' hown' hg _
    have hO : Own w' base v' (xs ++ [u]) := by
      unfold Own
      rw [List.length_append, List.map_append]
      exact hown'
    obtain ⟨A', c', rfl, hS⟩ := Slc.of_own (n := xs.length + 1) hO (by simp)
    exact h A' c' w' hS hg

def marks (k n : Nat) : List Int := (List.range n).map fun i => ((k + i : Nat) : Int)
theorem marks_length (k n : Nat) : (marks k n).length = n := by simp [marks]
theorem marks_getD {k n j : Nat} (h : j < n) : (marks k n).getD j 0 = ((k + j : Nat) : Int) := by
  rw [List.getD_eq_getElem?_getD, List.getElem?_eq_getElem (by simp [marks, h])]; simp [marks]
theorem ext_getD {xs ys : List Int} {n : Nat} (hx : xs.length = n) (hy : ys.length = n) (h : ∀ j, j < n → xs.getD j 0 = ys.getD j 0) : xs = ys := by
  apply List.ext_getElem (by omega)
  intro i h1 h2
  have := h i (by omega)
  simp only [List.getD_eq_getElem?_getD, List.getElem?_eq_getElem h1, List.getElem?_eq_getElem h2, Option.getD_some] at this
  exact this
theorem set_getD {xs : List Int} {n i j : Nat} (hl : xs.length = n) (hj : j < n) (u : Int) : (xs.set i u).getD j 0 = if i = j then u else xs.getD j 0 := by
  rw [List.getD_eq_getElem?_getD, List.getElem?_set]
  by_cases e : i = j
  · subst e; rw [if_pos rfl, if_pos (by omega), if_pos rfl]; rfl
  · rw [if_neg e, if_neg e, ← List.getD_eq_getElem?_getD]
theorem grown_refl (w : World) (row : Option Nat) : w.grownBy w row := ⟨rfl, rfl, rfl, Nat.le_refl _, fun _ _ _ => rfl⟩
theorem grown_set {a w : World} {g : Nat} (h : a.grownBy w (some g)) (j : Nat) (u : Value) : a.grownBy (w.setCell ⟨g, j, none⟩ u) (some g) :=
  ⟨h.os, h.tape, h.output, by simpa [World.setCell] using h.size, fun i hi hne => (Below.heap_setCell w ⟨g, j, none⟩ u i (fun e => hne (by rw [e]))).trans (h.block i hi hne)⟩
theorem grown_drewN {a w : World} {row : Option Nat} (h : a.grownBy w row) (n : Nat) : a.grownBy (w.drewN n) row := ⟨h.os, h.tape, h.output, h.size, h.block⟩
theorem below_of_grown {B : Nat} {w w' : World} {row : Option Nat} (h : w.grownBy w' row) (hB : B ≤ w.heap.size) (hr : ∀ k, row = some k → B ≤ k) : Below B w w' := (Below.refl B w).grown h hB hr

/-- '[]int64{}': a new empty row. -/
theorem Slc.lit0 (w : World) (base : Nat) (hb : base ≤ w.heap.size) : Slc (w.alloc (.cells #[] 2)) base (some ⟨w.heap.size, 0, none⟩) 0 0 [] :=
  ⟨rfl, World.ownsRow_lit (size := 1) w #[] 0 hb (Nat.zero_le _) rfl⟩
theorem Slc.lit1 (w : World) (base : Nat) (x : Int) (hb : base ≤ w.heap.size) : Slc (w.alloc (.cells #[.int .i64 x] 2)) base (some ⟨w.heap.size, 0, none⟩) 1 1 [x] :=
  ⟨rfl, World.ownsRow_lit (size := 1) w #[.int .i64 x] 1 hb (by unfold maxLen; omega) rfl⟩
theorem getD_eq {xs : List Int} {j : Nat} (hj : j < xs.length) : xs.getD j 0 = xs[j] := by rw [List.getD_eq_getElem?_getD, List.getElem?_eq_getElem hj]; rfl
theorem below_drewN {B : Nat} {a w : World} (h : Below B a w) (n : Nat) : Below B a (w.drewN n) := ⟨h.os, h.tape, h.output, h.size, h.block⟩
theorem below_quiet (w : World) (n : Nat) : Below w.heap.size w (w.drewN n) := ⟨rfl, rfl, rfl, Nat.le_refl _, fun _ _ => rfl⟩
theorem ret_int {k : IntKind} {a b : Int} (h : a = b) : Ending.returned (.int k a) = .returned (.int k b) := by rw [h]
theorem ret_bool {a b : Bool} (h : a = b) : Ending.returned (.bool a) = .returned (.bool b) := by rw [h]
end Go.Proofs.Ytonanelghnjhpab
