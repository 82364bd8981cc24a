/- The model's chain in memory: its blocks, how it reads, what one store and one append leave of it. No condition. -/
import Derived.Test.YtooafmifbplbhaaChS
import Derived.Test.YtooafmifbplbhaaSSx
namespace Go.Proofs.Ytooafmifbplbhaa
open Go.RowKit

/-- From w to w' only blocks of M and new ones have turned. -/
structure Chg (w w' : World) (M : Nat → Prop) : Prop where
  os : w'.os = w.os
  tape : w'.tape = w.tape
  output : w'.output = w.output
  size : w.heap.size ≤ w'.heap.size
  block : ∀ k, k < w.heap.size → ¬ M k → w'.heap[k]? = w.heap[k]?
theorem Chg.refl (w : World) (M : Nat → Prop) : Chg w w M := ⟨rfl, rfl, rfl, Nat.le_refl _, fun _ _ _ => rfl⟩
theorem Chg.trans {w w1 w2 : World} {M M1 : Nat → Prop} (h : Chg w w1 M) (h1 : Chg w1 w2 M1) (hM : ∀ k, M1 k → M k ∨ w.heap.size ≤ k) : Chg w w2 M :=
  ⟨h1.os.trans h.os, h1.tape.trans h.tape, h1.output.trans h.output, Nat.le_trans h.size h1.size, fun k hk hn => (h1.block k (Nat.lt_of_lt_of_le hk h.size) (fun e => by rcases hM k e with e | e; exact hn e; omega)).trans (h.block k hk hn)⟩
theorem Chg.of_below {w w' : World} {M : Nat → Prop} (h : Below w.heap.size w w') : Chg w w' M := ⟨h.os, h.tape, h.output, h.size, fun k hk _ => h.block k hk⟩
theorem Chg.of_grown {w w' : World} {M : Nat → Prop} {row : Option Nat} (h : w.grownBy w' row) (hr : ∀ k, row = some k → M k) : Chg w w' M := ⟨h.os, h.tape, h.output, h.size, fun k hk hn => h.block k hk (fun e => hn (hr k e.symm))⟩
theorem Chg.below {w w' : World} {M : Nat → Prop} {B : Nat} (h : Chg w w' M) (hM : ∀ k, M k → B ≤ k) (hB : B ≤ w.heap.size) : Below B w w' := ⟨h.os, h.tape, h.output, h.size, fun k hk => h.block k (by omega) (fun e => by have := hM k e; omega)⟩
theorem Chg.drew {w w' : World} {M : Nat → Prop} (h : Chg w w' M) : Chg w w'.drew M := ⟨h.os, h.tape, h.output, h.size, h.block⟩

theorem ownsRow_chg {w w' : World} {M : Nat → Prop} {base n size : Nat} {e : TypeId} {v : Value} {xs : List Value} (h : w.ownsRow base e size v n xs) (hc : Chg w w' M) (hn : ∀ k, v.ownBlock = some k → ¬ M k) : w'.ownsRow base e size v n xs := by
  refine ⟨h.1, ?_⟩
  rcases h.2 with h0 | ⟨g, cap, cur, e2, hb, hg, rest⟩
  · exact .inl h0
  · exact .inr ⟨g, cap, cur, e2, hb, by rw [hc.block g (Array.getElem?_eq_some_iff.1 hg).1 (hn g (by rw [e2]; rfl))]; exact hg, rest⟩
theorem ownsRow_typ {w : World} {base n size : Nat} {e : TypeId} {v : Value} {xs : List Value} (h : w.ownsRow base e size v n xs) {k : Nat} (hk : v.ownBlock = some k) : ∃ cur, w.heap[k]? = some (.cells cur e (0, 0)) := by
  rcases h.2 with ⟨e2, _⟩ | ⟨g, cap, cur, e2, hb, hg, rest⟩
  · rw [e2] at hk; cases hk
  · rw [e2] at hk
    have : g = k := by simpa [Value.ownBlock] using hk
    subst this
    exact ⟨cur, hg⟩
/-- Blocks of M hold no numbers. -/
def NoInt (w : World) (M : Nat → Prop) : Prop := ∀ k, M k → ∃ cs t fz, w.heap[k]? = some (.cells cs t fz) ∧ t ≠ 2
theorem Slc.chg {w w' : World} {M : Nat → Prop} {base n c : Nat} {A : Option Addr} {xs : List Int} (h : Slc w base A n c xs) (hc : Chg w w' M) (hM : NoInt w M) : Slc w' base A n c xs := by
  refine ⟨h.1, ownsRow_chg h.2 hc fun k hk hm => ?_⟩
  obtain ⟨cur, e1⟩ := ownsRow_typ h.2 hk
  obtain ⟨cs, t, fz, e2, ht⟩ := hM k hm
  rw [e1] at e2
  injection e2 with e2
  injection e2 with _ e3
  exact ht e3.symm

/-- Where a chain lies: its table of rows (block R), the rows' blocks and entries, its table of generators (block G), the generators' rows and entries. -/
structure LY where
  R : Nat
  cR : Nat
  G : Nat
  cG : Nat
  ro : Nat → Nat
  en : Nat → List SV
  gv : Nat → SV
  ge : Nat → List SV
/-- The blocks that an insertion may turn. -/
def Mut (N : Nat) (L : LY) (b : Nat) : Prop := b = L.G ∨ (∃ i, i < N ∧ b = L.ro i) ∨ ∃ i, i < N ∧ (sval (L.gv i)).ownBlock = some b
structure Cn (w : World) (base g N : Nat) (c : Ch) (L : LY) : Prop where
  blk : Blk w g 87 #[.int .i64 (N : Nat), .slice (some ⟨L.R, 0, none⟩) N L.cR, .slice (some ⟨L.G, 0, none⟩) N L.cG]
  hg : base ≤ g
  own1 : w.ownsRow base 24 1 (.slice (some ⟨L.R, 0, none⟩) N L.cR) N ((List.range N).map fun i => Value.slice (some ⟨L.ro i, 0, none⟩) N N)
  row1 : ∀ i, i < N → w.ownsRow base 25 1 (.slice (some ⟨L.ro i, 0, none⟩) N N) N ((L.en i).map sval)
  len1 : ∀ i, i < N → (L.en i).length = N
  ent1 : ∀ i, i < N → ∀ y, y < N → Slc w base ((L.en i).getD y sd0).1 ((L.en i).getD y sd0).2.1 ((L.en i).getD y sd0).2.2 (c.rep i y)
  own2 : w.ownsRow base 24 1 (.slice (some ⟨L.G, 0, none⟩) N L.cG) N ((List.range N).map fun i => sval (L.gv i))
  row2 : ∀ i, i < N → w.ownsRow base 25 1 (sval (L.gv i)) (c.gen i).length ((L.ge i).map sval)
  len2 : ∀ i, i < N → (L.ge i).length = (c.gen i).length
  ent2 : ∀ i, i < N → ∀ y, y < (c.gen i).length → Slc w base ((L.ge i).getD y sd0).1 ((L.ge i).getD y sd0).2.1 ((L.ge i).getD y sd0).2.2 ((c.gen i).getD y [])
  dRG : L.R ≠ L.G
  dro : ∀ i j, i < N → j < N → i ≠ j → L.ro i ≠ L.ro j
  drg : ∀ i j, i < N → j < N → (sval (L.gv j)).ownBlock ≠ some (L.ro i)
  dgv : ∀ i j, i < N → j < N → i ≠ j → ∀ b, (sval (L.gv i)).ownBlock = some b → (sval (L.gv j)).ownBlock ≠ some b

section
variable {w w' : World} {base g N i y : Nat} {c : Ch} {L : LY}
theorem rng_at {f : Nat → Value} (hi : i < N) : ((List.range N).map f)[i]? = some (f i) := by
  rw [List.getElem?_map, List.getElem?_range hi]; rfl
theorem ents_at {l : List SV} (hy : y < l.length) : (l.map sval)[y]? = some (sval (l.getD y sd0)) := by
  rw [List.getElem?_map, List.getD_eq_getElem?_getD, List.getElem?_eq_getElem hy]; rfl
theorem Cn.ltG (h : Cn w base g N c L) : base ≤ L.G ∧ L.G < w.heap.size := World.ownsRow.lt h.own2 L.G rfl
theorem Cn.ltR (h : Cn w base g N c L) : base ≤ L.R ∧ L.R < w.heap.size := World.ownsRow.lt h.own1 L.R rfl
theorem Cn.ltro (h : Cn w base g N c L) (hi : i < N) : base ≤ L.ro i ∧ L.ro i < w.heap.size := World.ownsRow.lt (h.row1 i hi) (L.ro i) rfl
theorem Cn.ltgv (h : Cn w base g N c L) (hi : i < N) : ∀ k, (sval (L.gv i)).ownBlock = some k → base ≤ k ∧ k < w.heap.size := World.ownsRow.lt (h.row2 i hi)
theorem Cn.mut (h : Cn w base g N c L) {b : Nat} (hb : Mut N L b) : base ≤ b ∧ b < w.heap.size := by
  rcases hb with rfl | ⟨i, hi, rfl⟩ | ⟨i, hi, e⟩
  · exact h.ltG
  · exact h.ltro hi
  · exact h.ltgv hi b e
theorem Cn.noInt (h : Cn w base g N c L) : NoInt w (Mut N L) := by
  intro b hb
  rcases hb with rfl | ⟨i, hi, rfl⟩ | ⟨i, hi, e⟩
  · obtain ⟨cur, e⟩ := ownsRow_typ h.own2 (k := L.G) rfl
    exact ⟨cur, _, _, e, by decide⟩
  · obtain ⟨cur, e⟩ := ownsRow_typ (h.row1 i hi) (k := L.ro i) rfl
    exact ⟨cur, _, _, e, by decide⟩
  · obtain ⟨cur, e⟩ := ownsRow_typ (h.row2 i hi) e
    exact ⟨cur, _, _, e, by decide⟩
/-- The chain's own block and its table of rows never turn. -/
theorem Cn.g_mut (h : Cn w base g N c L) : ¬ Mut N L g := by
  intro hb
  have hk : ∀ cs t, w.heap[g]? = some (.cells cs t (0, 0)) → t = 87 := fun cs t e => by
    have := h.blk
    unfold Blk at this
    rw [this] at e
    injection e with e
    injection e with _ e
    exact e.symm
  rcases hb with e | ⟨i, hi, e⟩ | ⟨i, hi, e⟩
  · obtain ⟨cur, e2⟩ := ownsRow_typ h.own2 (k := L.G) rfl
    rw [← e] at e2
    exact absurd (hk _ _ e2) (by decide)
  · obtain ⟨cur, e2⟩ := ownsRow_typ (h.row1 i hi) (k := L.ro i) rfl
    rw [← e] at e2
    exact absurd (hk _ _ e2) (by decide)
  · obtain ⟨cur, e2⟩ := ownsRow_typ (h.row2 i hi) e
    exact absurd (hk _ _ e2) (by decide)
theorem Cn.typS (h : Cn w base g N c L) {b : Nat} {cs : Array Value} {fz} (hb : w.heap[b]? = some (.cells cs 24 fz)) : (∀ i, i < N → L.ro i ≠ b) ∧ ∀ i, i < N → (sval (L.gv i)).ownBlock ≠ some b := by
  refine ⟨fun i hi e => ?_, fun i hi e => ?_⟩
  · obtain ⟨cur, e2⟩ := ownsRow_typ (h.row1 i hi) (k := L.ro i) rfl
    rw [e, hb] at e2
    injection e2 with e2
    injection e2 with _ e3
    exact absurd e3 (by decide)
  · obtain ⟨cur, e2⟩ := ownsRow_typ (h.row2 i hi) e
    rw [hb] at e2
    injection e2 with e2
    injection e2 with _ e3
    exact absurd e3 (by decide)
theorem Cn.R_mut (h : Cn w base g N c L) : ¬ Mut N L L.R := by
  obtain ⟨cur, e2⟩ := ownsRow_typ h.own1 (k := L.R) rfl
  have ht := h.typS e2
  rintro (e | ⟨i, hi, e⟩ | ⟨i, hi, e⟩)
  · exact h.dRG e
  · exact ht.1 i hi e.symm
  · exact ht.2 i hi e
/-- Calls that turn nothing keep it. -/
theorem Cn.up (h : Cn w base g N c L) (hb : Below w.heap.size w w') : Cn w' base g N c L := by
  have hc : Chg w w' (fun _ => False) := .of_below hb
  exact ⟨(hb.block g h.blk.lt).trans h.blk, h.hg, ownsRow_chg h.own1 hc fun _ _ e => e, fun i hi => ownsRow_chg (h.row1 i hi) hc fun _ _ e => e, h.len1, fun i hi y hy => (h.ent1 i hi y hy).up hb,
    ownsRow_chg h.own2 hc fun _ _ e => e, fun i hi => ownsRow_chg (h.row2 i hi) hc fun _ _ e => e, h.len2, fun i hi y hy => (h.ent2 i hi y hy).up hb, h.dRG, h.dro, h.drg, h.dgv⟩
theorem Cn.drewN (h : Cn w base g N c L) (k : Nat) : Cn (w.drewN k) base g N c L := h.up ⟨rfl, rfl, rfl, Nat.le_refl _, fun _ _ => rfl⟩
/-! reading -/
theorem Cn.c0 (h : Cn w base g N c L) : w.cell? ⟨g, 0, none⟩ = some (.int .i64 (N : Nat)) := h.blk.cell 0
theorem Cn.c1 (h : Cn w base g N c L) : w.cell? ⟨g, 1, none⟩ = some (.slice (some ⟨L.R, 0, none⟩) N L.cR) := h.blk.cell 1
theorem Cn.c2 (h : Cn w base g N c L) : w.cell? ⟨g, 2, none⟩ = some (.slice (some ⟨L.G, 0, none⟩) N L.cG) := h.blk.cell 2
theorem Cn.cR (h : Cn w base g N c L) (hi : i < N) : w.cell? ⟨L.R, i, none⟩ = some (.slice (some ⟨L.ro i, 0, none⟩) N N) := by
  rw [h.own1.cellAt i (by omega), rng_at hi]
theorem Cn.cG (h : Cn w base g N c L) (hi : i < N) : w.cell? ⟨L.G, i, none⟩ = some (sval (L.gv i)) := by
  rw [h.own2.cellAt i (by omega), rng_at hi]
theorem Cn.cro (h : Cn w base g N c L) (hi : i < N) (hy : y < N) : w.cell? ⟨L.ro i, y, none⟩ = some (sval ((L.en i).getD y sd0)) := by
  rw [(h.row1 i hi).cellAt y (by omega), ents_at (by rw [h.len1 i hi]; exact hy)]
theorem Cn.gvn (h : Cn w base g N c L) (hi : i < N) : (L.gv i).2.1 = (c.gen i).length := by
  rcases (h.row2 i hi).2 with ⟨e, h0⟩ | ⟨g', cap, cur, e, _⟩
  · unfold sval at e; injection e with _ e _; rw [e, h0]
  · unfold sval at e; injection e
theorem Cn.cge (h : Cn w base g N c L) (hi : i < N) (hy : y < (c.gen i).length) : ∃ q cq, L.gv i = (some ⟨q, 0, none⟩, (c.gen i).length, cq) ∧ w.cell? ⟨q, y, none⟩ = some (sval ((L.ge i).getD y sd0)) := by
  have ho := h.row2 i hi
  rcases ho.2 with ⟨e, h0⟩ | ⟨g', cap, cur, e, _⟩
  · omega
  · refine ⟨g', cap, ?_, ?_⟩
    · rcases hg : L.gv i with ⟨a, b, d⟩
      rw [hg] at e; unfold sval at e; injection e with e1 e2 e3
      subst e1 e2 e3; rfl
    · rw [e] at ho
      rw [ho.cellAt y (by omega), ents_at (by rw [h.len2 i hi]; exact hy)]
theorem Cn.enn (h : Cn w base g N c L) (hi : i < N) (hy : y < N) : ((L.en i).getD y sd0).2.1 = (c.rep i y).length := (h.ent1 i hi y hy).1.symm
end
end Go.Proofs.Ytooafmifbplbhaa
