/- Words for slices of slices of int64 that the call itself made. No condition. -/
import Derived.Test.YtonanelghnjhpabHelp
namespace Go.Proofs.Ytonanelghnjhpab
open Go.RowKit

abbrev SV := Option Addr × Nat × Nat
def sval (d : SV) : Value := .slice d.1 d.2.1 d.2.2
def sd0 : SV := (none, 0, 0)

/-- '.slice A n c' is a row of the call's own of n slices vs, which are rows of the call's own that hold the lists xss; no two of them share a block. -/
structure SS (w : World) (base bi : Nat) (A : Option Addr) (n c : Nat) (vs : List SV) (xss : List (List Int)) : Prop where
  own : w.ownsRow base 22 1 (.slice A n c) n (vs.map sval)
  lv : vs.length = n
  lx : xss.length = n
  row : ∀ i, i < n → Slc w bi (vs.getD i sd0).1 (vs.getD i sd0).2.1 (vs.getD i sd0).2.2 (xss.getD i [])
  dis : ∀ i j, i < j → j < n → (sval (vs.getD i sd0)).ownBlock = none ∨ (sval (vs.getD i sd0)).ownBlock ≠ (sval (vs.getD j sd0)).ownBlock

theorem infoS : (Try.prog.info? 22).map (fun i => (i.zero, i.size, i.bytes)) = some (some (.slice none 0 0), 1, 24) := by kernel_rfl

theorem getD_app {α : Type} (l l' : List α) (d : α) (i : Nat) (h : i < l.length) : (l ++ l').getD i d = l.getD i d := by
  rw [List.getD_eq_getElem?_getD, List.getElem?_append_left h, ← List.getD_eq_getElem?_getD]
theorem getD_snoc {α : Type} (l : List α) (x d : α) (i : Nat) (h : i = l.length) : (l ++ [x]).getD i d = x := by
  subst h
  rw [List.getD_eq_getElem?_getD, List.getElem?_append_right (Nat.le_refl _), Nat.sub_self]; rfl

section
variable {w w' : World} {base bi n c B : Nat} {A : Option Addr} {vs : List SV} {xss : List (List Int)}
theorem SS.nil_ : SS w base bi none 0 0 [] [] := ⟨World.ownsRow_nil _ _ _ _, rfl, rfl, fun i h => absurd h (by omega), fun i j _ h => absurd h (by omega)⟩
theorem SS.lit0 (w : World) (base bi : Nat) (hb : base ≤ w.heap.size) : SS (w.alloc (.cells #[] 22)) base bi (some ⟨w.heap.size, 0, none⟩) 0 0 [] [] :=
  ⟨World.ownsRow_lit (size := 1) w #[] 0 hb (Nat.zero_le _) rfl, rfl, rfl, fun i h => absurd h (by omega), fun i j _ h => absurd h (by omega)⟩
/-- An inner row never lies in the outer row's block: their elements' types differ. -/
theorem apart_types {a n' c' : Nat} {A' : Option Addr} {xs : List Int} {base' : Nat} {v : Value} {ys : List Value} (h : Slc w base' A' n' c' xs) (ho : w.ownsRow base 22 1 v a ys) :
    (Value.slice A' n' c').ownBlock = none ∨ (Value.slice A' n' c').ownBlock ≠ v.ownBlock := by
  rcases h.2.2 with ⟨e, _⟩ | ⟨g, cap, cur, e, hb, hg, _⟩
  · left; rw [e]; rfl
  · right
    rw [e]
    rcases ho.2 with ⟨rfl, _⟩ | ⟨g', cap', cur', rfl, hb', hg', _⟩
    · simp [Value.ownBlock]
    · simp only [Value.ownBlock]
      intro e2
      injection e2 with e2
      subst e2
      rw [hg] at hg'
      injection hg' with hg'
      injection hg' with _ ht
      exact absurd ht (by decide)
theorem SS.below_lt (h : SS w base bi A n c vs xss) (hb : Below B w w') (hB : w.heap.size ≤ B) : SS w' base bi A n c vs xss := by
  refine ⟨⟨h.own.1, ?_⟩, h.lv, h.lx, fun i hi => (h.row i hi).below hb hB, h.dis⟩
  rcases h.own.2 with hn | ⟨g, cap, cur, e, hb', hg, rest⟩
  · exact .inl hn
  · exact .inr ⟨g, cap, cur, e, hb', by rw [hb.block g (by have := (Array.getElem?_eq_some_iff.1 hg).1; omega)]; exact hg, rest⟩
theorem SS.up (h : SS w base bi A n c vs xss) (hb : Below w.heap.size w w') : SS w' base bi A n c vs xss := h.below_lt hb (Nat.le_refl _)
theorem SS.drewN (h : SS w base bi A n c vs xss) (k : Nat) : SS (w.drewN k) base bi A n c vs xss := ⟨h.own, h.lv, h.lx, fun i hi => (h.row i hi).drewN k, h.dis⟩
theorem SS.mono (h : SS w base bi A n c vs xss) {base' bi' : Nat} (hb : base' ≤ base) (hi' : bi' ≤ bi) : SS w base' bi' A n c vs xss := by
  refine ⟨⟨h.own.1, ?_⟩, h.lv, h.lx, fun i hi => (h.row i hi).mono hi', h.dis⟩
  rcases h.own.2 with hn | ⟨g, cap, cur, e, hb', rest⟩
  · exact .inl hn
  · exact .inr ⟨g, cap, cur, e, by omega, rest⟩
theorem SS.alloc (h : SS w base bi A n c vs xss) (o : Obj) : SS (w.alloc o) base bi A n c vs xss := ⟨World.ownsRow.alloc h.own o, h.lv, h.lx, fun i hi => (h.row i hi).alloc o, h.dis⟩
/-- The outer row's cells. -/
theorem SS.at_ (h : SS w base bi A n c vs xss) (hn : 0 < n) : ∃ g, A = some ⟨g, 0, none⟩ ∧ base ≤ g ∧ g < w.heap.size ∧ ∀ i, i < n → w.cell? ⟨g, i, none⟩ = some (.slice (vs.getD i sd0).1 (vs.getD i sd0).2.1 (vs.getD i sd0).2.2) := by
  rcases h.own.2 with ⟨e, h0⟩ | ⟨g, cap, cur, e, hb, hg, rest⟩
  · omega
  · injection e with e1 e2 e3
    subst e1
    refine ⟨g, rfl, hb, (Array.getElem?_eq_some_iff.1 hg).1, fun i hi => ?_⟩
    rw [h.own.cellAt i (by omega), List.getElem?_map, List.getD_eq_getElem?_getD, List.getElem?_eq_getElem (by rw [h.lv]; exact hi)]
    rfl
theorem SS.lt_ (h : SS w base bi A n c vs xss) : ∀ k, (Value.slice A n c).ownBlock = some k → base ≤ k ∧ k < w.heap.size := World.ownsRow.lt h.own

/-- append of one slice onto a slice of slices of the call's own. -/
theorem wpList_app2_at {ops : Array Oper} {rest : List Oper} {o : Oper} {a : Act} {Q : Exit → Act → World → Prop} (hgd : o.guard = none) (s x : Operand)
    (ho : o.op = .call { callee := .builtin .append, args := #[s, x], argTypes := #[46, 46] })
    (hs : a.eval s = .slice A n c) (hss : SS w base bi A n c vs xss) (g : Nat) (dA : Option Addr) (dn dc : Nat) (ys : List Int) (hx : a.eval x = .slice (some ⟨g, 0, none⟩) 1 1)
    (hcell : w.cell? ⟨g, 0, none⟩ = some (.slice dA dn dc)) (hys : Slc w bi dA dn dc ys)
    (hdis : ∀ i, i < n → (sval (vs.getD i sd0)).ownBlock = none ∨ (sval (vs.getD i sd0)).ownBlock ≠ (Value.slice dA dn dc).ownBlock) (hn : n ≤ 1000000000) (hbase : base ≤ w.heap.size)
    (h : ∀ A' c' w', SS w' base bi A' (n + 1) c' (vs ++ [(dA, dn, dc)]) (xss ++ [ys]) → w.grownBy w' (Value.slice A n c).ownBlock → ((Value.slice A' (n + 1) c').ownBlock = (Value.slice A n c).ownBlock ∨ (Value.slice A' (n + 1) c').ownBlock = some w.heap.size) → wpList Try.prog ops Q rest (a.put o.dst (.slice A' (n + 1) c')) w') : wpList Try.prog ops Q (o :: rest) a w := by
  obtain ⟨i0, hi, hz0, hz1, hz2⟩ := info_parts infoS
  refine wpList_append_own_at w hgd s x 46 ho base 22 i0 (.slice none 0 0) 1 24 Try.underlying46 hi hz0 hz1 hz2 rfl (by decide) _ n _ hs hss.own ⟨g, 0, none⟩ 1 1 [.slice dA dn dc] hx rfl ?_ ?_ ?_ (by omega) hbase ?_
  · intro j v hj
    match j, hj with
    | 0, hj => simp at hj; subst hj; simpa [Addr.add] using hcell
    | j + 1, hj => simp at hj
  · intro v hv; simp at hv; subst hv; rfl
  · unfold maxLen; omega
  · intro v' w' hown' hg _ hat
    have hform : ∃ A' c', v' = .slice A' (n + 1) c' := by
      rcases hown'.2 with ⟨rfl, h0⟩ | ⟨g', cap, cur, rfl, _⟩
      · omega
      · exact ⟨_, _, rfl⟩
    obtain ⟨A', c', rfl⟩ := hform
    refine h A' c' w' ⟨?_, by simp [hss.lv], by simp [hss.lx], fun i hi' => ?_, fun i j hij hj => ?_⟩ hg hat
    · rw [List.map_append]; exact hown'
    · by_cases e : i < n
      · rw [getD_app _ _ _ _ (by rw [hss.lv]; exact e), getD_app _ _ _ _ (by rw [hss.lx]; exact e)]
        exact (hss.row i e).kept hg (apart_types (hss.row i e) hss.own)
      · obtain rfl : i = n := by omega
        rw [getD_snoc _ _ _ _ hss.lv.symm, getD_snoc _ _ _ _ hss.lx.symm]
        exact hys.kept hg (apart_types hys hss.own)
    · rw [getD_app _ _ _ i (by rw [hss.lv]; omega)]
      by_cases e : j < n
      · rw [getD_app _ _ _ j (by rw [hss.lv]; exact e)]; exact hss.dis i j hij e
      · obtain rfl : j = n := by omega
        rw [getD_snoc _ _ _ _ hss.lv.symm]
        exact hdis i hij
/-- append of one slice onto a slice of slices of the call's own. -/
theorem wpList_app2 {ops : Array Oper} {rest : List Oper} {o : Oper} {a : Act} {Q : Exit → Act → World → Prop} (hgd : o.guard = none) (s x : Operand)
    (ho : o.op = .call { callee := .builtin .append, args := #[s, x], argTypes := #[46, 46] })
    (hs : a.eval s = .slice A n c) (hss : SS w base bi A n c vs xss) (g : Nat) (dA : Option Addr) (dn dc : Nat) (ys : List Int) (hx : a.eval x = .slice (some ⟨g, 0, none⟩) 1 1)
    (hcell : w.cell? ⟨g, 0, none⟩ = some (.slice dA dn dc)) (hys : Slc w bi dA dn dc ys)
    (hdis : ∀ i, i < n → (sval (vs.getD i sd0)).ownBlock = none ∨ (sval (vs.getD i sd0)).ownBlock ≠ (Value.slice dA dn dc).ownBlock) (hn : n ≤ 1000000000) (hbase : base ≤ w.heap.size)
    (h : ∀ A' c' w', SS w' base bi A' (n + 1) c' (vs ++ [(dA, dn, dc)]) (xss ++ [ys]) → w.grownBy w' (Value.slice A n c).ownBlock → wpList Try.prog ops Q rest (a.put o.dst (.slice A' (n + 1) c')) w') : wpList Try.prog ops Q (o :: rest) a w :=
  wpList_app2_at hgd s x ho hs hss g dA dn dc ys hx hcell hys hdis hn hbase fun A' c' w' h1 h2 _ => h A' c' w' h1 h2
/-- What lies from block lo on is kept where those blocks are. -/
theorem Slc.mid {base n c lo : Nat} {A : Option Addr} {xs : List Int} (h : Slc w base A n c xs) (hm : ∀ k, lo ≤ k → k < w.heap.size → w'.heap[k]? = w.heap[k]?) (hl : lo ≤ base) : Slc w' base A n c xs := by
  refine ⟨h.1, h.2.1, ?_⟩
  rcases h.2.2 with hn | ⟨g, cap, cur, e, hb, hg, rest⟩
  · exact .inl hn
  · exact .inr ⟨g, cap, cur, e, hb, by rw [hm g (by omega) (Array.getElem?_eq_some_iff.1 hg).1]; exact hg, rest⟩
theorem SS.mid {lo : Nat} (h : SS w base bi A n c vs xss) (hm : ∀ k, lo ≤ k → k < w.heap.size → w'.heap[k]? = w.heap[k]?) (hl : lo ≤ base) (hi : lo ≤ bi) : SS w' base bi A n c vs xss := by
  refine ⟨⟨h.own.1, ?_⟩, h.lv, h.lx, fun i hi' => (h.row i hi').mid hm hi, h.dis⟩
  rcases h.own.2 with hn | ⟨g, cap, cur, e, hb, hg, rest⟩
  · exact .inl hn
  · exact .inr ⟨g, cap, cur, e, hb, by rw [hm g (by omega) (Array.getElem?_eq_some_iff.1 hg).1]; exact hg, rest⟩
end
theorem lies_dis {w : World} {base bi n c : Nat} {A : Option Addr} {vs : List SV} {xss : List (List Int)} (h : SS w base bi A n c vs xss) {dA : Option Addr} {dn dc lo hi : Nat} (l : Lies dA dn dc lo hi) (hlo : w.heap.size ≤ lo) :
    ∀ i, i < n → (sval (vs.getD i sd0)).ownBlock = none ∨ (sval (vs.getD i sd0)).ownBlock ≠ (Value.slice dA dn dc).ownBlock :=
  fun i hi => (h.row i hi).lies.apart l (.inl hlo)
end Go.Proofs.Ytonanelghnjhpab
