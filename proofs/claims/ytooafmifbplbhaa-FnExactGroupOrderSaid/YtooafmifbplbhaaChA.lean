/- append of one slice onto a row of slices of the call's own, as a step of a drawn region and in a list. No condition. -/
import Derived.Test.YtooafmifbplbhaaChU
import Derived.Deep.RegionLaw
import Derived.Maps.AppendAt
namespace Go.Proofs.Ytooafmifbplbhaa
open Go.RowKit

theorem grown_undrewC {a b : World} {row : Option Nat} (h : a.drew.grownBy b row) : a.grownBy b row := ⟨h.os, h.tape, h.output, h.size, h.block⟩
theorem step_appV {w : World} {ops : Array Oper} {o : Oper} {a : Act} {K : Act → World → Prop} {Q : Exit → Act → World → Prop} {E : Prop} (hgd : o.guard = none) (s x : Operand)
    (ho : o.op = .call { callee := .builtin .append, args := #[s, x], argTypes := #[24, 24] })
    (base : Nat) (v : Value) (n : Nat) (xs : List Value) (hs : a.eval s = v) (hown : w.ownsRow base 25 1 v n xs) (g : Nat) (d : SV) (hx : a.eval x = .slice (some ⟨g, 0, none⟩) 1 1)
    (hcell : w.cell? ⟨g, 0, none⟩ = some (sval d)) (hn : n ≤ 1000000000) (hbase : base ≤ w.heap.size)
    (h : ∀ A' c' w', w'.ownsRow base 25 1 (.slice A' (n + 1) c') (n + 1) (xs ++ [sval d]) → w.grownBy w' v.ownBlock → ((Value.slice A' (n + 1) c').ownBlock = v.ownBlock ∨ (Value.slice A' (n + 1) c').ownBlock = some w.heap.size) → K (a.put o.dst (.slice A' (n + 1) c')) w') : if Region.wanted o (yielded ops a.tmps) = true then Oper.wp Try.prog o a w K Q else E := by
  have hw : Region.wanted o (yielded ops a.tmps) = true := by simp [Region.wanted, hgd]
  rw [if_pos hw]
  obtain ⟨i0, hi, hz0, hz1, hz2⟩ := info_parts infoS
  obtain ⟨v', w', hr, hown', hg, _, hat⟩ := run_append_own_at (P := Try.prog) w base 24 o.type 25 i0 (.slice none 0 0) 1 24 Try.underlying24 hi hz0 hz1 hz2 rfl (by decide) v n xs hown ⟨g, 0, none⟩ 1 1 [sval d] rfl (by
      intro j u hj
      match j, hj with
      | 0, hj => simp at hj; subst hj; simpa [Addr.add] using hcell
      | j + 1, hj => simp at hj) (by intro u hu; simp at hu; subst hu; rfl) (by unfold maxLen; omega) (by omega) hbase
  unfold Oper.wp execOp
  simp only [ho, resolve, invoke, builtin, Sem.run_bind, Sem.run_pure, Result.andThen_ok, List.map_toArray, List.map_cons, List.map_nil, hs, hx, hr]
  have hform : ∃ A' c', v' = .slice A' (n + 1) c' := by
    rcases hown'.2 with ⟨rfl, h0⟩ | ⟨g', cap, cur, rfl, _⟩
    · omega
    · exact ⟨_, _, rfl⟩
  obtain ⟨A', c', rfl⟩ := hform
  exact h A' c' w' hown' hg hat
theorem wpList_appV {w : World} {ops : Array Oper} {rest : List Oper} {o : Oper} {a : Act} {Q : Exit → Act → World → Prop} (hgd : o.guard = none) (s x : Operand)
    (ho : o.op = .call { callee := .builtin .append, args := #[s, x], argTypes := #[24, 24] })
    (base : Nat) (v : Value) (n : Nat) (xs : List Value) (hs : a.eval s = v) (hown : w.ownsRow base 25 1 v n xs) (g : Nat) (d : SV) (hx : a.eval x = .slice (some ⟨g, 0, none⟩) 1 1)
    (hcell : w.cell? ⟨g, 0, none⟩ = some (sval d)) (hn : n ≤ 1000000000) (hbase : base ≤ w.heap.size)
    (h : ∀ A' c' w', w'.ownsRow base 25 1 (.slice A' (n + 1) c') (n + 1) (xs ++ [sval d]) → w.grownBy w' v.ownBlock → ((Value.slice A' (n + 1) c').ownBlock = v.ownBlock ∨ (Value.slice A' (n + 1) c').ownBlock = some w.heap.size) → wpList Try.prog ops Q rest (a.put o.dst (.slice A' (n + 1) c')) w') : wpList Try.prog ops Q (o :: rest) a w := by
  obtain ⟨i0, hi, hz0, hz1, hz2⟩ := info_parts infoS
  refine wpList_append_own_at w hgd s x 24 ho base 25 i0 (.slice none 0 0) 1 24 Try.underlying24 hi hz0 hz1 hz2 rfl (by decide) v n xs hs hown ⟨g, 0, none⟩ 1 1 [sval d] hx rfl ?_ ?_ ?_ (by omega) hbase ?_
  · intro j u hj
    match j, hj with
    | 0, hj => simp at hj; subst hj; simpa [Addr.add] using hcell
    | j + 1, hj => simp at hj
  · intro u hu; simp at hu; subst hu; rfl
  · unfold maxLen; omega
  · intro v' w' hown' hg _ hat
    have hform : ∃ A' c', v' = .slice A' (n + 1) c' := by
      rcases hown'.2 with ⟨rfl, h0⟩ | ⟨g', cap, cur, rfl, _⟩
      · omega
      · exact ⟨_, _, rfl⟩
    obtain ⟨A', c', rfl⟩ := hform
    exact h A' c' w' hown' hg hat
/-- A generator appended to level k, as the store leaves it. -/
theorem Cn.pushA {w1 w2 : World} {o : Obj} {base g N k gn gc gc2 : Nat} {gA gA2 : Option Addr} {c : Ch} {L : LY} {p : List Int} {e : SV} (h : Cn w1 base g N c L) (hk : k < N) (hgv : L.gv k = (gA, gn, gc)) (hG : (c.gen k).length = gn)
    (he : Slc w1 base e.1 e.2.1 e.2.2 p) (ho : w2.ownsRow base 25 1 (.slice gA2 (gn + 1) gc2) (gn + 1) ((L.ge k).map sval ++ [sval e])) (hg : (w1.alloc o).grownBy w2 (Value.slice gA gn gc).ownBlock)
    (hat : (Value.slice gA2 (gn + 1) gc2).ownBlock = (Value.slice gA gn gc).ownBlock ∨ (Value.slice gA2 (gn + 1) gc2).ownBlock = some (w1.alloc o).heap.size) :
    ∃ L', Cn (w2.setCell ⟨L.G, k, none⟩ (.slice gA2 (gn + 1) gc2)) base g N (c.push k p) L' ∧ Chg w1 (w2.setCell ⟨L.G, k, none⟩ (.slice gA2 (gn + 1) gc2)) (Mut N L) ∧ (∀ b, Mut N L' b → Mut N L b ∨ w1.heap.size ≤ b) ∧ Slc (w2.setCell ⟨L.G, k, none⟩ (.slice gA2 (gn + 1) gc2)) base e.1 e.2.1 e.2.2 p := by
  have b1 : Below w1.heap.size w1 (w1.alloc o) := (Below.refl _ _).alloc (Nat.le_refl _) _
  have h1 := h.up b1
  obtain ⟨a1, a2, a3⟩ := h1.pushed hk (d := (gA2, gn + 1, gc2)) (e := e) (by rw [hG]; exact ho) (by rw [hgv]; exact hg) (by
    rw [hgv]
    rcases hat with e1 | e1
    · exact .inl e1
    · exact .inr ⟨_, e1, Nat.le_refl _⟩) (he.up b1)
  refine ⟨_, a1, (Chg.of_below b1).trans a2 fun b hb => .inl hb, fun b hb => ?_, (he.up b1).chg a2 h1.noInt⟩
  rcases a3 b hb with e1 | e1
  · exact .inl e1
  · exact .inr (Nat.le_trans b1.size e1)

/-- A row of the call's own of slices that hold the lists rs (no word on whether they share). -/
structure Kn (w : World) (lo base : Nat) (A : Option Addr) (m cc : Nat) (ds : List SV) (rs : List (List Int)) : Prop where
  own : w.ownsRow lo 25 1 (.slice A m cc) m (ds.map sval)
  ld : ds.length = m
  lr : rs.length = m
  ent : ∀ t, t < m → Slc w base (ds.getD t sd0).1 (ds.getD t sd0).2.1 (ds.getD t sd0).2.2 (rs.getD t [])
theorem Kn.lit0 (w : World) (lo base : Nat) (hb : lo ≤ w.heap.size) : Kn (w.alloc (.cells #[] 25)) lo base (some ⟨w.heap.size, 0, none⟩) 0 0 [] [] :=
  ⟨World.ownsRow_lit (size := 1) w #[] 0 hb (Nat.zero_le _) rfl, rfl, rfl, fun t h => absurd h (by omega)⟩
section
variable {w w' : World} {lo base m cc : Nat} {A : Option Addr} {ds : List SV} {rs : List (List Int)}
theorem Kn.up (h : Kn w lo base A m cc ds rs) (hb : Below w.heap.size w w') : Kn w' lo base A m cc ds rs :=
  ⟨ownsRow_chg h.own (.of_below (M := fun _ => False) hb) fun _ _ e => e, h.ld, h.lr, fun t ht => (h.ent t ht).up hb⟩
theorem Kn.chg {M : Nat → Prop} (h : Kn w lo base A m cc ds rs) (hc : Chg w w' M) (hM : NoInt w M) (hk : ∀ b, (Value.slice A m cc).ownBlock = some b → ¬ M b) : Kn w' lo base A m cc ds rs :=
  ⟨ownsRow_chg h.own hc hk, h.ld, h.lr, fun t ht => (h.ent t ht).chg hc hM⟩
theorem Kn.at_ (h : Kn w lo base A m cc ds rs) {t : Nat} (ht : t < m) : ∃ q, A = some ⟨q, 0, none⟩ ∧ w.cell? ⟨q, t, none⟩ = some (sval (ds.getD t sd0)) := by
  have ho := h.own
  rcases ho.2 with ⟨e, h0⟩ | ⟨g', cap, cur, e, _⟩
  · omega
  · injection e with e1 e2 e3
    subst e1
    exact ⟨g', rfl, by rw [ho.cellAt t (by omega), ents_at (by rw [h.ld]; exact ht)]⟩
theorem Kn.lt_ (h : Kn w lo base A m cc ds rs) : ∀ k, (Value.slice A m cc).ownBlock = some k → lo ≤ k ∧ k < w.heap.size := World.ownsRow.lt h.own
/-- One more. -/
theorem Kn.snoc {A' : Option Addr} {c' : Nat} {d : SV} {r : List Int} (h : Kn w lo base A m cc ds rs) (hd : Slc w base d.1 d.2.1 d.2.2 r) (ho : w'.ownsRow lo 25 1 (.slice A' (m + 1) c') (m + 1) (ds.map sval ++ [sval d])) (hg : w.grownBy w' (Value.slice A m cc).ownBlock) : Kn w' lo base A' (m + 1) c' (ds ++ [d]) (rs ++ [r]) := by
  have hc : Chg w w' (fun b => (Value.slice A m cc).ownBlock = some b) := .of_grown hg fun b e => e
  have hM : NoInt w (fun b => (Value.slice A m cc).ownBlock = some b) := fun b e => by
    obtain ⟨cur, e2⟩ := ownsRow_typ h.own e
    exact ⟨cur, _, _, e2, by decide⟩
  refine ⟨by rw [List.map_append]; exact ho, by simp [h.ld], by simp [h.lr], fun t ht => ?_⟩
  by_cases e : t < m
  · rw [getD_app _ _ _ _ (by rw [h.ld]; exact e), getD_app _ _ _ _ (by rw [h.lr]; exact e)]
    exact (h.ent t e).chg hc hM
  · have e2 : t = m := by omega
    rw [getD_snoc _ _ _ _ (by rw [h.ld]; exact e2), getD_snoc _ _ _ _ (by rw [h.lr]; exact e2)]
    exact hd.chg hc hM
end
end Go.Proofs.Ytooafmifbplbhaa
