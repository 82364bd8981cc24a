/- Part 9 of the texts: Sss, SEq, PbE, WalkF7, WalkG7. No condition of its own: each text tells its own. -/
import Derived.Test.YtedfcljikgmpgaaMg5
import Derived.Test.YtedfcljikgmpgaaMg2
import Derived.Test.YtedfcljikgmpgaaMg6
import Derived.Test.YtedfcljikgmpgaaMg3
import Derived.Test.YtedfcljikgmpgaaMg8
import Derived.Test.YtedfcljikgmpgaaMg7
import Derived.BigQuiet
import Derived.WalkSpells
set_option linter.unusedVariables false
set_option linter.unusedSimpArgs false

/- Slices of slices of slices: what the call itself made, what can be read; the laws' helpers on them. Conditions: at most 1000 slices, 1048576 numbers in all. -/
namespace Go.Proofs.Ytedfcljikgmpgaa
open Go.RowKit

/-- '.slice A n _' reads as slices that read as the lists of lists ls. -/
structure R3 (w : World) (B : Nat) (A : Option Addr) (n : Nat) (vs : List SV) (wss : List (List SV)) (ls : List (List (List Int))) : Prop where
  lx : ls.length = n
  cells : 0 < n → ∃ b off, A = some ⟨b, off, none⟩ ∧ b < B ∧ ∀ j, j < n → w.cell? ⟨b, off + j, none⟩ = some (.slice (vs.getD j sd0).1 (vs.getD j sd0).2.1 (vs.getD j sd0).2.2)
  rows : ∀ j, j < n → RR w B (vs.getD j sd0).1 (vs.getD j sd0).2.1 (wss.getD j []) (ls.getD j [])
/-- A row of the call's own of n slices of slices, each of whose blocks lie in a range of their own. -/
structure S3 (w : World) (base : Nat) (A : Option Addr) (n c : Nat) (vs : List SV) (wss : List (List SV)) (rg : List (Nat × Nat)) (ls : List (List (List Int))) : Prop where
  own : w.ownsRow base 22 1 (.slice A n c) n (vs.map sval)
  lv : vs.length = n
  lw : wss.length = n
  lg : rg.length = n
  lx : ls.length = n
  row : ∀ i, i < n → SS w (rg.getD i (0, 0)).1 (rg.getD i (0, 0)).1 (vs.getD i sd0).1 (vs.getD i sd0).2.1 (vs.getD i sd0).2.2 (wss.getD i []) (ls.getD i [])
  up : ∀ i, i < n → (∀ k, (sval (vs.getD i sd0)).ownBlock = some k → k < (rg.getD i (0, 0)).2) ∧ ∀ t, t < (vs.getD i sd0).2.1 → ∀ k, (sval ((wss.getD i []).getD t sd0)).ownBlock = some k → k < (rg.getD i (0, 0)).2
  lo : ∀ i, i < n → base ≤ (rg.getD i (0, 0)).1
  ord : ∀ i j, i < j → j < n → (rg.getD i (0, 0)).2 ≤ (rg.getD j (0, 0)).1
  out : ∀ k, (Value.slice A n c).ownBlock = some k → ∀ i, i < n → k < (rg.getD i (0, 0)).1 ∨ (rg.getD i (0, 0)).2 ≤ k
theorem infoT : (Try.prog.info? 22).map (fun i => (i.zero, i.size, i.bytes)) = some (some (.slice none 0 0), 1, 24) := by kernel_rfl

section
variable {w w' : World} {base B B' n c : Nat} {A : Option Addr} {vs : List SV} {wss : List (List SV)} {rg : List (Nat × Nat)} {ls : List (List (List Int))}
theorem R3.keep (h : R3 w B A n vs wss ls) (hk : ∀ p : Addr, p.block < B → w'.cell? p = w.cell? p) : R3 w' B A n vs wss ls :=
  ⟨h.lx, fun hn => by obtain ⟨b, off, e, hb, hc⟩ := h.cells hn; exact ⟨b, off, e, hb, fun j hj => (hk ⟨b, off + j, none⟩ hb).trans (hc j hj)⟩, fun j hj => (h.rows j hj).keep hk⟩
theorem R3.more (h : R3 w B A n vs wss ls) (hB : B ≤ B') : R3 w B' A n vs wss ls :=
  ⟨h.lx, fun hn => by obtain ⟨b, off, e, hb, hc⟩ := h.cells hn; exact ⟨b, off, e, by omega, hc⟩, fun j hj => (h.rows j hj).more hB⟩
theorem R3.below (h : R3 w B A n vs wss ls) {B' : Nat} (hb : Below B' w w') (hB : B ≤ B') : R3 w' B A n vs wss ls := h.keep fun _ hp => hb.cell (by omega)
theorem R3.up (h : R3 w w.heap.size A n vs wss ls) (hb : Below w.heap.size w w') : R3 w' w'.heap.size A n vs wss ls := (h.below hb (Nat.le_refl _)).more hb.size
theorem R3.drewN (h : R3 w B A n vs wss ls) (k : Nat) : R3 (w.drewN k) B A n vs wss ls := h.keep fun _ _ => rfl
theorem R3.at_ (h : R3 w B A n vs wss ls) {k : Nat} (hk : k < n) : ∃ b off A5 l c5 us y, A = some ⟨b, off, none⟩ ∧ b < B ∧ vs.getD k sd0 = (A5, l, c5) ∧ ls.getD k [] = y ∧ w.cell? ⟨b, off + k, none⟩ = some (.slice A5 l c5) ∧ RR w B A5 l us y := by
  obtain ⟨b, off, e, hb, hc⟩ := h.cells (by omega)
  exact ⟨b, off, _, _, _, _, _, e, hb, rfl, rfl, hc k hk, h.rows k hk⟩
theorem S3.nil_ : S3 w base none 0 0 [] [] [] [] :=
  ⟨World.ownsRow_nil _ _ _ _, rfl, rfl, rfl, rfl, fun i h => absurd h (by omega), fun i h => absurd h (by omega), fun i h => absurd h (by omega), fun i j _ h => absurd h (by omega), fun k e => by cases e⟩
theorem S3.lit0 (w : World) (base : Nat) (hb : base ≤ w.heap.size) : S3 (w.alloc (.cells #[] 22)) base (some ⟨w.heap.size, 0, none⟩) 0 0 [] [] [] [] :=
  ⟨World.ownsRow_lit (size := 1) w #[] 0 hb (Nat.zero_le _) rfl, rfl, rfl, rfl, rfl, fun i h => absurd h (by omega), fun i h => absurd h (by omega), fun i h => absurd h (by omega), fun i j _ h => absurd h (by omega), fun k _ i h => absurd h (by omega)⟩
theorem S3.mono (h : S3 w base A n c vs wss rg ls) {base' : Nat} (hb : base' ≤ base) : S3 w base' A n c vs wss rg ls :=
  ⟨World.ownsRow.mono h.own hb, h.lv, h.lw, h.lg, h.lx, h.row, h.up, fun i hi => Nat.le_trans hb (h.lo i hi), h.ord, h.out⟩
theorem S3.upB (h : S3 w base A n c vs wss rg ls) (hb : Below w.heap.size w w') : S3 w' base A n c vs wss rg ls := by
  refine ⟨⟨h.own.1, ?_⟩, h.lv, h.lw, h.lg, h.lx, fun i hi => (h.row i hi).up hb, h.up, h.lo, h.ord, h.out⟩
  rcases h.own.2 with hn | ⟨g, cap, cur, e, hb', hg, rest⟩
  · exact .inl hn
  · exact .inr ⟨g, cap, cur, e, hb', by rw [hb.block g (Array.getElem?_eq_some_iff.1 hg).1]; exact hg, rest⟩
theorem S3.alloc (h : S3 w base A n c vs wss rg ls) (o : Obj) : S3 (w.alloc o) base A n c vs wss rg ls := h.upB ((Below.refl _ _).alloc (Nat.le_refl _) _)
theorem S3.lt_ (h : S3 w base A n c vs wss rg ls) : ∀ k, (Value.slice A n c).ownBlock = some k → base ≤ k ∧ k < w.heap.size := World.ownsRow.lt h.own
theorem S3.at_ (h : S3 w base A n c vs wss rg ls) (hn : 0 < n) : ∃ g, A = some ⟨g, 0, none⟩ ∧ base ≤ g ∧ g < w.heap.size ∧ ∀ i, i < n → w.cell? ⟨g, i, none⟩ = some (.slice (vs.getD i sd0).1 (vs.getD i sd0).2.1 (vs.getD i sd0).2.2) := by
  rcases h.own.2 with ⟨e, h0⟩ | ⟨g, cap, cur, e, hb, hg, rest⟩
  · omega
  · injection e with e1 e2 e3
    subst e1
    refine ⟨g, rfl, hb, (Array.getElem?_eq_some_iff.1 hg).1, fun i hi => ?_⟩
    rw [h.own.cellAt i (by omega), List.getElem?_map, List.getD_eq_getElem?_getD, List.getElem?_eq_getElem (by rw [h.lv]; exact hi)]
    rfl
theorem S3.rr (h : S3 w base A n c vs wss rg ls) : R3 w w.heap.size A n vs wss ls :=
  ⟨h.lx, fun hn => by obtain ⟨g, e, _, hg, hc⟩ := h.at_ hn; exact ⟨g, 0, e, hg, fun j hj => by rw [Nat.zero_add]; exact hc j hj⟩, fun j hj => (h.row j hj).rr⟩
/-- A system is of one block at least: its range is not empty. -/
theorem S3.rg_le (h : S3 w base A n c vs wss rg ls) {i : Nat} (hi : i < n) : (∀ k, (sval (vs.getD i sd0)).ownBlock = some k → (rg.getD i (0, 0)).1 ≤ k ∧ k < (rg.getD i (0, 0)).2) ∧ ∀ t, t < (vs.getD i sd0).2.1 → ∀ k, (sval ((wss.getD i []).getD t sd0)).ownBlock = some k → (rg.getD i (0, 0)).1 ≤ k ∧ k < (rg.getD i (0, 0)).2 :=
  ⟨fun k e => ⟨((h.row i hi).lt_ k e).1, (h.up i hi).1 k e⟩, fun t ht k e => ⟨(((h.row i hi).row t ht).lt_ k e).1, (h.up i hi).2 t ht k e⟩⟩
/-- Another row's blocks are kept. -/
theorem ownsRow_only {us : List SV} {m base : Nat} {t : TypeId} {v : Value} {k : Nat} {xs : List Value} (h : w.ownsRow base t 1 v k xs) (ho : OnlyIn w w' us m) (hd : ∀ b, v.ownBlock = some b → ∀ t, t < m → (sval (us.getD t sd0)).ownBlock ≠ some b) : w'.ownsRow base t 1 v k xs := by
  refine ⟨h.1, ?_⟩
  rcases h.2 with hn | ⟨g, cap, cur, e, hb', hg, rest⟩
  · exact .inl hn
  · exact .inr ⟨g, cap, cur, e, hb', by rw [ho.block g (Array.getElem?_eq_some_iff.1 hg).1 (fun t ht => hd g (by rw [e]; rfl) t ht)]; exact hg, rest⟩
theorem Slc.onlyT {us : List SV} {m bs k cc : Nat} {P : Option Addr} {xs : List Int} (h : Slc w bs P k cc xs) (ho : OnlyIn w w' us m) (hd : ∀ b, (Value.slice P k cc).ownBlock = some b → ∀ t, t < m → (sval (us.getD t sd0)).ownBlock ≠ some b) : Slc w' bs P k cc xs :=
  ⟨h.1, by have := ownsRow_only h.2 ho hd; exact this⟩
theorem SS.onlyT {us zs : List SV} {m bo bi k cc : Nat} {P : Option Addr} {xss : List (List Int)} (h : SS w bo bi P k cc zs xss) (ho : OnlyIn w w' us m) (hd : ∀ b, (Value.slice P k cc).ownBlock = some b → ∀ t, t < m → (sval (us.getD t sd0)).ownBlock ≠ some b)
    (hd2 : ∀ s, s < k → ∀ b, (sval (zs.getD s sd0)).ownBlock = some b → ∀ t, t < m → (sval (us.getD t sd0)).ownBlock ≠ some b) : SS w' bo bi P k cc zs xss :=
  ⟨ownsRow_only h.own ho hd, h.lv, h.lx, fun i hi => (h.row i hi).onlyT ho (hd2 i hi), h.dis⟩
/-- System j is marked. -/
theorem S3.marked (h : S3 w base A n c vs wss rg ls) {j : Nat} (hj : j < n) {ys : List (List Int)} (hs : SS w' (rg.getD j (0, 0)).1 (rg.getD j (0, 0)).1 (vs.getD j sd0).1 (vs.getD j sd0).2.1 (vs.getD j sd0).2.2 (wss.getD j []) ys)
    (ho : OnlyIn w w' (wss.getD j []) (vs.getD j sd0).2.1) : S3 w' base A n c vs wss rg (ls.set j ys) := by
  have hr := (h.rg_le hj).2
  refine ⟨ownsRow_only h.own ho fun b e t ht e2 => ?_, h.lv, h.lw, h.lg, by rw [List.length_set]; exact h.lx, fun i hi => ?_, h.up, h.lo, h.ord, h.out⟩
  · have h1 := hr t ht b e2
    have h2 := h.out b e j hj
    omega
  · by_cases e : j = i
    · subst e
      rw [show (ls.set j ys).getD j [] = ys from by rw [List.getD_eq_getElem?_getD, List.getElem?_set, if_pos rfl, if_pos (by rw [h.lx]; exact hj)]; rfl]
      exact hs
    · rw [show (ls.set j ys).getD i [] = ls.getD i [] from by rw [List.getD_eq_getElem?_getD, List.getElem?_set, if_neg e, ← List.getD_eq_getElem?_getD]]
      have ho2 : (rg.getD i (0, 0)).2 ≤ (rg.getD j (0, 0)).1 ∨ (rg.getD j (0, 0)).2 ≤ (rg.getD i (0, 0)).1 := by
        rcases Nat.lt_or_gt_of_ne e with hlt | hgt
        · exact .inr (h.ord j i hlt hi)
        · exact .inl (h.ord i j hgt hj)
      have hi2 := h.rg_le hi
      refine (h.row i hi).onlyT ho (fun b eb t ht e2 => ?_) (fun s hs' b eb t ht e2 => ?_)
      · have h1 := hr t ht b e2
        have h2 := hi2.1 b eb
        omega
      · have h1 := hr t ht b e2
        have h2 := hi2.2 s hs' b eb
        omega
/-- append of one slice of slices onto a row of them. -/
theorem wpList_app3_ {ops : Array Oper} {rest : List Oper} {o : Oper} {a : Act} {Q : Exit → Act → World → Prop} (hgd : o.guard = none) (s x : Operand)
    (ho : o.op = .call { callee := .builtin .append, args := #[s, x], argTypes := #[33, 33] })
    (hs : a.eval s = .slice A n c) (hss : S3 w base A n c vs wss rg ls) (g : Nat) (dA : Option Addr) (dn dc lo hi : Nat) (us : List SV) (ys : List (List Int)) (hx : a.eval x = .slice (some ⟨g, 0, none⟩) 1 1)
    (hcell : w.cell? ⟨g, 0, none⟩ = some (.slice dA dn dc)) (hys : SS w lo lo dA dn dc us ys)
    (hl1 : ∀ k, (Value.slice dA dn dc).ownBlock = some k → k < hi) (hl2 : ∀ t, t < dn → ∀ k, (sval (us.getD t sd0)).ownBlock = some k → k < hi)
    (hb : base ≤ lo) (hhi : lo ≤ hi ∧ hi ≤ w.heap.size) (hb2 : ∀ i, i < n → (rg.getD i (0, 0)).2 ≤ lo) (ho2 : ∀ k, (Value.slice A n c).ownBlock = some k → k < lo) (hr2 : ∀ i, i < n → (rg.getD i (0, 0)).2 ≤ w.heap.size) (hn : n ≤ 1000000000)
    (h : ∀ A' c' w', S3 w' base A' (n + 1) c' (vs ++ [(dA, dn, dc)]) (wss ++ [us]) (rg ++ [(lo, hi)]) (ls ++ [ys]) → w.grownBy w' (Value.slice A n c).ownBlock → wpList Try.prog ops Q rest (a.put o.dst (.slice A' (n + 1) c')) w') : wpList Try.prog ops Q (o :: rest) a w := by
  obtain ⟨i0, hi0, hz0, hz1, hz2⟩ := info_parts infoT
  refine wpList_append_own_at w hgd s x 33 ho base 22 i0 (.slice none 0 0) 1 24 Try.underlying33 hi0 hz0 hz1 hz2 rfl (by decide) _ n _ hs hss.own ⟨g, 0, none⟩ 1 1 [.slice dA dn dc] hx rfl ?_ ?_ ?_ (by omega) (by omega) ?_
  · intro j v hj
    match j, hj with
    | 0, hj => simp at hj; subst hj; simpa [Addr.add] using hcell
    | j + 1, hj => simp at hj
  · intro v hv; simp at hv; subst hv; rfl
  · unfold maxLen; omega
  · intro v' w' hown' hg _ hat
    have hform : ∃ A' c', v' = .slice A' (n + 1) c' := by
      rcases hown'.2 with ⟨rfl, h0⟩ | ⟨g', cap, cur, rfl, _⟩
      · omega
      · exact ⟨_, _, rfl⟩
    obtain ⟨A', c', rfl⟩ := hform
    -- the outer row's old block lies in no system
    have kO : ∀ i, i < n → (∀ k, (sval (vs.getD i sd0)).ownBlock = some k → some k ≠ (Value.slice A n c).ownBlock) ∧ ∀ t, t < (vs.getD i sd0).2.1 → ∀ k, (sval ((wss.getD i []).getD t sd0)).ownBlock = some k → some k ≠ (Value.slice A n c).ownBlock := fun i hi' => by
      have h1 := hss.rg_le hi'
      exact ⟨fun k e e2 => by have := h1.1 k e; have := hss.out k e2.symm i hi'; omega, fun t ht k e e2 => by have := h1.2 t ht k e; have := hss.out k e2.symm i hi'; omega⟩
    have keepS : ∀ {bo bi k cc : Nat} {P : Option Addr} {zs : List SV} {xss : List (List Int)}, SS w bo bi P k cc zs xss → (∀ b, (Value.slice P k cc).ownBlock = some b → some b ≠ (Value.slice A n c).ownBlock) → (∀ t, t < k → ∀ b, (sval (zs.getD t sd0)).ownBlock = some b → some b ≠ (Value.slice A n c).ownBlock) → SS w' bo bi P k cc zs xss := fun {bo bi k cc P zs xss} hS d1 d2 =>
      ⟨World.ownsRow.kept hS.own hg (by
        rcases e : (Value.slice P k cc).ownBlock with _ | b
        · exact .inl rfl
        · exact .inr (d1 b e)), hS.lv, hS.lx, fun t ht => (hS.row t ht).kept hg (by
        rcases e : (Value.slice (zs.getD t sd0).1 (zs.getD t sd0).2.1 (zs.getD t sd0).2.2).ownBlock with _ | b
        · exact .inl rfl
        · exact .inr (d2 t ht b e)), hS.dis⟩
    refine h A' c' w' ⟨?_, by simp [hss.lv], by simp [hss.lw], by simp [hss.lg], by simp [hss.lx], fun i hi' => ?_, fun i hi' => ?_, fun i hi' => ?_, fun i j hij hj => ?_, fun k hk i hi' => ?_⟩ hg
    · rw [List.map_append]; exact hown'
    · by_cases e : i < n
      · rw [getD_app vs _ _ _ (by rw [hss.lv]; exact e), getD_app ls _ _ _ (by rw [hss.lx]; exact e), getD_app wss _ _ _ (by rw [hss.lw]; exact e), getD_app rg _ _ _ (by rw [hss.lg]; exact e)]
        exact keepS (hss.row i e) (kO i e).1 (kO i e).2
      · obtain rfl : i = n := by omega
        rw [getD_snoc vs _ _ _ hss.lv.symm, getD_snoc ls _ _ _ hss.lx.symm, getD_snoc wss _ _ _ hss.lw.symm, getD_snoc rg _ _ _ hss.lg.symm]
        exact keepS hys (fun b e e2 => by have := (hys.lt_ b e).1; have := ho2 b e2.symm; omega) (fun t ht b e e2 => by have := ((hys.row t ht).lt_ b e).1; have := ho2 b e2.symm; omega)
    · by_cases e : i < n
      · rw [getD_app vs _ _ _ (by rw [hss.lv]; exact e), getD_app wss _ _ _ (by rw [hss.lw]; exact e), getD_app rg _ _ _ (by rw [hss.lg]; exact e)]
        exact hss.up i e
      · obtain rfl : i = n := by omega
        rw [getD_snoc vs _ _ _ hss.lv.symm, getD_snoc wss _ _ _ hss.lw.symm, getD_snoc rg _ _ _ hss.lg.symm]
        exact ⟨hl1, hl2⟩
    · by_cases e : i < n
      · rw [getD_app rg _ _ _ (by rw [hss.lg]; exact e)]; exact hss.lo i e
      · obtain rfl : i = n := by omega
        rw [getD_snoc rg _ _ _ hss.lg.symm]; exact hb
    · rw [getD_app rg _ _ i (by rw [hss.lg]; omega)]
      by_cases e : j < n
      · rw [getD_app rg _ _ j (by rw [hss.lg]; exact e)]; exact hss.ord i j hij e
      · obtain rfl : j = n := by omega
        rw [getD_snoc rg _ _ _ hss.lg.symm]
        exact hb2 i hij
    · rcases hat with e1 | e1
      · rw [e1] at hk
        by_cases e : i < n
        · rw [getD_app rg _ _ _ (by rw [hss.lg]; exact e)]; exact hss.out k hk i e
        · obtain rfl : i = n := by omega
          rw [getD_snoc rg _ _ _ hss.lg.symm]
          exact .inl (ho2 k hk)
      · rw [e1] at hk
        injection hk with hk
        subst hk
        by_cases e : i < n
        · rw [getD_app rg _ _ _ (by rw [hss.lg]; exact e)]; exact .inr (hr2 i e)
        · obtain rfl : i = n := by omega
          rw [getD_snoc rg _ _ _ hss.lg.symm]
          exact .inr hhi.2
end


set_option maxHeartbeats 800000 in
/-- eqInt64SS at two slices of slices that read the same. -/
theorem eqRR_sameQ (A B : Option Addr) (n c m d : Nat) (vs us : List SV) (xss : List (List Int)) (w : World) (hx : RR w w.heap.size A n vs xss) (hy : RR w w.heap.size B m us xss) (hn : n ≤ 1048576) (hlen : Hid (∀ i, i < n → (xss.getD i []).length ≤ 1048576)) :
    Calls Try.prog 17 #[.slice A n c, .slice B m d] w fun e w' => e = .returned (.bool true) ∧ ∃ m, w' = w.drewN m := by
  obtain rfl : n = m := by rw [← hx.lx, ← hy.lx]
  have HX := Lib.hid hx
  have HY := Lib.hid hy
  clear hx hy
  go_enter Try.func17, Try.ntmps17
  go_wp2
  go_loopw [5] (fun i wr => ∃ k : Nat, k ≤ n ∧ i = .int .i64 k ∧ ∃ m, wr = w.drewN m) (fun i _ => n - (intOf i).toNat)
  case atStart => exact ⟨0, Nat.zero_le _, rfl, 0, rfl⟩
  case round =>
    obtain ⟨k, hk, rfl, q, rfl⟩ := hrel
    by_cases hlt : k < n
    · obtain ⟨b, off, A5, l, c5, y, rfl, hb, ev, ey, c1, r1, hy1, hlc⟩ := HX.out.at_ hlt
      obtain ⟨b', off', A6, l', c6, y', rfl, hb', ev', ey', c2, r2, hy2, hlc'⟩ := HY.out.at_ hlt
      obtain rfl : y = y' := ey.symm.trans ey'
      have hl1 : l ≤ 1048576 := by rw [← hy1, ← ey]; exact hlen.out k hlt
      have hl2 : l' ≤ 1048576 := by rw [← hy2, ← ey]; exact hlen.out k hlt
      have R1 := Lib.hid r1
      have R2 := Lib.hid r2
      have Y1 : Hid (y.length = l) := Lib.hid hy1
      have Y2 : Hid (y.length = l') := Lib.hid hy2
      clear r1 r2 ev ey ev' ey' hy1 hy2
      have p1 : (0 : Int) ≤ k := by omega
      have p2 : (k : Int) < n := by omega
      have K : ∀ W : World, (∃ q, W = w.drewN q) → Calls Try.prog 51 #[.slice A5 l c5, .slice A6 l' c6] W fun e w' => e = .returned (.bool true) ∧ ∃ m, w' = W.drewN m := by
        rintro W ⟨q, rfl⟩
        exact (eqS_any A5 A6 c5 c6 l l' y y (w.drewN q) (R1.out.drewN q) (R2.out.drewN q) Y1 Y2 (by omega) (by omega)).mono fun e w' ⟨he, hb⟩ => ⟨he.trans (ret_bool (by simp)), hb⟩
      have HK := Lib.hid K
      clear K
      go_wp2
      go_quiet ((go_at_call 51; exact quiet_add (HK.out _ ⟨_, rfl⟩)))
      go_wp2
      go_roundw
      case rel => exact ⟨k + 1, by omega, by go_num, _, rfl⟩
      case measure => simp [intOf]; omega
    · go_wp2
      go_ret
      exact ⟨rfl, _, rfl⟩
set_option maxHeartbeats 800000 in
/-- eqInt64SSS at two that read the same. -/
theorem eqR3_same (A B : Option Addr) (n c m d : Nat) (vs us : List SV) (wss zss : List (List SV)) (ls : List (List (List Int))) (w : World) (hx : R3 w w.heap.size A n vs wss ls) (hy : R3 w w.heap.size B m us zss ls) (hn : n ≤ 1048576) (hlen : Hid (∀ i, i < n → (ls.getD i []).length ≤ 1048576 ∧ ∀ t, t < (ls.getD i []).length → ((ls.getD i []).getD t []).length ≤ 1048576)) :
    Calls Try.prog 30 #[.slice A n c, .slice B m d] w fun e w' => e = .returned (.bool true) ∧ Below w.heap.size w w' := by
  obtain rfl : n = m := by rw [← hx.lx, ← hy.lx]
  have HX := Lib.hid hx
  have HY := Lib.hid hy
  clear hx hy
  go_enter Try.func30, Try.ntmps30
  go_wp2
  go_loopw [5] (fun i wr => ∃ k : Nat, k ≤ n ∧ i = .int .i64 k ∧ Below w.heap.size w wr) (fun i _ => n - (intOf i).toNat)
  case atStart => exact ⟨0, Nat.zero_le _, rfl, Below.refl _ _⟩
  case round =>
    obtain ⟨k, hk, rfl, bel⟩ := hrel
    have Be := Lib.hid bel
    clear bel
    by_cases hlt : k < n
    · obtain ⟨b, off, A5, l, c5, u1, y, rfl, hb, ev, ey, c1, r1⟩ := (HX.out.up Be.out).at_ hlt
      obtain ⟨b', off', A6, l', c6, u2, y', rfl, hb', ev', ey', c2, r2⟩ := (HY.out.up Be.out).at_ hlt
      obtain rfl : y = y' := ey.symm.trans ey'
      have hl1 := hlen.out k hlt
      rw [ey, r1.lx] at hl1
      have R1 := Lib.hid r1
      have R2 := Lib.hid r2
      have Hl : Hid (∀ i, i < l → (y.getD i []).length ≤ 1048576) := Lib.hid hl1.2
      have hl2 := hl1.1
      clear r1 r2 ev ey ev' ey' hl1
      have p1 : (0 : Int) ≤ k := by omega
      have p2 : (k : Int) < n := by omega
      have HK : Hid (∀ q, Calls Try.prog 17 #[.slice A5 l c5, .slice A6 l' c6] (wr.drewN q) fun e w' => e = .returned (.bool true) ∧ ∃ m, w' = (wr.drewN q).drewN m) := Lib.hid fun q => eqRR_sameQ A5 A6 l c5 l' c6 u1 u2 y (wr.drewN q) (R1.out.drewN q) (R2.out.drewN q) (by omega) Hl
      go_wp2
      go_quiet ((go_at_call 17; exact Calls.quiet_of (HK.out _)))
      have Be3 : Hid (∀ q, Below w.heap.size w (wr.drewN q)) := Lib.hid fun q => below_drewN Be.out q
      go_wp2
      go_roundw
      case rel => exact ⟨k + 1, by omega, by go_num, Be3.out _⟩
      case measure => simp [intOf]; omega
    · go_wp2
      go_ret
      exact ⟨rfl, Be.out⟩
end Go.Proofs.Ytedfcljikgmpgaa

/- slices.Equal of what can be read. Conditions: at most 2097152 numbers. -/
namespace Go.Proofs.Ytedfcljikgmpgaa
open Go.RowKit

set_option maxHeartbeats 400000 in
/-- slices.Equal of two lists that can be read. -/
theorem sEq_core (A B : Option Addr) (c d n : Nat) (xs ys : List Int) (w : World) (hx : RI w w.heap.size A xs) (hy : RI w w.heap.size B ys) (lx : Hid (xs.length = n)) (ly : Hid (ys.length = n)) (hn : n ≤ 2097152) :
    Calls Try.prog 74 #[.slice A n c, .slice B n d] w fun e w' => e = .returned (.bool (decide (xs = ys))) ∧ ∃ m, w' = w.drewN m := by
  go_enter Try.func74, Try.ntmps74
  go_wp2
  go_loopw [5, 13] (fun _ i wr => ∃ k : Nat, k ≤ n ∧ i = .int .i64 k ∧ (∀ j, j < k → xs.getD j 0 = ys.getD j 0) ∧ ∃ m, wr = w.drewN m) (fun _ i _ => n - (intOf i).toNat)
  case atStart => exact ⟨0, Nat.zero_le _, rfl, fun j h => absurd h (by omega), 0, rfl⟩
  case round =>
    obtain ⟨k, hk, rfl, heq, m, rfl⟩ := hrel
    have Heq := Lib.hid heq
    clear heq
    by_cases hlt : k < n
    · obtain ⟨b, off, rfl, hb, hc⟩ := hx (by rw [lx.out]; omega)
      obtain ⟨b', off', rfl, hb', hc'⟩ := hy (by rw [ly.out]; omega)
      have c1 := hc k (by rw [lx.out]; omega)
      have c2 := hc' k (by rw [ly.out]; omega)
      obtain ⟨x, ex⟩ : ∃ x, xs.getD k 0 = x := ⟨_, rfl⟩
      obtain ⟨y, ey⟩ : ∃ y, ys.getD k 0 = y := ⟨_, rfl⟩
      rw [ex] at c1
      rw [ey] at c2
      have Ex := Lib.hid ex
      have Ey := Lib.hid ey
      clear ex ey hc hc' hx hy
      have p1 : (0 : Int) ≤ k := by omega
      have p2 : (k : Int) < n := by omega
      by_cases hxy : x = y
      · subst hxy
        go_wp2
        go_quiet (fail)
        go_wp2
        go_roundw
        case rel => exact ⟨k + 1, by omega, by go_num, fun j hj => by
          by_cases e : j = k
          · subst e; rw [Ex.out, Ey.out]
          · exact Heq.out j (by omega), _, rfl⟩
        case measure => simp [intOf]; omega
      · have hd : (x != y) = true := by simpa using hxy
        have hd' : (x == y) = false := by simpa using hxy
        go_wp2
        go_quiet (fail)
        go_wp2
        go_ret
        refine ⟨ret_bool (Eq.symm (decide_eq_false fun e => hxy ?_)), _, World.drewN_drewN _ _ _⟩
        rw [← Ex.out, ← Ey.out, e]
    · go_wp2
      go_ret
      have : k = n := by omega
      subst this
      exact ⟨ret_bool (Eq.symm (decide_eq_true (ext_getD lx.out ly.out Heq.out))), _, rfl⟩
theorem sEq (A B : Option Addr) (c d n m : Nat) (xs ys : List Int) (w : World) (hx : RI w w.heap.size A xs) (hy : RI w w.heap.size B ys) (lx : Hid (xs.length = n)) (ly : Hid (ys.length = m)) (hn : n ≤ 2097152) (hm : m ≤ 2097152) :
    Calls Try.prog 74 #[.slice A n c, .slice B m d] w fun e w' => e = .returned (.bool (decide (xs = ys))) ∧ ∃ m, w' = w.drewN m := by
  by_cases hl : n = m
  · subst hl
    exact sEq_core A B c d n xs ys w hx hy lx ly hn
  · have hd : ((n : Int) != (m : Int)) = true := by rw [bne_iff_ne]; omega
    have hd' : ((n : Int) == (m : Int)) = false := by rw [beq_eq_false_iff_ne]; omega
    go_enter Try.func74, Try.ntmps74
    go_wp2
    go_ret
    refine ⟨ret_bool (Eq.symm (decide_eq_false fun e => hl ?_)), 0, rfl⟩
    rw [← lx.out, ← ly.out, e]

end Go.Proofs.Ytedfcljikgmpgaa

/- The program's MinimalBlockSystems and IsPrimitive. Conditions: at most 1048576 lists of at most 1048576 numbers. -/
namespace Go.Proofs.Ytedfcljikgmpgaa
open Go.RowKit

set_option maxHeartbeats 1600000 in
set_option maxRecDepth 100000 in
/-- slices.EqualFunc by slices.Equal. -/
theorem eqFuncT (A B : Option Addr) (n c m d : Nat) (vs us : List SV) (xss yss : List (List Int)) (w : World) (hx : RR w w.heap.size A n vs xss) (hy : RR w w.heap.size B m us yss) (hn : n ≤ 1000) (hm : m ≤ 1000) (hl1 : Hid (∀ i, i < n → (xss.getD i []).length ≤ 1000)) (hl2 : Hid (∀ i, i < m → (yss.getD i []).length ≤ 1000)) :
    Calls Try.prog 73 #[.slice A n c, .slice B m d, .func (.func 74) #[] #[]] w fun e w' => e = .returned (.bool (decide (xss = yss))) ∧ Below w.heap.size w w' := by
  have HX := Lib.hid hx
  have HY := Lib.hid hy
  clear hx hy
  by_cases hnm : n = m
  · subst hnm
    have e0 : ((n : Int) != (n : Int)) = false := by simp
    go_enter Try.func73, Try.ntmps73
    go_wp2_with fail
    go_loopw [17] (fun i wr => ∃ k : Nat, k ≤ n ∧ i = .int .i64 (k : Nat) ∧ (∀ j, j < k → xss.getD j [] = yss.getD j []) ∧ Below w.heap.size w wr) (fun i _ => n - (intOf i).toNat)
    case atStart => exact ⟨0, Nat.zero_le _, rfl, fun j h => absurd h (Nat.not_lt_zero _), Below.refl _ _⟩
    case round =>
      obtain ⟨k, hk, rfl, hall, bel⟩ := hrel
      have All := Lib.hid hall
      have Be := Lib.hid bel
      clear hall bel
      by_cases hlt : k < n
      · obtain ⟨b, off, A5, l, c5, y, rfl, hb, ev, ey, x1, r1, ly1, hlc⟩ := (HX.out.up Be.out).at_ hlt
        obtain ⟨b', off', A6, l', c6, y', rfl, hb', ev', ey', x2, r2, ly2, hlc'⟩ := (HY.out.up Be.out).at_ hlt
        have h1 := hl1.out k hlt
        have h2 := hl2.out k hlt
        rw [ey, ly1] at h1
        rw [ey', ly2] at h2
        have R1 := Lib.hid r1
        have R2 := Lib.hid r2
        have L1 : Hid (y.length = l) := Lib.hid ly1
        have L2 : Hid (y'.length = l') := Lib.hid ly2
        have Ey := Lib.hid ey
        have Ey' := Lib.hid ey'
        have p1 : (0 : Int) ≤ k := by omega
        have p2 : (k : Int) < n := by omega
        clear r1 r2 ly1 ly2 ev ey ev' ey' hb hb'
        by_cases e : y = y'
        · have ans : Hid (decide (y = y') = true) := Lib.hid (by simpa using e)
          have All2 : Hid (∀ j, j < k + 1 → xss.getD j [] = yss.getD j []) := Lib.hid fun j hj => by
            by_cases e2 : j = k
            · subst e2; rw [Ey.out, Ey'.out, e]
            · exact All.out j (by omega)
          clear e
          go_wp2_with fail
          refine (quiet_below (sEq A5 A6 c5 c6 l l' y y' wr R1.out R2.out L1 L2 (by omega) (by omega))).mono ?_
          rintro e w1 ⟨rfl, b1⟩
          rw [ans.out]
          have B1 : Hid (Below w.heap.size w w1) := Lib.hid (btr Be.out b1)
          clear b1
          go_wp2_with fail
          go_roundw
          case rel => exact ⟨k + 1, by omega, by go_num, All2.out, B1.out⟩
          case measure => simp [intOf]; omega
        · have ans : Hid (decide (y = y') = false) := Lib.hid (by simpa using e)
          have Fin : Hid (false = decide (xss = yss)) := Lib.hid (Eq.symm (decide_eq_false fun e2 => e (by rw [← Ey.out, ← Ey'.out, e2])))
          clear e
          go_wp2_with fail
          refine (quiet_below (sEq A5 A6 c5 c6 l l' y y' wr R1.out R2.out L1 L2 (by omega) (by omega))).mono ?_
          rintro e w1 ⟨rfl, b1⟩
          rw [ans.out]
          have B1 : Hid (Below w.heap.size w w1) := Lib.hid (btr Be.out b1)
          clear b1
          go_wp2_with fail
          go_ret
          exact ⟨ret_bool Fin.out, B1.out⟩
      · obtain rfl : k = n := by omega
        have Fin : Hid (true = decide (xss = yss)) := Lib.hid (Eq.symm (decide_eq_true (by
          apply List.ext_getElem (by rw [HX.out.lx, HY.out.lx])
          intro i h1 h2
          have := All.out i (by rw [← HX.out.lx]; exact h1)
          rw [getD_L h1, getD_L h2] at this
          exact this)))
        go_wp2_with fail
        go_ret
        exact ⟨ret_bool Fin.out, Be.out⟩
  · have e0 : ((n : Int) != (m : Int)) = true := by rw [bne_iff_ne]; omega
    have e1 : ((n : Int) == (m : Int)) = false := by rw [beq_eq_false_iff_ne]; omega
    have Fin : Hid (false = decide (xss = yss)) := Lib.hid (Eq.symm (decide_eq_false fun e2 => hnm (by rw [← HX.out.lx, ← HY.out.lx, e2])))
    go_enter Try.func73, Try.ntmps73
    go_wp2_with fail
    go_ret
    exact ⟨ret_bool Fin.out, Below.refl _ _⟩

set_option maxHeartbeats 1000000 in
/-- The function literal of MinimalBlockSystems. -/
theorem isSameT (bx : Nat) (A B : Option Addr) (n c m d : Nat) (vs us : List SV) (xss yss : List (List Int)) (w : World) (hb : Blk w bx 22 #[.slice B m d]) (hx : RR w w.heap.size A n vs xss) (hy : RR w w.heap.size B m us yss) (hn : n ≤ 1000) (hm : m ≤ 1000) (hl1 : Hid (∀ i, i < n → (xss.getD i []).length ≤ 1000)) (hl2 : Hid (∀ i, i < m → (yss.getD i []).length ≤ 1000)) (ans : Bool) (ha : Hid (decide (xss = yss) = ans)) :
    Calls Try.prog 72 #[.slice A n c, .pointer (some ⟨bx, 0, none⟩)] w fun e w' => e = .returned (.bool ans) ∧ Below w.heap.size w w' := by
  have HX := Lib.hid hx
  have HY := Lib.hid hy
  have c0 : w.cell? ⟨bx, 0, none⟩ = some (.slice B m d) := hb.cell 0
  clear hx hy hb
  go_enter Try.func72, Try.ntmps72
  go_wp2_with (first
    | (go_at_call 73; refine (eqFuncT A B n c m d vs us xss yss w HX.out HY.out hn hm hl1 hl2).mono ?_; rintro e w1 ⟨rfl, b1⟩; rw [ha.out]; have B1 := Lib.hid b1; clear b1))
  go_ret
  exact ⟨rfl, B1.out⟩

set_option maxHeartbeats 1600000 in
set_option maxRecDepth 100000 in
/-- slices.IndexFunc at that literal. -/
theorem idxSys (bx : Nat) (A B : Option Addr) (n c m d : Nat) (vs us : List SV) (wss : List (List SV)) (ls : List (List (List Int))) (yss : List (List Int)) (w : World) (hb : Blk w bx 22 #[.slice B m d]) (hx : R3 w w.heap.size A n vs wss ls) (hy : RR w w.heap.size B m us yss) (hn : n ≤ 1000) (hm : m ≤ 1000)
    (hl1 : Hid (∀ i, i < n → (ls.getD i []).length ≤ 1000 ∧ ∀ t, t < (ls.getD i []).length → ((ls.getD i []).getD t []).length ≤ 1000)) (hl2 : Hid (∀ i, i < m → (yss.getD i []).length ≤ 1000)) (ans : Bool) (ha : Hid (decide (yss ∈ ls) = ans)) :
    Calls Try.prog 100 #[.slice A n c, .func (.func 72) #[] #[.pointer (some ⟨bx, 0, none⟩)]] w fun e w' => ∃ r : Int, e = .returned (.int .i64 r) ∧ Hid (decide (0 ≤ r) = ans) ∧ Below w.heap.size w w' := by
  have HX := Lib.hid hx
  have HY := Lib.hid hy
  have HB := Lib.hid hb
  clear hx hy hb
  go_enter Try.func100, Try.ntmps100
  go_wp2_with fail
  go_loopw [8] (fun i wr => ∃ k : Nat, k ≤ n ∧ i = .int .i64 (k : Nat) ∧ (∀ j, j < k → ls.getD j [] ≠ yss) ∧ Below w.heap.size w wr) (fun i _ => n - (intOf i).toNat)
  case atStart => exact ⟨0, Nat.zero_le _, rfl, fun j h => absurd h (Nat.not_lt_zero _), Below.refl _ _⟩
  case round =>
    obtain ⟨k, hk, rfl, hall, bel⟩ := hrel
    have All := Lib.hid hall
    have Be := Lib.hid bel
    clear hall bel
    by_cases hlt : k < n
    · obtain ⟨b, off, A5, l, c5, u5, y, rfl, hb, ev, ey, x1, r1⟩ := (HX.out.up Be.out).at_ hlt
      have h1 := hl1.out k hlt
      rw [ey, r1.lx] at h1
      have hl5 := h1.1
      have Hl : Hid (∀ i, i < l → (y.getD i []).length ≤ 1000) := Lib.hid h1.2
      have R1 := Lib.hid r1
      have Ey := Lib.hid ey
      have Bk := Lib.hid (HB.out.below Be.out HB.out.lt)
      have p1 : (0 : Int) ≤ k := by omega
      have p2 : (k : Int) < n := by omega
      clear r1 ev ey hb h1
      by_cases e : y = yss
      · have Fin : Hid (decide (0 ≤ (k : Int)) = ans) := Lib.hid (by
          rw [← ha.out, decide_eq_true (by omega : 0 ≤ (k : Int))]
          refine Eq.symm (decide_eq_true ?_)
          rw [← e, ← Ey.out, List.getD_eq_getElem?_getD, List.getElem?_eq_getElem (by rw [HX.out.lx]; exact hlt)]
          exact List.getElem_mem _)
        have d0 : Hid (decide (y = yss) = true) := Lib.hid (by simpa using e)
        clear e
        go_wp2_with fail
        refine (isSameT bx A5 B l c5 m d u5 us y yss wr Bk.out R1.out (HY.out.up Be.out) hl5 hm Hl hl2 true d0).mono ?_
        rintro e w1 ⟨rfl, b1⟩
        have B1 : Hid (Below w.heap.size w w1) := Lib.hid (btr Be.out b1)
        clear b1
        go_wp2_with fail
        go_ret
        exact ⟨_, rfl, Fin, B1.out⟩
      · have d0 : Hid (decide (y = yss) = false) := Lib.hid (by simpa using e)
        have All2 : Hid (∀ j, j < k + 1 → ls.getD j [] ≠ yss) := Lib.hid fun j hj => by
          by_cases e2 : j = k
          · subst e2; rw [Ey.out]; exact e
          · exact All.out j (by omega)
        clear e
        go_wp2_with fail
        refine (isSameT bx A5 B l c5 m d u5 us y yss wr Bk.out R1.out (HY.out.up Be.out) hl5 hm Hl hl2 false d0).mono ?_
        rintro e w1 ⟨rfl, b1⟩
        have B1 : Hid (Below w.heap.size w w1) := Lib.hid (btr Be.out b1)
        clear b1
        go_wp2_with fail
        go_roundw
        case rel => exact ⟨k + 1, by omega, by go_num, All2.out, B1.out⟩
        case measure => simp [intOf]; omega
    · obtain rfl : k = n := by omega
      have Fin : Hid (decide (0 ≤ (-1 : Int)) = ans) := Lib.hid (by
        rw [← ha.out]
        refine Eq.trans (by decide) (Eq.symm (decide_eq_false fun hm => ?_))
        obtain ⟨i, hi, e⟩ := List.mem_iff_getElem.1 hm
        refine All.out i (by rw [← HX.out.lx]; exact hi) ?_
        rw [List.getD_eq_getElem?_getD, List.getElem?_eq_getElem hi, ← e]; rfl)
      go_wp2_with fail
      go_ret
      exact ⟨_, rfl, Fin, Be.out⟩

set_option maxHeartbeats 1000000 in
/-- slices.ContainsFunc at that literal. -/
theorem hasSys (bx : Nat) (A B : Option Addr) (n c m d : Nat) (vs us : List SV) (wss : List (List SV)) (ls : List (List (List Int))) (yss : List (List Int)) (w : World) (hb : Blk w bx 22 #[.slice B m d]) (hx : R3 w w.heap.size A n vs wss ls) (hy : RR w w.heap.size B m us yss) (hn : n ≤ 1000) (hm : m ≤ 1000)
    (hl1 : Hid (∀ i, i < n → (ls.getD i []).length ≤ 1000 ∧ ∀ t, t < (ls.getD i []).length → ((ls.getD i []).getD t []).length ≤ 1000)) (hl2 : Hid (∀ i, i < m → (yss.getD i []).length ≤ 1000)) (ans : Bool) (ha : Hid (decide (yss ∈ ls) = ans)) :
    Calls Try.prog 75 #[.slice A n c, .func (.func 72) #[] #[.pointer (some ⟨bx, 0, none⟩)]] w fun e w' => e = .returned (.bool ans) ∧ Below w.heap.size w w' := by
  have HX := Lib.hid hx
  have HY := Lib.hid hy
  have HB := Lib.hid hb
  clear hx hy hb
  go_enter Try.func75, Try.ntmps75
  go_wp2_with (go_at_call 100; fail)
  refine (idxSys bx A B n c m d vs us wss ls yss w HB.out HX.out HY.out hn hm hl1 hl2 ans ha).mono ?_
  rintro e w1 ⟨r, rfl, hr, b1⟩
  have B1 := Lib.hid b1
  have d0 := hr.out
  clear b1
  go_wp2_with fail
  go_ret
  exact ⟨rfl, B1.out⟩

set_option maxHeartbeats 4000000 in
set_option maxRecDepth 100000 in
/-- MinimalBlockSystems. -/
theorem implMsy (a : Int) (A : Option Addr) (n c : Nat) (vs : List SV) (xss : List (List Int)) (w : World) (g : GIn w A n vs xss) :
    Calls Try.prog 29 #[.int .i64 a, .slice A n c] w fun e w' => ∃ A' m' c' us wss rg ls, e = .returned (.slice A' m' c') ∧ S3 w' w.heap.size A' m' c' us wss rg ls ∧ (∀ i, i < m' → (rg.getD i (0, 0)).2 ≤ w'.heap.size) ∧ IsMsy a xss ls ∧ Below w.heap.size w w' := by
  have hmf : ∀ (fn : Fn) (first cap : Array Value) (w : World), (Instr.makeFunc fn first cap).run Try.prog w = .ok (.func fn first cap) w := fun _ _ _ _ => rfl
  have G := Lib.hid g
  have HX := Lib.hid g.rr
  have hn := g.hn
  have hl := Lib.hid g.hl
  clear g
  go_enter Try.func29, Try.ntmps29
  go_wp2_with fail
  refine (implGS a A n c vs xss w HX.out hn hl).mono ?_
  rintro e w1 ⟨rfl, b1⟩
  have B1 := Lib.hid b1
  clear b1
  rcases hs : gB a xss with _ | _
  · have Fin : Hid (IsMsy a xss []) := Lib.hid (.inr ⟨hs, rfl⟩)
    clear hs
    go_wp2_with fail
    go_ret
    exact ⟨_, _, _, _, _, _, _, rfl, S3.nil_, fun i h => absurd h (Nat.not_lt_zero _), Fin.out, B1.out⟩
  · obtain ⟨N, rfl, hN1, hN2, _, _, _⟩ := gB_pm hs
    have Hs := Lib.hid hs
    obtain ⟨f, ef⟩ : ∃ f, mnS xss N = f := ⟨_, rfl⟩
    have Ef := Lib.hid ef
    have S0 : Hid (S3 w1 w1.heap.size none 0 0 [] [] [] (sysL f 1)) := Lib.hid (by rw [sysL_start]; exact S3.nil_)
    clear hs ef
    go_wp2_with fail
    go_loopw [5, 6] (fun v yv wr => ∃ (y k c' : Nat) (A' : Option Addr) (us : List SV) (wss : List (List SV)) (rg : List (Nat × Nat)), 1 ≤ y ∧ y ≤ N ∧ k ≤ 20 ∧ yv = .int .i64 (y : Nat) ∧ v = .slice A' k c' ∧ S3 wr w1.heap.size A' k c' us wss rg (sysL f y) ∧ (∀ i, i < k → (rg.getD i (0, 0)).2 ≤ wr.heap.size) ∧ (∀ z, 1 ≤ z → z < y → ∃ r, LstM xss N 0 z r) ∧ Below w1.heap.size w1 wr) (fun _ yv _ => N - (intOf yv).toNat)
    case atStart => exact ⟨1, 0, 0, none, [], [], [], Nat.le_refl _, hN1, by omega, rfl, rfl, S0.out, fun i h => absurd h (Nat.not_lt_zero _), fun z a b => absurd b (by omega), Below.refl _ _⟩
    case round =>
      clear S0
      obtain ⟨y, k, c', A', us, wss, rg, hy1, hyN, hk20, rfl, rfl, h3, hrg, hex, bel⟩ := hrel
      have H3 := Lib.hid h3
      have Hrg := Lib.hid hrg
      have Hex := Lib.hid hex
      have Be := Lib.hid bel
      have hzr := bel.size
      clear h3 hrg hex bel
      by_cases hlt : y < N
      · have Bw : Hid (Below w.heap.size w wr) := Lib.hid (btr B1.out Be.out)
        go_wp2_with fail
        have K0 := implMinP N n c 0 y A vs xss wr (G.out.up Bw.out) Hs (by omega) hlt
        refine Calls.mono (show Calls Try.prog 23 #[.int .i64 (N : Nat), .slice A n c, .int .i64 0, .int .i64 (y : Nat)] wr _ from K0) ?_
        clear K0
        rintro e w2 ⟨A2, m2, c2, u2, r, rfl, hr, s2, b2⟩
        have efy : canon N r = f y := by rw [← Ef.out]; exact mnS_eq hr
        rw [efy] at s2
        have Hex2 : Hid (∀ z, 1 ≤ z → z < y + 1 → ∃ r, LstM xss N 0 z r) := Lib.hid fun z a b => by
          by_cases e : z = y
          · subst e; exact ⟨r, hr⟩
          · exact Hex.out z a (by omega)
        have hfl : (f y).length ≤ 20 ∧ ∀ p ∈ f y, p.length ≤ 20 := by rw [← efy]; exact prt_bound (canon_prt _ _) hN2
        have hm2 : m2 ≤ 20 := by rw [← s2.lx]; exact hfl.1
        have Lf : Hid ((f y).length = m2) := Lib.hid s2.lx
        have Hl2 : Hid (∀ i, i < m2 → ((f y).getD i []).length ≤ 1000) := Lib.hid fun i hi => by
          have := hfl.2 _ (getD_memL (show i < (f y).length by rw [s2.lx]; exact hi)); omega
        have hsl : ∀ p ∈ sysL f y, p.length ≤ 20 ∧ ∀ z ∈ p, z.length ≤ 20 := fun p hp => by
          obtain ⟨z, _, _, rfl, _⟩ := sysL_mem _ hp
          rw [← Ef.out]; exact prt_bound (canon_prt _ _) hN2
        have Hl1 : Hid (∀ i, i < k → ((sysL f y).getD i []).length ≤ 1000 ∧ ∀ t, t < ((sysL f y).getD i []).length → (((sysL f y).getD i []).getD t []).length ≤ 1000) := Lib.hid fun i hi => by
          have hm : (sysL f y).getD i [] ∈ sysL f y := by
            rw [List.getD_eq_getElem?_getD, List.getElem?_eq_getElem (by rw [H3.out.lx]; exact hi)]; exact List.getElem_mem _
          have h1 := hsl _ hm
          exact ⟨by omega, fun t ht => by have := h1.2 _ (getD_memL ht); omega⟩
        have S2 := Lib.hid s2
        have B2 := Lib.hid b2
        have hz2 := b2.size
        have U2 : Hid ((∀ k, (Value.slice A2 m2 c2).ownBlock = some k → k < w2.heap.size) ∧ ∀ t, t < m2 → ∀ k, (sval (u2.getD t sd0)).ownBlock = some k → k < w2.heap.size) := Lib.hid ⟨fun k e => (s2.lt_ k e).2, fun t ht k e => ((s2.row t ht).lt_ k e).2⟩
        have Bk3 : Hid (Blk (w2.alloc (.cells #[.slice A2 m2 c2] 22)) w2.heap.size 22 #[.slice A2 m2 c2]) := Lib.hid (Blk.new w2 _ _)
        have B3 : Hid (Below wr.heap.size wr (w2.alloc (.cells #[.slice A2 m2 c2] 22))) := Lib.hid (b2.alloc hz2 _)
        have S3' : Hid (SS (w2.alloc (.cells #[.slice A2 m2 c2] 22)) wr.heap.size wr.heap.size A2 m2 c2 u2 (f y)) := Lib.hid (s2.alloc _)
        clear s2 b2 hr efy hfl hsl
        by_cases h1m : m2 ≤ 1
        · have Nx : Hid (sysL f (y + 1) = sysL f y) := Lib.hid (sysL_one (by rw [Lf.out]; exact h1m))
          have d0 : decide ((1 : Int) < m2) = false := by simp; omega
          have H5 := Lib.hid (H3.out.upB B3.out)
          have B5 : Hid (Below w1.heap.size w1 (w2.alloc (.cells #[.slice A2 m2 c2] 22))) := Lib.hid (btr Be.out B3.out)
          have Hrg5 : Hid (∀ i, i < k → (rg.getD i (0, 0)).2 ≤ (w2.alloc (.cells #[.slice A2 m2 c2] 22)).heap.size) := Lib.hid fun i hi => Nat.le_trans (Hrg.out i hi) (Nat.le_trans hz2 (by simp))
          have cc : (w2.alloc (.cells #[.slice A2 m2 c2] 22)).cell? ⟨w2.heap.size, 0, none⟩ = some (.slice A2 m2 c2) := Bk3.out.cell 0
          clear h1m
          go_wp2_with fail
          go_roundw
          case rel => exact ⟨y + 1, k, c', A', us, wss, rg, by omega, by omega, hk20, by go_num, rfl, by rw [Nx.out]; exact H5.out, Hrg5.out, Hex2.out, B5.out⟩
          case measure => simp [intOf]; omega
        · have d0 : decide ((1 : Int) < m2) = true := by simp; omega
          have h1f : 1 < (f y).length := by rw [Lf.out]; omega
          have cc : (w2.alloc (.cells #[.slice A2 m2 c2] 22)).cell? ⟨w2.heap.size, 0, none⟩ = some (.slice A2 m2 c2) := Bk3.out.cell 0
          have H5 := Lib.hid (H3.out.upB B3.out)
          obtain ⟨ans, eans⟩ : ∃ ans, decide (f y ∈ sysL f y) = ans := ⟨_, rfl⟩
          have Ea := Lib.hid eans
          clear eans
          go_wp2_with (go_at_call 75; fail)
          have hz3 : w2.heap.size + 1 = (w2.alloc (.cells #[.slice A2 m2 c2] 22)).heap.size := by simp
          obtain ⟨W3, hW3⟩ : ∃ W3, w2.alloc (.cells #[.slice A2 m2 c2] 22) = W3 := ⟨_, rfl⟩
          rw [hW3] at B3 S3' H5 Bk3 hz3 ⊢
          obtain ⟨bx, hbx⟩ : ∃ bx, w2.heap.size = bx := ⟨_, rfl⟩
          have hlob : wr.heap.size ≤ bx := by rw [← hbx]; exact hz2
          rw [hbx] at Bk3 U2 hz3 ⊢
          refine (hasSys bx A' A2 k c' m2 c2 us u2 wss (sysL f y) (f y) W3 Bk3.out H5.out.rr S3'.out.rr (by omega) (by omega) Hl1 Hl2 ans Ea).mono ?_
          rintro e w4 ⟨rfl, b4⟩
          have B4 : Hid (Below wr.heap.size wr w4) := Lib.hid (btr B3.out b4)
          have Bk4 := Lib.hid (Bk3.out.below b4 Bk3.out.lt)
          have c4 : w4.cell? ⟨bx, 0, none⟩ = some (.slice A2 m2 c2) := Bk4.out.cell 0
          have H6 := Lib.hid (H3.out.upB B4.out)
          have S6 : Hid (SS w4 wr.heap.size wr.heap.size A2 m2 c2 u2 (f y)) := Lib.hid (S3'.out.up b4)
          have B4w : Hid (Below w1.heap.size w1 w4) := Lib.hid (btr Be.out B4.out)
          have hz4 := b4.size
          clear b4 cc Bk3 B3 S3' H5 hW3 hbx h1m
          rcases ans with _ | _
          · have Nx : Hid (sysL f (y + 1) = sysL f y ++ [f y]) := Lib.hid (sysL_yes hy1 h1f (of_decide_eq_false Ea.out))
            have hOut : Hid (∀ q, (Value.slice A' k c').ownBlock = some q → q < wr.heap.size) := Lib.hid fun q hq => (H3.out.lt_ q hq).2
            have hRg : Hid (∀ i, i < k → (rg.getD i (0, 0)).2 ≤ wr.heap.size) := Hrg
            have hk19 : k + 1 ≤ 20 := by
              have h5 := sysL_len (f := f) (y + 1)
              rw [Nx.out, List.length_append, H3.out.lx] at h5
              simp at h5
              omega
            go_wp2_with (first | (at_builtin; go_must (refine wpList_app3_ rfl _ _ rfl rfl (H6.out.alloc _) w4.heap.size A2 m2 c2 wr.heap.size bx u2 (f y) rfl (by rw [World.cell?_alloc_at _ _ _ _ rfl]; rfl) (S6.out.alloc _) U2.out.1 U2.out.2 hzr ⟨hlob, by simp; omega⟩ hRg.out hOut.out (fun i hi => Nat.le_trans (hRg.out i hi) (by simp; omega)) (by omega) ?_); intro A9 c9 w9 s9 g9) | go_in)
            have H9 : Hid (S3 w9 w1.heap.size A9 (k + 1) c9 (us ++ [(A2, m2, c2)]) (wss ++ [u2]) (rg ++ [(wr.heap.size, bx)]) (sysL f (y + 1))) := Lib.hid (by rw [Nx.out]; exact s9)
            have B9 : Hid (Below w1.heap.size w1 w9) := Lib.hid ((B4w.out.alloc (by omega) _).grown g9 (by simp; omega) (fun q hq => (H6.out.lt_ q hq).1))
            have hz9 : w4.heap.size ≤ w9.heap.size := by have := g9.size; simp at this; omega
            have Hrg9 : Hid (∀ i, i < k + 1 → ((rg ++ [(wr.heap.size, bx)]).getD i (0, 0)).2 ≤ w9.heap.size) := Lib.hid fun i hi => by
              by_cases e : i < k
              · rw [getD_app rg _ _ _ (by rw [H3.out.lg]; exact e)]; exact Nat.le_trans (hRg.out i e) (by omega)
              · obtain rfl : i = k := by omega
                rw [getD_snoc rg _ _ _ H3.out.lg.symm]; show bx ≤ _; omega
            clear s9 g9
            go_wp2_with fail
            go_roundw
            case rel => exact ⟨y + 1, k + 1, c9, A9, _, _, _, by omega, by omega, hk19, by go_num, rfl, H9.out, Hrg9.out, Hex2.out, B9.out⟩
            case measure => simp [intOf]; omega
          · have Nx : Hid (sysL f (y + 1) = sysL f y) := Lib.hid (sysL_old (of_decide_eq_true Ea.out))
            have Hrg5 : Hid (∀ i, i < k → (rg.getD i (0, 0)).2 ≤ w4.heap.size) := Lib.hid fun i hi => Nat.le_trans (Hrg.out i hi) (by omega)
            go_wp2_with fail
            go_roundw
            case rel => exact ⟨y + 1, k, c', A', us, wss, rg, by omega, by omega, hk20, by go_num, rfl, by rw [Nx.out]; exact H6.out, Hrg5.out, Hex2.out, B4w.out⟩
            case measure => simp [intOf]; omega
      · obtain rfl : y = N := by omega
        have Fin : Hid (IsMsy y xss (sysL f y)) := Lib.hid (.inl ⟨Hs.out, fun z a b => Hex.out z a (by rwa [Int.toNat_natCast] at b), by rw [Int.toNat_natCast, Ef.out]⟩)
        have Bw : Hid (Below w.heap.size w wr) := Lib.hid (btr B1.out Be.out)
        have H5 := Lib.hid (H3.out.mono B1.out.size)
        go_wp2_with fail
        go_ret
        exact ⟨_, _, _, us, wss, rg, _, rfl, H5.out, Hrg.out, Fin.out, Bw.out⟩

set_option maxHeartbeats 1600000 in
/-- IsPrimitive. -/
theorem implIsPrimitive : CtImB 27 IsPri := by
  intro a A n c vs xss w g _
  have G := Lib.hid g
  clear g
  go_enter Try.func27, Try.ntmps27
  rcases ht : transB a xss with _ | _
  · have Fin : Hid (IsPri a xss false) := Lib.hid ⟨fun h => (by cases h), fun h => (by have := h.1; rw [ht] at this; cases this)⟩
    have Ht := Lib.hid ht
    clear ht
    go_wp2_with (first
      | (go_at_call 70; refine (implIsTransitive a A n c vs xss w G.out.rr G.out.hn (Lib.hid G.out.hl)).mono ?_; rintro e w1 ⟨rfl, b1⟩; rw [Ht.out]; have B1 := Lib.hid b1; clear b1))
    go_ret
    exact ⟨_, rfl, Fin.out, B1.out⟩
  · have Ht := Lib.hid ht
    have hg := transB_gB ht
    clear ht
    go_wp2_with (first
      | (go_at_call 70; refine (implIsTransitive a A n c vs xss w G.out.rr G.out.hn (Lib.hid G.out.hl)).mono ?_; rintro e w1 ⟨rfl, b1⟩; rw [Ht.out]; have B1 := Lib.hid b1; clear b1)
      | (go_at_call 29; fail))
    refine (implMsy a A n c vs xss w1 (G.out.up B1.out)).mono ?_
    rintro e w2 ⟨A2, m2, c2, us, wss, rg, ls, rfl, s2, _, r2, b2⟩
    have B2 : Hid (Below w.heap.size w w2) := Lib.hid (btr B1.out b2)
    obtain ⟨ans, eans⟩ : ∃ ans, ((m2 : Int) == 0) = ans := ⟨_, rfl⟩
    have hls : ls = [] ↔ ∀ y, 1 ≤ y → y < a.toNat → (mnS xss a.toNat y).length ≤ 1 := by
      rcases r2 with ⟨_, _, e⟩ | ⟨e, _⟩
      · rw [e]; exact sysL_nil _
      · rw [hg] at e; cases e
    have Fin : Hid (IsPri a xss ans) := Lib.hid (by
      unfold IsPri
      rw [← hls, ← eans, beq_iff_eq]
      constructor
      · intro h; exact ⟨Ht.out, List.eq_nil_of_length_eq_zero (by rw [s2.lx]; omega)⟩
      · intro h; have := s2.lx; rw [h.2] at this; simp at this; omega)
    clear s2 r2 b2 hls
    go_wp2_with fail
    go_ret
    exact ⟨ans, rfl, Fin.out, B2.out⟩
end Go.Proofs.Ytedfcljikgmpgaa

/- The walk of the law FnExactBlockActionOrder: it returns true at every input, and writes nothing that was there. No condition but the program's own contract. -/
namespace Go.Proofs.Ytedfcljikgmpgaa
open Go.RowKit

set_option maxHeartbeats 4000000 in
set_option maxRecDepth 100000 in
/-- The law FnExactBlockActionOrder. -/
theorem lawBlockActionOrder (IM : CtImmI 34 IsBao) (i0 : Int) (g1A : Option Addr) (g1n g1c : Nat) (g1v : List SV) (g1x : List (List Int)) (g2A : Option Addr) (g2n g2c : Nat) (g2v : List SV) (g2x : List (List Int)) (w : World) (wfi0 : I64 i0) (hg1 : RR w w.heap.size g1A g1n g1v g1x) (hmg1 : g1n ≤ maxLen) (hkg1 : Hid (∀ i, i < g1n → (g1v.getD i sd0).2.1 ≤ maxLen)) (hg2 : RR w w.heap.size g2A g2n g2v g2x) (hmg2 : g2n ≤ maxLen) (hkg2 : Hid (∀ i, i < g2n → (g2v.getD i sd0).2.1 ≤ maxLen)) :
    Calls Try.prog 9 #[.int .i64 i0, .slice g1A g1n g1c, .slice g2A g2n g2c] w fun e w' => e = .returned (.bool true) ∧ Below w.heap.size w w' := by
  have Hg1 := Lib.hid hg1
  have hlxg1 := Lib.hid hg1.lx
  have hllg1 := Lib.hid hg1.lens
  have Hg2 := Lib.hid hg2
  have hlxg2 := Lib.hid hg2.lx
  have hllg2 := Lib.hid hg2.lens
  clear hg1 hg2
  by_cases hT0 : ((g1n + tot g1v g1n : Nat) : Int) ≤ (1048576 : Int)
  · skip
    have HT0 := Lib.hid hT0
    obtain ⟨L1, eL1⟩ : ∃ L : Int, (1048576 : Int) - ((g1n + tot g1v g1n : Nat) : Int) = L := ⟨_, rfl⟩
    have hl1 : 0 ≤ L1 ∧ L1 ≤ 1048576 := by omega
    have EL1 := Lib.hid eL1
    clear eL1
    have hLn1 : ¬ L1 < 0 := by omega
    have dLn1 : decide (L1 < 0) = false := by simp; omega
    by_cases hT1 : ((g2n + tot g2v g2n : Nat) : Int) ≤ L1
    · skip
      have HT1 := Lib.hid hT1
      obtain ⟨LE, eLE⟩ : ∃ L : Int, L1 - ((g2n + tot g2v g2n : Nat) : Int) = L := ⟨_, rfl⟩
      have hLE : ¬ LE < 0 := by omega
      have dLE : decide (LE < 0) = false := by simp; omega
      have ELE := Lib.hid eLE
      clear eLE
      have hEq1 := EL1.out
      have hng1 : g1n ≤ 1048576 := by omega
      have KTg1 : Hid (tot g1v g1n ≤ 1048576) := Lib.hid (by omega)
      have hlg1 : Hid (∀ i, i < g1n → (g1v.getD i sd0).2.1 ≤ 1048576) := Lib.hid fun i hi => by have := tot_row (vs := g1v) hi; have := KTg1.out; omega
      have hylg1 : Hid (∀ i, i < g1n → (g1x.getD i []).length ≤ 1048576) := Lib.hid fun i hi => by rw [hllg1.out i hi]; exact hlg1.out i hi
      have hng2 : g2n ≤ 1048576 := by omega
      have KTg2 : Hid (tot g2v g2n ≤ 1048576) := Lib.hid (by omega)
      have hlg2 : Hid (∀ i, i < g2n → (g2v.getD i sd0).2.1 ≤ 1048576) := Lib.hid fun i hi => by have := tot_row (vs := g2v) hi; have := KTg2.out; omega
      have hylg2 : Hid (∀ i, i < g2n → (g2x.getD i []).length ≤ 1048576) := Lib.hid fun i hi => by rw [hllg2.out i hi]; exact hlg2.out i hi
      clear hT0 hT1 hEq1
      go_enter Try.func9, Try.ntmps9
      go_wp2_with fail
      have K0 := szSS2 g1A g1n g1c 1048576 g1v g1x w Hg1.out hmg1 hkg1 (by decide) (by decide)
      refine K0.mono ?_
      rintro e w0 ⟨rfl, rfl⟩
      clear K0
      rw [if_pos HT0.out]
      rw [EL1.out]
      go_wp2_with fail
      have K0 := szSS2 g2A g2n g2c L1 g2v g2x w Hg2.out hmg2 hkg2 hl1.1 hl1.2
      refine K0.mono ?_
      rintro e w0 ⟨rfl, rfl⟩
      clear K0
      rw [if_pos HT1.out]
      rw [ELE.out]
      go_wp2_with fail
      refine (toSS g1A g1n g1c g1v g1x w Hg1.out hng1 hlg1).mono ?_
      rintro e w1 ⟨A1, c1, us1, rfl, s1, q1, b1⟩
      have Z1 : Hid (w.heap.size ≤ w1.heap.size) := Lib.hid b1.size
      have B1 : Hid (Below w.heap.size w w1) := Lib.hid b1
      have Ftg1_1 := Lib.hid s1
      have Ltg1 : Hid (Lies A1 g1n c1 w.heap.size w1.heap.size) := Lib.hid s1.lt_
      have Itg1 : Hid (∀ t, t < g1n → ∀ k, (sval (us1.getD t sd0)).ownBlock = some k → w.heap.size ≤ k ∧ k < w1.heap.size) := Lib.hid fun t ht => (s1.row t ht).lt_
      have Qtg1 := Lib.hid q1
      have hltg1 : Hid (∀ i, i < g1n → (us1.getD i sd0).2.1 ≤ 1048576) := Lib.hid fun i hi => by rw [q1 i hi]; exact hlg1.out i hi
      clear s1 b1 q1
      go_wp2_with fail
      refine (toSS g2A g2n g2c g2v g2x w1 (Hg2.out.up B1.out) hng2 hlg2).mono ?_
      rintro e w2 ⟨A2, c2, us2, rfl, s2, q2, b2⟩
      have Z2 : Hid (w1.heap.size ≤ w2.heap.size) := Lib.hid b2.size
      have B2 : Hid (Below w.heap.size w w2) := Lib.hid (btr B1.out b2)
      have Ftg1_2 := Lib.hid (Ftg1_1.out.up b2)
      clear Ftg1_1
      have Ftg2_2 := Lib.hid s2
      have Ltg2 : Hid (Lies A2 g2n c2 w1.heap.size w2.heap.size) := Lib.hid s2.lt_
      have Itg2 : Hid (∀ t, t < g2n → ∀ k, (sval (us2.getD t sd0)).ownBlock = some k → w1.heap.size ≤ k ∧ k < w2.heap.size) := Lib.hid fun t ht => (s2.row t ht).lt_
      have Qtg2 := Lib.hid q2
      have hltg2 : Hid (∀ i, i < g2n → (us2.getD i sd0).2.1 ≤ 1048576) := Lib.hid fun i hi => by rw [q2 i hi]; exact hlg2.out i hi
      clear s2 b2 q2
      go_wp2_with fail
      have K3 := ctBao i0 A1 g1n c1 us1 g1x A2 g2n c2 us2 g2x w2 ⟨Ftg1_2.out.rr, hng1, hltg1.out⟩ ⟨Ftg2_2.out.rr, hng2, hltg2.out⟩ wfi0
      refine K3.mono ?_
      clear K3
      rintro e w3 ⟨v3, rfl, r3, b3⟩
      have Z3 : Hid (w2.heap.size ≤ w3.heap.size) := Lib.hid b3.size
      have B3 : Hid (Below w.heap.size w w3) := Lib.hid (btr B2.out b3)
      have Ftg1_3 := Lib.hid (Ftg1_2.out.up b3)
      clear Ftg1_2
      have Ftg2_3 := Lib.hid (Ftg2_2.out.up b3)
      clear Ftg2_2
      have HR := Lib.hid r3
      clear r3
      clear b3
      clear Ftg1_3
      clear Ftg2_3
      go_wp2_with fail
      refine (toSS g1A g1n g1c g1v g1x w3 (Hg1.out.up B3.out) hng1 hlg1).mono ?_
      rintro e w4 ⟨A4, c4, us4, rfl, s4, q4, b4⟩
      have Z4 : Hid (w3.heap.size ≤ w4.heap.size) := Lib.hid b4.size
      have B4 : Hid (Below w.heap.size w w4) := Lib.hid (btr B3.out b4)
      have Fxg1_4 := Lib.hid s4
      have Lxg1 : Hid (Lies A4 g1n c4 w3.heap.size w4.heap.size) := Lib.hid s4.lt_
      have Ixg1 : Hid (∀ t, t < g1n → ∀ k, (sval (us4.getD t sd0)).ownBlock = some k → w3.heap.size ≤ k ∧ k < w4.heap.size) := Lib.hid fun t ht => (s4.row t ht).lt_
      have Qxg1 := Lib.hid q4
      have hlxg1 : Hid (∀ i, i < g1n → (us4.getD i sd0).2.1 ≤ 1048576) := Lib.hid fun i hi => by rw [q4 i hi]; exact hlg1.out i hi
      clear s4 b4 q4
      go_wp2_with fail
      refine (toSS g2A g2n g2c g2v g2x w4 (Hg2.out.up B4.out) hng2 hlg2).mono ?_
      rintro e w5 ⟨A5, c5, us5, rfl, s5, q5, b5⟩
      have Z5 : Hid (w4.heap.size ≤ w5.heap.size) := Lib.hid b5.size
      have B5 : Hid (Below w.heap.size w w5) := Lib.hid (btr B4.out b5)
      have Fxg1_5 := Lib.hid (Fxg1_4.out.up b5)
      clear Fxg1_4
      have Fxg2_5 := Lib.hid s5
      have Lxg2 : Hid (Lies A5 g2n c5 w4.heap.size w5.heap.size) := Lib.hid s5.lt_
      have Ixg2 : Hid (∀ t, t < g2n → ∀ k, (sval (us5.getD t sd0)).ownBlock = some k → w4.heap.size ≤ k ∧ k < w5.heap.size) := Lib.hid fun t ht => (s5.row t ht).lt_
      have Qxg2 := Lib.hid q5
      have hlxg2 : Hid (∀ i, i < g2n → (us5.getD i sd0).2.1 ≤ 1048576) := Lib.hid fun i hi => by rw [q5 i hi]; exact hlg2.out i hi
      clear s5 b5 q5
      go_wp2_with fail
      have K6 := IM i0 A4 g1n c4 us4 g1x A5 g2n c5 us5 g2x w5 ⟨Fxg1_5.out.rr, hng1, hlxg1.out⟩ ⟨Fxg2_5.out.rr, hng2, hlxg2.out⟩ wfi0
      refine K6.mono ?_
      clear K6
      rintro e w6 ⟨v6, rfl, r6, b6⟩
      have Z6 : Hid (w5.heap.size ≤ w6.heap.size) := Lib.hid b6.size
      have B6 : Hid (Below w.heap.size w w6) := Lib.hid (btr B5.out b6)
      have Fxg1_6 := Lib.hid (Fxg1_5.out.up b6)
      clear Fxg1_5
      have Fxg2_6 := Lib.hid (Fxg2_5.out.up b6)
      clear Fxg2_5
      have e6 := HR.out.uniq r6
      subst e6
      clear r6
      clear b6
      go_wp2_with fail
      refine (toSS g1A g1n g1c g1v g1x w6 (Hg1.out.up B6.out) hng1 hlg1).mono ?_
      rintro e w7 ⟨A7, c7, us7, rfl, s7, q7, b7⟩
      have Z7 : Hid (w6.heap.size ≤ w7.heap.size) := Lib.hid b7.size
      have B7 : Hid (Below w.heap.size w w7) := Lib.hid (btr B6.out b7)
      have Fxg1_7 := Lib.hid (Fxg1_6.out.up b7)
      clear Fxg1_6
      have Fxg2_7 := Lib.hid (Fxg2_6.out.up b7)
      clear Fxg2_6
      have Fyg1_7 := Lib.hid s7
      have Lyg1 : Hid (Lies A7 g1n c7 w6.heap.size w7.heap.size) := Lib.hid s7.lt_
      have Iyg1 : Hid (∀ t, t < g1n → ∀ k, (sval (us7.getD t sd0)).ownBlock = some k → w6.heap.size ≤ k ∧ k < w7.heap.size) := Lib.hid fun t ht => (s7.row t ht).lt_
      have Qyg1 := Lib.hid q7
      have hlyg1 : Hid (∀ i, i < g1n → (us7.getD i sd0).2.1 ≤ 1048576) := Lib.hid fun i hi => by rw [q7 i hi]; exact hlg1.out i hi
      clear s7 b7 q7
      go_wp2_with fail
      refine (eqRR_same A4 A7 g1n c4 g1n c7 us4 us7 _ w7 Fxg1_7.out.rr Fyg1_7.out.rr (by omega) hylg1).mono ?_
      rintro e w8 ⟨rfl, b8⟩
      have Z8 : Hid (w7.heap.size ≤ w8.heap.size) := Lib.hid b8.size
      have B8 : Hid (Below w.heap.size w w8) := Lib.hid (btr B7.out b8)
      have Fxg1_8 := Lib.hid (Fxg1_7.out.up b8)
      clear Fxg1_7
      have Fxg2_8 := Lib.hid (Fxg2_7.out.up b8)
      clear Fxg2_7
      have Fyg1_8 := Lib.hid (Fyg1_7.out.up b8)
      clear Fyg1_7
      clear b8
      clear Fyg1_8
      go_wp2_with fail
      refine (toSS g2A g2n g2c g2v g2x w8 (Hg2.out.up B8.out) hng2 hlg2).mono ?_
      rintro e w9 ⟨A9, c9, us9, rfl, s9, q9, b9⟩
      have Z9 : Hid (w8.heap.size ≤ w9.heap.size) := Lib.hid b9.size
      have B9 : Hid (Below w.heap.size w w9) := Lib.hid (btr B8.out b9)
      have Fxg1_9 := Lib.hid (Fxg1_8.out.up b9)
      clear Fxg1_8
      have Fxg2_9 := Lib.hid (Fxg2_8.out.up b9)
      clear Fxg2_8
      have Fyg2_9 := Lib.hid s9
      have Lyg2 : Hid (Lies A9 g2n c9 w8.heap.size w9.heap.size) := Lib.hid s9.lt_
      have Iyg2 : Hid (∀ t, t < g2n → ∀ k, (sval (us9.getD t sd0)).ownBlock = some k → w8.heap.size ≤ k ∧ k < w9.heap.size) := Lib.hid fun t ht => (s9.row t ht).lt_
      have Qyg2 := Lib.hid q9
      have hlyg2 : Hid (∀ i, i < g2n → (us9.getD i sd0).2.1 ≤ 1048576) := Lib.hid fun i hi => by rw [q9 i hi]; exact hlg2.out i hi
      clear s9 b9 q9
      go_wp2_with fail
      refine (eqRR_same A5 A9 g2n c5 g2n c9 us5 us9 _ w9 Fxg2_9.out.rr Fyg2_9.out.rr (by omega) hylg2).mono ?_
      rintro e w10 ⟨rfl, b10⟩
      have Z10 : Hid (w9.heap.size ≤ w10.heap.size) := Lib.hid b10.size
      have B10 : Hid (Below w.heap.size w w10) := Lib.hid (btr B9.out b10)
      have Fxg1_10 := Lib.hid (Fxg1_9.out.up b10)
      clear Fxg1_9
      have Fxg2_10 := Lib.hid (Fxg2_9.out.up b10)
      clear Fxg2_9
      have Fyg2_10 := Lib.hid (Fyg2_9.out.up b10)
      clear Fyg2_9
      clear b10
      clear Fyg2_10
      go_wp2_with fail
      go_ret
      exact ⟨rfl, B10.out⟩
    · skip
      have HT1 := Lib.hid hT1
      clear hT0 hT1
      go_enter Try.func9, Try.ntmps9
      go_wp2_with fail
      have K0 := szSS2 g1A g1n g1c 1048576 g1v g1x w Hg1.out hmg1 hkg1 (by decide) (by decide)
      refine K0.mono ?_
      rintro e w0 ⟨rfl, rfl⟩
      clear K0
      rw [if_pos HT0.out]
      rw [EL1.out]
      go_wp2_with fail
      have K0 := szSS2 g2A g2n g2c L1 g2v g2x w Hg2.out hmg2 hkg2 hl1.1 hl1.2
      refine K0.mono ?_
      rintro e w0 ⟨rfl, rfl⟩
      clear K0
      rw [if_neg (Int.not_le.2 HT1.out)]
      go_wp2
      go_ret
      exact ⟨rfl, Below.refl _ _⟩
  · skip
    have HT0 := Lib.hid hT0
    clear hT0
    go_enter Try.func9, Try.ntmps9
    go_wp2_with fail
    have K0 := szSS2 g1A g1n g1c 1048576 g1v g1x w Hg1.out hmg1 hkg1 (by decide) (by decide)
    refine K0.mono ?_
    rintro e w0 ⟨rfl, rfl⟩
    clear K0
    rw [if_neg (Int.not_le.2 HT0.out)]
    go_wp2
    go_ret
    exact ⟨rfl, Below.refl _ _⟩
end Go.Proofs.Ytedfcljikgmpgaa

/- The walk of the law FnExactBlockKernelOrder: it returns true at every input, and writes nothing that was there. No condition but the program's own contract. -/
namespace Go.Proofs.Ytedfcljikgmpgaa
open Go.RowKit

set_option maxHeartbeats 4000000 in
set_option maxRecDepth 100000 in
/-- The law FnExactBlockKernelOrder. -/
theorem lawBlockKernelOrder (IM : CtImmI 36 IsBko) (i0 : Int) (g1A : Option Addr) (g1n g1c : Nat) (g1v : List SV) (g1x : List (List Int)) (g2A : Option Addr) (g2n g2c : Nat) (g2v : List SV) (g2x : List (List Int)) (w : World) (wfi0 : I64 i0) (hg1 : RR w w.heap.size g1A g1n g1v g1x) (hmg1 : g1n ≤ maxLen) (hkg1 : Hid (∀ i, i < g1n → (g1v.getD i sd0).2.1 ≤ maxLen)) (hg2 : RR w w.heap.size g2A g2n g2v g2x) (hmg2 : g2n ≤ maxLen) (hkg2 : Hid (∀ i, i < g2n → (g2v.getD i sd0).2.1 ≤ maxLen)) :
    Calls Try.prog 10 #[.int .i64 i0, .slice g1A g1n g1c, .slice g2A g2n g2c] w fun e w' => e = .returned (.bool true) ∧ Below w.heap.size w w' := by
  have Hg1 := Lib.hid hg1
  have hlxg1 := Lib.hid hg1.lx
  have hllg1 := Lib.hid hg1.lens
  have Hg2 := Lib.hid hg2
  have hlxg2 := Lib.hid hg2.lx
  have hllg2 := Lib.hid hg2.lens
  clear hg1 hg2
  by_cases hT0 : ((g1n + tot g1v g1n : Nat) : Int) ≤ (1048576 : Int)
  · skip
    have HT0 := Lib.hid hT0
    obtain ⟨L1, eL1⟩ : ∃ L : Int, (1048576 : Int) - ((g1n + tot g1v g1n : Nat) : Int) = L := ⟨_, rfl⟩
    have hl1 : 0 ≤ L1 ∧ L1 ≤ 1048576 := by omega
    have EL1 := Lib.hid eL1
    clear eL1
    have hLn1 : ¬ L1 < 0 := by omega
    have dLn1 : decide (L1 < 0) = false := by simp; omega
    by_cases hT1 : ((g2n + tot g2v g2n : Nat) : Int) ≤ L1
    · skip
      have HT1 := Lib.hid hT1
      obtain ⟨LE, eLE⟩ : ∃ L : Int, L1 - ((g2n + tot g2v g2n : Nat) : Int) = L := ⟨_, rfl⟩
      have hLE : ¬ LE < 0 := by omega
      have dLE : decide (LE < 0) = false := by simp; omega
      have ELE := Lib.hid eLE
      clear eLE
      have hEq1 := EL1.out
      have hng1 : g1n ≤ 1048576 := by omega
      have KTg1 : Hid (tot g1v g1n ≤ 1048576) := Lib.hid (by omega)
      have hlg1 : Hid (∀ i, i < g1n → (g1v.getD i sd0).2.1 ≤ 1048576) := Lib.hid fun i hi => by have := tot_row (vs := g1v) hi; have := KTg1.out; omega
      have hylg1 : Hid (∀ i, i < g1n → (g1x.getD i []).length ≤ 1048576) := Lib.hid fun i hi => by rw [hllg1.out i hi]; exact hlg1.out i hi
      have hng2 : g2n ≤ 1048576 := by omega
      have KTg2 : Hid (tot g2v g2n ≤ 1048576) := Lib.hid (by omega)
      have hlg2 : Hid (∀ i, i < g2n → (g2v.getD i sd0).2.1 ≤ 1048576) := Lib.hid fun i hi => by have := tot_row (vs := g2v) hi; have := KTg2.out; omega
      have hylg2 : Hid (∀ i, i < g2n → (g2x.getD i []).length ≤ 1048576) := Lib.hid fun i hi => by rw [hllg2.out i hi]; exact hlg2.out i hi
      clear hT0 hT1 hEq1
      go_enter Try.func10, Try.ntmps10
      go_wp2_with fail
      have K0 := szSS2 g1A g1n g1c 1048576 g1v g1x w Hg1.out hmg1 hkg1 (by decide) (by decide)
      refine K0.mono ?_
      rintro e w0 ⟨rfl, rfl⟩
      clear K0
      rw [if_pos HT0.out]
      rw [EL1.out]
      go_wp2_with fail
      have K0 := szSS2 g2A g2n g2c L1 g2v g2x w Hg2.out hmg2 hkg2 hl1.1 hl1.2
      refine K0.mono ?_
      rintro e w0 ⟨rfl, rfl⟩
      clear K0
      rw [if_pos HT1.out]
      rw [ELE.out]
      go_wp2_with fail
      refine (toSS g1A g1n g1c g1v g1x w Hg1.out hng1 hlg1).mono ?_
      rintro e w1 ⟨A1, c1, us1, rfl, s1, q1, b1⟩
      have Z1 : Hid (w.heap.size ≤ w1.heap.size) := Lib.hid b1.size
      have B1 : Hid (Below w.heap.size w w1) := Lib.hid b1
      have Ftg1_1 := Lib.hid s1
      have Ltg1 : Hid (Lies A1 g1n c1 w.heap.size w1.heap.size) := Lib.hid s1.lt_
      have Itg1 : Hid (∀ t, t < g1n → ∀ k, (sval (us1.getD t sd0)).ownBlock = some k → w.heap.size ≤ k ∧ k < w1.heap.size) := Lib.hid fun t ht => (s1.row t ht).lt_
      have Qtg1 := Lib.hid q1
      have hltg1 : Hid (∀ i, i < g1n → (us1.getD i sd0).2.1 ≤ 1048576) := Lib.hid fun i hi => by rw [q1 i hi]; exact hlg1.out i hi
      clear s1 b1 q1
      go_wp2_with fail
      refine (toSS g2A g2n g2c g2v g2x w1 (Hg2.out.up B1.out) hng2 hlg2).mono ?_
      rintro e w2 ⟨A2, c2, us2, rfl, s2, q2, b2⟩
      have Z2 : Hid (w1.heap.size ≤ w2.heap.size) := Lib.hid b2.size
      have B2 : Hid (Below w.heap.size w w2) := Lib.hid (btr B1.out b2)
      have Ftg1_2 := Lib.hid (Ftg1_1.out.up b2)
      clear Ftg1_1
      have Ftg2_2 := Lib.hid s2
      have Ltg2 : Hid (Lies A2 g2n c2 w1.heap.size w2.heap.size) := Lib.hid s2.lt_
      have Itg2 : Hid (∀ t, t < g2n → ∀ k, (sval (us2.getD t sd0)).ownBlock = some k → w1.heap.size ≤ k ∧ k < w2.heap.size) := Lib.hid fun t ht => (s2.row t ht).lt_
      have Qtg2 := Lib.hid q2
      have hltg2 : Hid (∀ i, i < g2n → (us2.getD i sd0).2.1 ≤ 1048576) := Lib.hid fun i hi => by rw [q2 i hi]; exact hlg2.out i hi
      clear s2 b2 q2
      go_wp2_with fail
      have K3 := ctBko i0 A1 g1n c1 us1 g1x A2 g2n c2 us2 g2x w2 ⟨Ftg1_2.out.rr, hng1, hltg1.out⟩ ⟨Ftg2_2.out.rr, hng2, hltg2.out⟩ wfi0
      refine K3.mono ?_
      clear K3
      rintro e w3 ⟨v3, rfl, r3, b3⟩
      have Z3 : Hid (w2.heap.size ≤ w3.heap.size) := Lib.hid b3.size
      have B3 : Hid (Below w.heap.size w w3) := Lib.hid (btr B2.out b3)
      have Ftg1_3 := Lib.hid (Ftg1_2.out.up b3)
      clear Ftg1_2
      have Ftg2_3 := Lib.hid (Ftg2_2.out.up b3)
      clear Ftg2_2
      have HR := Lib.hid r3
      clear r3
      clear b3
      clear Ftg1_3
      clear Ftg2_3
      go_wp2_with fail
      refine (toSS g1A g1n g1c g1v g1x w3 (Hg1.out.up B3.out) hng1 hlg1).mono ?_
      rintro e w4 ⟨A4, c4, us4, rfl, s4, q4, b4⟩
      have Z4 : Hid (w3.heap.size ≤ w4.heap.size) := Lib.hid b4.size
      have B4 : Hid (Below w.heap.size w w4) := Lib.hid (btr B3.out b4)
      have Fxg1_4 := Lib.hid s4
      have Lxg1 : Hid (Lies A4 g1n c4 w3.heap.size w4.heap.size) := Lib.hid s4.lt_
      have Ixg1 : Hid (∀ t, t < g1n → ∀ k, (sval (us4.getD t sd0)).ownBlock = some k → w3.heap.size ≤ k ∧ k < w4.heap.size) := Lib.hid fun t ht => (s4.row t ht).lt_
      have Qxg1 := Lib.hid q4
      have hlxg1 : Hid (∀ i, i < g1n → (us4.getD i sd0).2.1 ≤ 1048576) := Lib.hid fun i hi => by rw [q4 i hi]; exact hlg1.out i hi
      clear s4 b4 q4
      go_wp2_with fail
      refine (toSS g2A g2n g2c g2v g2x w4 (Hg2.out.up B4.out) hng2 hlg2).mono ?_
      rintro e w5 ⟨A5, c5, us5, rfl, s5, q5, b5⟩
      have Z5 : Hid (w4.heap.size ≤ w5.heap.size) := Lib.hid b5.size
      have B5 : Hid (Below w.heap.size w w5) := Lib.hid (btr B4.out b5)
      have Fxg1_5 := Lib.hid (Fxg1_4.out.up b5)
      clear Fxg1_4
      have Fxg2_5 := Lib.hid s5
      have Lxg2 : Hid (Lies A5 g2n c5 w4.heap.size w5.heap.size) := Lib.hid s5.lt_
      have Ixg2 : Hid (∀ t, t < g2n → ∀ k, (sval (us5.getD t sd0)).ownBlock = some k → w4.heap.size ≤ k ∧ k < w5.heap.size) := Lib.hid fun t ht => (s5.row t ht).lt_
      have Qxg2 := Lib.hid q5
      have hlxg2 : Hid (∀ i, i < g2n → (us5.getD i sd0).2.1 ≤ 1048576) := Lib.hid fun i hi => by rw [q5 i hi]; exact hlg2.out i hi
      clear s5 b5 q5
      go_wp2_with fail
      have K6 := IM i0 A4 g1n c4 us4 g1x A5 g2n c5 us5 g2x w5 ⟨Fxg1_5.out.rr, hng1, hlxg1.out⟩ ⟨Fxg2_5.out.rr, hng2, hlxg2.out⟩ wfi0
      refine K6.mono ?_
      clear K6
      rintro e w6 ⟨v6, rfl, r6, b6⟩
      have Z6 : Hid (w5.heap.size ≤ w6.heap.size) := Lib.hid b6.size
      have B6 : Hid (Below w.heap.size w w6) := Lib.hid (btr B5.out b6)
      have Fxg1_6 := Lib.hid (Fxg1_5.out.up b6)
      clear Fxg1_5
      have Fxg2_6 := Lib.hid (Fxg2_5.out.up b6)
      clear Fxg2_5
      have e6 := HR.out.uniq r6
      subst e6
      clear r6
      clear b6
      go_wp2_with fail
      refine (toSS g1A g1n g1c g1v g1x w6 (Hg1.out.up B6.out) hng1 hlg1).mono ?_
      rintro e w7 ⟨A7, c7, us7, rfl, s7, q7, b7⟩
      have Z7 : Hid (w6.heap.size ≤ w7.heap.size) := Lib.hid b7.size
      have B7 : Hid (Below w.heap.size w w7) := Lib.hid (btr B6.out b7)
      have Fxg1_7 := Lib.hid (Fxg1_6.out.up b7)
      clear Fxg1_6
      have Fxg2_7 := Lib.hid (Fxg2_6.out.up b7)
      clear Fxg2_6
      have Fyg1_7 := Lib.hid s7
      have Lyg1 : Hid (Lies A7 g1n c7 w6.heap.size w7.heap.size) := Lib.hid s7.lt_
      have Iyg1 : Hid (∀ t, t < g1n → ∀ k, (sval (us7.getD t sd0)).ownBlock = some k → w6.heap.size ≤ k ∧ k < w7.heap.size) := Lib.hid fun t ht => (s7.row t ht).lt_
      have Qyg1 := Lib.hid q7
      have hlyg1 : Hid (∀ i, i < g1n → (us7.getD i sd0).2.1 ≤ 1048576) := Lib.hid fun i hi => by rw [q7 i hi]; exact hlg1.out i hi
      clear s7 b7 q7
      go_wp2_with fail
      refine (eqRR_same A4 A7 g1n c4 g1n c7 us4 us7 _ w7 Fxg1_7.out.rr Fyg1_7.out.rr (by omega) hylg1).mono ?_
      rintro e w8 ⟨rfl, b8⟩
      have Z8 : Hid (w7.heap.size ≤ w8.heap.size) := Lib.hid b8.size
      have B8 : Hid (Below w.heap.size w w8) := Lib.hid (btr B7.out b8)
      have Fxg1_8 := Lib.hid (Fxg1_7.out.up b8)
      clear Fxg1_7
      have Fxg2_8 := Lib.hid (Fxg2_7.out.up b8)
      clear Fxg2_7
      have Fyg1_8 := Lib.hid (Fyg1_7.out.up b8)
      clear Fyg1_7
      clear b8
      clear Fyg1_8
      go_wp2_with fail
      refine (toSS g2A g2n g2c g2v g2x w8 (Hg2.out.up B8.out) hng2 hlg2).mono ?_
      rintro e w9 ⟨A9, c9, us9, rfl, s9, q9, b9⟩
      have Z9 : Hid (w8.heap.size ≤ w9.heap.size) := Lib.hid b9.size
      have B9 : Hid (Below w.heap.size w w9) := Lib.hid (btr B8.out b9)
      have Fxg1_9 := Lib.hid (Fxg1_8.out.up b9)
      clear Fxg1_8
      have Fxg2_9 := Lib.hid (Fxg2_8.out.up b9)
      clear Fxg2_8
      have Fyg2_9 := Lib.hid s9
      have Lyg2 : Hid (Lies A9 g2n c9 w8.heap.size w9.heap.size) := Lib.hid s9.lt_
      have Iyg2 : Hid (∀ t, t < g2n → ∀ k, (sval (us9.getD t sd0)).ownBlock = some k → w8.heap.size ≤ k ∧ k < w9.heap.size) := Lib.hid fun t ht => (s9.row t ht).lt_
      have Qyg2 := Lib.hid q9
      have hlyg2 : Hid (∀ i, i < g2n → (us9.getD i sd0).2.1 ≤ 1048576) := Lib.hid fun i hi => by rw [q9 i hi]; exact hlg2.out i hi
      clear s9 b9 q9
      go_wp2_with fail
      refine (eqRR_same A5 A9 g2n c5 g2n c9 us5 us9 _ w9 Fxg2_9.out.rr Fyg2_9.out.rr (by omega) hylg2).mono ?_
      rintro e w10 ⟨rfl, b10⟩
      have Z10 : Hid (w9.heap.size ≤ w10.heap.size) := Lib.hid b10.size
      have B10 : Hid (Below w.heap.size w w10) := Lib.hid (btr B9.out b10)
      have Fxg1_10 := Lib.hid (Fxg1_9.out.up b10)
      clear Fxg1_9
      have Fxg2_10 := Lib.hid (Fxg2_9.out.up b10)
      clear Fxg2_9
      have Fyg2_10 := Lib.hid (Fyg2_9.out.up b10)
      clear Fyg2_9
      clear b10
      clear Fyg2_10
      go_wp2_with fail
      go_ret
      exact ⟨rfl, B10.out⟩
    · skip
      have HT1 := Lib.hid hT1
      clear hT0 hT1
      go_enter Try.func10, Try.ntmps10
      go_wp2_with fail
      have K0 := szSS2 g1A g1n g1c 1048576 g1v g1x w Hg1.out hmg1 hkg1 (by decide) (by decide)
      refine K0.mono ?_
      rintro e w0 ⟨rfl, rfl⟩
      clear K0
      rw [if_pos HT0.out]
      rw [EL1.out]
      go_wp2_with fail
      have K0 := szSS2 g2A g2n g2c L1 g2v g2x w Hg2.out hmg2 hkg2 hl1.1 hl1.2
      refine K0.mono ?_
      rintro e w0 ⟨rfl, rfl⟩
      clear K0
      rw [if_neg (Int.not_le.2 HT1.out)]
      go_wp2
      go_ret
      exact ⟨rfl, Below.refl _ _⟩
  · skip
    have HT0 := Lib.hid hT0
    clear hT0
    go_enter Try.func10, Try.ntmps10
    go_wp2_with fail
    have K0 := szSS2 g1A g1n g1c 1048576 g1v g1x w Hg1.out hmg1 hkg1 (by decide) (by decide)
    refine K0.mono ?_
    rintro e w0 ⟨rfl, rfl⟩
    clear K0
    rw [if_neg (Int.not_le.2 HT0.out)]
    go_wp2
    go_ret
    exact ⟨rfl, Below.refl _ _⟩
end Go.Proofs.Ytedfcljikgmpgaa
