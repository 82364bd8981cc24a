/- The model's chain in memory: one store of a representative, one generator appended. No condition. -/
import Derived.Test.YtooafmifbplbhaaChH
namespace Go.Proofs.Ytooafmifbplbhaa
open Go.RowKit

section
variable {w w' : World} {base g N k y : Nat} {c : Ch} {L : LY} {p : List Int}
theorem typ_ne {w : World} {a b : Nat} {cs ds : Array Value} {s t : TypeId} (ha : w.heap[a]? = some (.cells cs s (0, 0))) (hb : w.heap[b]? = some (.cells ds t (0, 0))) (hn : s ≠ t) : a ≠ b := fun e => by
  subst e
  rw [ha] at hb
  injection hb with hb
  injection hb with _ e
  exact hn e
theorem Cn.ro_ne_G (h : Cn w base g N c L) {i : Nat} (hi : i < N) : L.ro i ≠ L.G := by
  obtain ⟨_, e1⟩ := ownsRow_typ (h.row1 i hi) (k := L.ro i) rfl
  obtain ⟨_, e2⟩ := ownsRow_typ h.own2 (k := L.G) rfl
  exact typ_ne e1 e2 (by decide)
theorem Cn.gv_ne_G (h : Cn w base g N c L) {i : Nat} (hi : i < N) : (sval (L.gv i)).ownBlock ≠ some L.G := fun e => by
  obtain ⟨_, e1⟩ := ownsRow_typ (h.row2 i hi) e
  obtain ⟨_, e2⟩ := ownsRow_typ h.own2 (k := L.G) rfl
  exact typ_ne e1 e2 (by decide) rfl
/-- The layout behind a store of a representative. -/
def LY.put (L : LY) (k y : Nat) (d : SV) : LY := { L with en := fun i => if i = k then (L.en k).set y d else L.en i }
theorem Cn.store (h : Cn w base g N c L) (hk : k < N) (hy : y < N) {d : SV} (hp : Slc w base d.1 d.2.1 d.2.2 p) :
    Cn (w.setCell ⟨L.ro k, y, none⟩ (sval d)) base g N (c.set k y p) (L.put k y d) ∧ w.grownBy (w.setCell ⟨L.ro k, y, none⟩ (sval d)) (some (L.ro k)) := by
  obtain ⟨hown, hgr⟩ := (h.row1 k hk).stored y (sval d)
  have hc : Chg w (w.setCell ⟨L.ro k, y, none⟩ (sval d)) (fun b => b = L.ro k) := .of_grown hgr (by intro b e; injection e with e; exact e.symm)
  have hni : NoInt w (fun b => b = L.ro k) := fun b e => h.noInt b (.inr (.inl ⟨k, hk, e⟩))
  refine ⟨⟨?_, h.hg, ?_, fun i hi => ?_, fun i hi => ?_, fun i hi z hz => ?_, ?_, fun i hi => ?_, h.len2, fun i hi z hz => (h.ent2 i hi z hz).chg hc hni, h.dRG, h.dro, h.drg, h.dgv⟩, hgr⟩
  · exact (hc.block g h.blk.lt (fun e => h.g_mut (.inr (.inl ⟨k, hk, e⟩)))).trans h.blk
  · exact ownsRow_chg h.own1 hc fun b e e2 => h.R_mut (.inr (.inl ⟨k, hk, (Option.some.inj e : L.R = b).trans e2⟩))
  · by_cases e : i = k
    · subst e
      show World.ownsRow _ base _ 1 _ N (List.map sval (if i = i then _ else _))
      rw [if_pos rfl, List.map_set]; exact hown
    · show World.ownsRow _ base _ 1 _ N (List.map sval (if i = k then _ else _))
      rw [if_neg e]
      refine ownsRow_chg (h.row1 i hi) hc fun b e1 e2 => h.dro i k hi hk e ?_
      have : L.ro i = b := Option.some.inj e1
      rw [this]; exact e2
  · show (if i = k then (L.en k).set y d else L.en i).length = N
    by_cases e : i = k
    · rw [if_pos e, List.length_set]; exact h.len1 k hk
    · rw [if_neg e]; exact h.len1 i hi
  · show Slc _ base ((if i = k then (L.en k).set y d else L.en i).getD z sd0).1 ((if i = k then (L.en k).set y d else L.en i).getD z sd0).2.1 ((if i = k then (L.en k).set y d else L.en i).getD z sd0).2.2 (if i = k ∧ z = y then p else c.rep i z)
    by_cases e : i = k
    · rw [if_pos e]
      subst e
      by_cases ez : z = y
      · subst ez
        rw [if_pos ⟨rfl, rfl⟩, getD_set_eq (by rw [h.len1 i hi]; exact hz)]
        exact hp.chg hc hni
      · rw [if_neg (fun e => ez e.2), getD_set_ne (fun e => ez e.symm)]
        exact (h.ent1 i hi z hz).chg hc hni
    · rw [if_neg e, if_neg (fun e2 => e e2.1)]
      exact (h.ent1 i hi z hz).chg hc hni
  · refine ownsRow_chg h.own2 hc fun b e1 e2 => h.ro_ne_G hk ?_
    have : L.G = b := Option.some.inj e1
    rw [this]; exact e2.symm
  · exact ownsRow_chg (h.row2 i hi) hc fun b e1 e2 => h.drg k i hk hi (by rw [← e2]; exact e1)
theorem mut_put {d : SV} (b : Nat) : Mut N (L.put k y d) b ↔ Mut N L b := Iff.rfl

def LY.app (L : LY) (k : Nat) (d e : SV) : LY := { L with gv := fun i => if i = k then d else L.gv i, ge := fun i => if i = k then L.ge k ++ [e] else L.ge i }
theorem Cn.pushed (h : Cn w base g N c L) (hk : k < N) {w1 : World} {d e : SV} (hown : w1.ownsRow base 25 1 (sval d) ((c.gen k).length + 1) ((L.ge k).map sval ++ [sval e])) (hgr : w.grownBy w1 (sval (L.gv k)).ownBlock)
    (hat : (sval d).ownBlock = (sval (L.gv k)).ownBlock ∨ ∃ q, (sval d).ownBlock = some q ∧ w.heap.size ≤ q) (he : Slc w base e.1 e.2.1 e.2.2 p) :
    Cn (w1.setCell ⟨L.G, k, none⟩ (sval d)) base g N (c.push k p) (L.app k d e) ∧ Chg w (w1.setCell ⟨L.G, k, none⟩ (sval d)) (Mut N L) ∧ ∀ b, Mut N (L.app k d e) b → Mut N L b ∨ w.heap.size ≤ b := by
  have own2 := ownsRow_chg h.own2 (Chg.of_grown (M := fun b => (sval (L.gv k)).ownBlock = some b) hgr fun b e => e) fun b e1 e2 => h.gv_ne_G hk (by
    have : L.G = b := Option.some.inj e1
    rw [this]; exact e2)
  obtain ⟨hown2, hgr2⟩ := own2.stored k (sval d)
  have hc : Chg w (w1.setCell ⟨L.G, k, none⟩ (sval d)) (fun b => b = L.G ∨ (sval (L.gv k)).ownBlock = some b) :=
    (Chg.of_grown (M := fun b => b = L.G ∨ (sval (L.gv k)).ownBlock = some b) hgr fun b e => .inr e).trans (.of_grown (M := fun b => b = L.G) hgr2 (by intro b e; injection e with e; exact e.symm)) fun b e => .inl (.inl e)
  have hsub : ∀ b, (b = L.G ∨ (sval (L.gv k)).ownBlock = some b) → Mut N L b := fun b e => by
    rcases e with e | e
    · exact .inl e
    · exact .inr (.inr ⟨k, hk, e⟩)
  have hni : NoInt w (fun b => b = L.G ∨ (sval (L.gv k)).ownBlock = some b) := fun b e => h.noInt b (hsub b e)
  have hlen : ∀ i, ((c.push k p).gen i).length = if i = k then (c.gen k).length + 1 else (c.gen i).length := fun i => by
    show (if i = k then c.gen k ++ [p] else c.gen i).length = _
    split <;> simp
  have hdG : ∀ b, (sval d).ownBlock = some b → b ≠ L.G := fun b eb => by
    obtain ⟨_, e1⟩ := ownsRow_typ hown eb
    obtain ⟨_, e2⟩ := ownsRow_typ own2 (k := L.G) rfl
    exact typ_ne e1 e2 (by decide)
  have hmut : ∀ b, Mut N (L.app k d e) b → Mut N L b ∨ w.heap.size ≤ b := fun b hb => by
    rcases hb with hb | ⟨i, hi, hb⟩ | ⟨i, hi, hb⟩
    · exact .inl (.inl hb)
    · exact .inl (.inr (.inl ⟨i, hi, hb⟩))
    · have hb' : (sval (if i = k then d else L.gv i)).ownBlock = some b := hb
      by_cases ei : i = k
      · rw [if_pos ei] at hb'
        rcases hat with ha | ⟨q, ha, hq⟩
        · exact .inl (.inr (.inr ⟨k, hk, by rw [← ha]; exact hb'⟩))
        · rw [ha] at hb'; injection hb' with hb'; subst hb'; exact .inr hq
      · rw [if_neg ei] at hb'; exact .inl (.inr (.inr ⟨i, hi, hb'⟩))
  refine ⟨⟨?_, h.hg, ?_, fun i hi => ?_, h.len1, fun i hi z hz => (h.ent1 i hi z hz).chg hc hni, ?_, fun i hi => ?_, fun i hi => ?_, fun i hi z hz => ?_, h.dRG, h.dro, fun i j hi hj => ?_, fun i j hi hj hij b => ?_⟩, ⟨hc.os, hc.tape, hc.output, hc.size, fun b hb hn => hc.block b hb fun e => hn (hsub b e)⟩, hmut⟩
  · exact (hc.block g h.blk.lt (fun e => h.g_mut (hsub _ e))).trans h.blk
  · exact ownsRow_chg h.own1 hc fun b e1 e2 => h.R_mut (by
      have : L.R = b := Option.some.inj e1
      rw [this]; exact hsub _ e2)
  · refine ownsRow_chg (h.row1 i hi) hc fun b e1 e2 => ?_
    have eb : L.ro i = b := Option.some.inj e1
    rcases e2 with e2 | e2
    · exact h.ro_ne_G hi (by rw [eb]; exact e2)
    · exact h.drg i k hi hk (by rw [eb]; exact e2)
  · have e3 : ((List.range N).map fun i => sval (L.gv i)).set k (sval d) = (List.range N).map fun i => sval (if i = k then d else L.gv i) := by
      refine List.ext_getElem (by simp) fun j h1 h2 => ?_
      rw [List.getElem_set]
      simp only [List.getElem_map, List.getElem_range]
      by_cases ej : k = j
      · subst ej; simp
      · rw [if_neg ej, if_neg (fun e => ej e.symm)]
    show World.ownsRow _ base _ 1 _ N ((List.range N).map fun i => sval (if i = k then d else L.gv i))
    rw [← e3]; exact hown2
  · rw [hlen]
    show World.ownsRow _ base _ 1 (sval (if i = k then d else L.gv i)) _ (List.map sval (if i = k then L.ge k ++ [e] else L.ge i))
    by_cases ei : i = k
    · rw [if_pos ei, if_pos ei, if_pos ei, List.map_append]
      exact ownsRow_chg hown (.of_grown (M := fun b => b = L.G) hgr2 (by intro b e; injection e with e; exact e.symm)) fun b e1 e2 => hdG b e1 e2
    · rw [if_neg ei, if_neg ei, if_neg ei]
      refine ownsRow_chg (h.row2 i hi) hc fun b e1 e2 => ?_
      rcases e2 with e2 | e2
      · rw [e2] at e1; exact h.gv_ne_G hi e1
      · exact h.dgv i k hi hk ei b e1 e2
  · rw [hlen]
    show (if i = k then L.ge k ++ [e] else L.ge i).length = _
    by_cases ei : i = k
    · rw [if_pos ei, if_pos ei, List.length_append, h.len2 k hk]; rfl
    · rw [if_neg ei, if_neg ei]; exact h.len2 i hi
  · rw [hlen] at hz
    show Slc _ base ((if i = k then L.ge k ++ [e] else L.ge i).getD z sd0).1 ((if i = k then L.ge k ++ [e] else L.ge i).getD z sd0).2.1 ((if i = k then L.ge k ++ [e] else L.ge i).getD z sd0).2.2 ((if i = k then c.gen k ++ [p] else c.gen i).getD z [])
    by_cases ei : i = k
    · rw [if_pos ei] at hz
      rw [if_pos ei, if_pos ei]
      by_cases ez : z < (c.gen k).length
      · rw [getD_app _ _ _ z (by rw [h.len2 k hk]; exact ez), getD_app _ _ _ z ez]
        exact (h.ent2 k hk z ez).chg hc hni
      · have ez2 : z = (c.gen k).length := by omega
        rw [getD_snoc _ _ _ z (by rw [h.len2 k hk]; exact ez2), getD_snoc _ _ _ z ez2]
        exact he.chg hc hni
    · rw [if_neg ei] at hz
      rw [if_neg ei, if_neg ei]
      exact (h.ent2 i hi z hz).chg hc hni
  · show (sval (if j = k then d else L.gv j)).ownBlock ≠ some (L.ro i)
    by_cases ej : j = k
    · rw [if_pos ej]
      rcases hat with ha | ⟨q, ha, hq⟩
      · rw [ha]; exact h.drg i k hi hk
      · rw [ha]; intro e; injection e with e; have := (h.ltro hi).2; omega
    · rw [if_neg ej]; exact h.drg i j hi hj
  · show (sval (if i = k then d else L.gv i)).ownBlock = some b → (sval (if j = k then d else L.gv j)).ownBlock ≠ some b
    by_cases ei : i = k
    · rw [if_pos ei, if_neg (fun e => hij (ei.trans e.symm))]
      intro e1 e2
      rcases hat with ha | ⟨q, ha, hq⟩
      · rw [ha] at e1; exact h.dgv k j hk hj (fun e => hij (ei.trans e)) b e1 e2
      · rw [ha] at e1; injection e1 with e1; have := (h.ltgv hj b e2).2; omega
    · rw [if_neg ei]
      by_cases ej : j = k
      · rw [if_pos ej]
        intro e1 e2
        rcases hat with ha | ⟨q, ha, hq⟩
        · rw [ha] at e2; exact h.dgv k i hk hi (fun e => ei e.symm) b e2 e1
        · rw [ha] at e2; injection e2 with e2; have := (h.ltgv hi b e1).2; omega
      · rw [if_neg ej]; exact h.dgv i j hi hj hij b
end
end Go.Proofs.Ytooafmifbplbhaa
