/- Plain facts: the degree less the number of cycles has the parity of the inversions; signs multiply. No Go in it. No condition. -/
import Derived.Test.YtopaeojcpidfgaaParity
namespace Go.Proofs.Ytopaeojcpidfgaa

theorem st_iff {p : List Int} (h : IsP p) {y : Nat} (hy : y < p.length) : st p y = true ↔ ∀ k, y ≤ it p k y := by
  unfold st
  rw [List.all_eq_true]
  constructor
  · intro hs k
    rw [it_mod h hy k]
    have := hs (k % per p y) (List.mem_range.2 (Nat.mod_lt _ (per_spec h hy).1))
    simpa using this
  · intro hs k _
    simpa using hs k
theorem surj {p : List Int} (h : IsP p) {j : Nat} (hj : j < p.length) : ∃ x, x < p.length ∧ nx p x = j := by
  obtain ⟨h1, _, h3, _⟩ := per_spec h hj
  refine ⟨it p (per p j - 1) j, it_lt h hj _, ?_⟩
  have : it p (per p j - 1 + 1) j = j := by rw [show per p j - 1 + 1 = per p j from by omega]; exact h3
  exact this
/-- The number of cycles. -/
def cc (p : List Int) : Nat := (List.range p.length).countP (st p)
theorem cc_eq (p : List Int) : (cycs p).length = cc p := by unfold cycs cc; rw [List.length_map, List.countP_eq_length_filter]
theorem cc_le (p : List Int) : cc p ≤ p.length := by
  unfold cc
  have := List.countP_le_length (p := st p) (l := List.range p.length)
  rwa [List.length_range] at this
theorem gD_take {p : List Int} {k j : Nat} (h : j < k) : (p.take k).getD j 0 = p.getD j 0 := by
  rw [List.getD_eq_getElem?_getD, List.getElem?_take, if_pos h, ← List.getD_eq_getElem?_getD]

/-- The last point is fixed: it is left off. -/
theorem fix_last {p : List Int} (h : IsP p) {n : Nat} (hn : p.length = n + 2) (hv : nx p (n + 1) = n + 1) :
    IsP (p.take (n + 1)) ∧ cc p = cc (p.take (n + 1)) + 1 ∧ inv p = inv (p.take (n + 1)) := by
  have hl : (p.take (n + 1)).length = n + 1 := by rw [List.length_take]; omega
  have hlt : ∀ j, j < n + 1 → nx p j < n + 1 := fun j hj => by
    have h1 := nx_lt h (x := j) (by omega)
    rcases Nat.lt_or_ge (nx p j) (n + 1) with h2 | h2
    · exact h2
    · have : j = n + 1 := nx_inj h (by omega) (by omega) (by rw [hv]; omega)
      omega
  have hP : IsP (p.take (n + 1)) := by
    refine ⟨by omega, by have := h.le; omega, fun i hi => ?_, fun i hi => ?_, fun i j hi hj e => ?_⟩
    · rw [hl] at hi; rw [gD_take hi]; exact h.lo i (by omega)
    · rw [hl] at hi ⊢; rw [gD_take hi, nx_val h (by omega)]; have := hlt i hi; omega
    · rw [hl] at hi hj; rw [gD_take hi, gD_take hj] at e; exact h.inj i j (by omega) (by omega) e
  have hnx : ∀ j, j < n + 1 → nx (p.take (n + 1)) j = nx p j := fun j hj => by unfold nx; rw [gD_take hj]
  have hit : ∀ j, j < n + 1 → ∀ k, it (p.take (n + 1)) k j = it p k j ∧ it p k j < n + 1 := by
    intro j hj k
    induction k with
    | zero => exact ⟨rfl, hj⟩
    | succ k ih =>
      refine ⟨?_, hlt _ ih.2⟩
      show nx _ (it _ k j) = nx p (it p k j)
      rw [ih.1, hnx _ ih.2]
  refine ⟨hP, ?_, ?_⟩
  · unfold cc
    rw [hn, hl, List.range_succ, List.countP_append]
    have h1 : st p (n + 1) = true := (st_iff h (by omega)).2 fun k => by
      have : it p k (n + 1) = n + 1 := by
        induction k with
        | zero => rfl
        | succ k ih => show nx p (it p k (n + 1)) = _; rw [ih, hv]
      omega
    have h2 : (List.range (n + 1)).countP (st p) = (List.range (n + 1)).countP (st (p.take (n + 1))) := by
      refine List.countP_congr fun y hy => ?_
      rw [List.mem_range] at hy
      rw [st_iff h (by omega), st_iff hP (by omega)]
      exact forall_congr' fun k => by rw [(hit y hy k).1]
    rw [h2]
    simp [h1]
  · have e : p = p.take (n + 1) ++ [((n + 1 : Nat) : Int)] := by
      refine gD_ext (by simp; omega) fun j hj => ?_
      by_cases c : j < n + 1
      · rw [List.getD_eq_getElem?_getD (l := p.take (n + 1) ++ _), List.getElem?_append_left (by omega), ← List.getD_eq_getElem?_getD, gD_take c]
      · have : j = n + 1 := by omega
        subst this
        rw [List.getD_eq_getElem?_getD (l := p.take (n + 1) ++ _), List.getElem?_append_right (by omega), hl, Nat.sub_self, nx_val h (by omega), hv]; rfl
    rw [e, inv_max _ _ fun x hx => ?_]
    · rw [List.take_append_of_le_length (by omega), List.take_take, Nat.min_self]
    · obtain ⟨i, hi, ei⟩ := List.getElem_of_mem hx
      have := hP.hi i hi
      rw [List.getD_eq_getElem?_getD, List.getElem?_eq_getElem hi] at this
      rw [← ei]
      have h2 : (p.take (n + 1))[i] < ((p.take (n + 1)).length : Int) := this
      rw [hl] at h2; omega

/-- The last point is not fixed: it is passed by. -/
theorem pass_last {p : List Int} (h : IsP p) {n : Nat} (hn : p.length = n + 2) (hv : nx p (n + 1) ≠ n + 1) :
    ∃ p', IsP p' ∧ p'.length = n + 1 ∧ cc p = cc p' ∧ inv p % 2 = (inv p' + 1) % 2 := by
  obtain ⟨x, hx, ex⟩ := surj h (j := n + 1) (by omega)
  have hxn : x < n + 1 := by
    rcases Nat.lt_or_ge x (n + 1) with h2 | h2
    · exact h2
    · have : x = n + 1 := by omega
      rw [this] at ex; exact absurd ex hv
  obtain ⟨v, ev⟩ : ∃ v, nx p (n + 1) = v := ⟨_, rfl⟩
  rw [ev] at hv
  have hvl : v < n + 1 := by have := nx_lt h (x := n + 1) (by omega); rw [ev] at this; omega
  have hl0 : (p.take (n + 1)).length = n + 1 := by rw [List.length_take]; omega
  have hl : ((p.take (n + 1)).set x (v : Int)).length = n + 1 := by rw [List.length_set]; exact hl0
  have hg : ∀ j, j < n + 1 → ((p.take (n + 1)).set x (v : Int)).getD j 0 = if x = j then (v : Int) else p.getD j 0 := fun j hj => by
    rw [gD_set (by omega), gD_take hj]
  have hnxv : ∀ j, j < n + 1 → nx ((p.take (n + 1)).set x (v : Int)) j = if x = j then v else nx p j := fun j hj => by
    unfold nx; rw [hg j hj]; split
    · omega
    · rfl
  have hlt : ∀ j, j < n + 1 → x ≠ j → nx p j < n + 1 := fun j hj hne => by
    have h1 := nx_lt h (x := j) (by omega)
    rcases Nat.lt_or_ge (nx p j) (n + 1) with h2 | h2
    · exact h2
    · exact absurd (nx_inj h hx (by omega) (by rw [ex]; omega)) hne
  have hP : IsP ((p.take (n + 1)).set x (v : Int)) := by
    refine ⟨by omega, by have := h.le; omega, fun i hi => ?_, fun i hi => ?_, fun i j hi hj e => ?_⟩
    · rw [hl] at hi; rw [hg i hi]; split
      · omega
      · exact h.lo i (by omega)
    · rw [hl] at hi ⊢; rw [hg i hi]; split
      · omega
      · rename_i hne; rw [nx_val h (by omega)]; have := hlt i hi hne; omega
    · rw [hl] at hi hj
      rw [hg i hi, hg j hj] at e
      split at e
      · split at e
        · omega
        · rename_i c1 c2
          rw [nx_val h (by omega)] at e
          have := nx_inj h (x := n + 1) (y := j) (by omega) (by omega) (by rw [ev]; omega)
          omega
      · split at e
        · rename_i c1 c2
          rw [nx_val h (by omega)] at e
          have := nx_inj h (x := n + 1) (y := i) (by omega) (by omega) (by rw [ev]; omega)
          omega
        · exact h.inj i j (by omega) (by omega) e
  obtain ⟨p', ep'⟩ : ∃ p', (p.take (n + 1)).set x (v : Int) = p' := ⟨_, rfl⟩
  rw [ep'] at hl hg hnxv hP
  refine ⟨p', hP, hl, ?_, ?_⟩
  · -- every iterate of p' is one of p
    have fw : ∀ y, y < n + 1 → ∀ k, ∃ k', it p' k y = it p k' y := by
      intro y hy k
      induction k with
      | zero => exact ⟨0, rfl⟩
      | succ k ih =>
        obtain ⟨k', e⟩ := ih
        have hlt' : it p' k y < n + 1 := by have := it_lt hP (x := y) (by omega) k; omega
        show ∃ k', nx p' (it p' k y) = _
        rw [hnxv _ hlt']
        by_cases c : x = it p' k y
        · rw [if_pos c]
          refine ⟨k' + 2, ?_⟩
          show v = nx p (nx p (it p k' y))
          rw [← e, ← c, ex, ev]
        · rw [if_neg c]; exact ⟨k' + 1, by show _ = nx p (it p k' y); rw [← e]⟩
    have bw : ∀ y, y < n + 1 → ∀ k, (it p k y ≠ n + 1 ∧ ∃ k', it p k y = it p' k' y) ∨ (it p k y = n + 1 ∧ ∃ k', it p' k' y = x) := by
      intro y hy k
      induction k with
      | zero => exact .inl ⟨by show y ≠ _; omega, 0, rfl⟩
      | succ k ih =>
        rcases ih with ⟨h1, k', e⟩ | ⟨h1, k', e⟩
        · have hlt' : it p' k' y < n + 1 := by have := it_lt hP (x := y) (by omega) k'; omega
          by_cases c : x = it p' k' y
          · exact .inr ⟨by show nx p (it p k y) = _; rw [e, ← c, ex], k', c.symm⟩
          · refine .inl ⟨?_, k' + 1, ?_⟩
            · show nx p (it p k y) ≠ _
              rw [e]; have := hlt _ hlt' c; omega
            · show nx p (it p k y) = nx p' (it p' k' y)
              rw [hnxv _ hlt', if_neg c, e]
        · refine .inl ⟨?_, k' + 1, ?_⟩
          · show nx p (it p k y) ≠ _
            rw [h1, ev]; exact hv
          · show nx p (it p k y) = nx p' (it p' k' y)
            rw [h1, ev, e, hnxv _ hxn, if_pos rfl]
    unfold cc
    rw [hn, hl, List.range_succ, List.countP_append]
    have h1 : st p (n + 1) = false := by
      rw [Bool.eq_false_iff]
      intro hs
      have := (st_iff h (by omega)).1 hs 1
      have e1 : it p 1 (n + 1) = v := ev
      rw [e1] at this; omega
    have h2 : (List.range (n + 1)).countP (st p) = (List.range (n + 1)).countP (st p') := by
      refine List.countP_congr fun y hy => ?_
      rw [List.mem_range] at hy
      rw [st_iff h (by omega), st_iff hP (by omega)]
      constructor
      · intro hs k
        obtain ⟨k', e⟩ := fw y hy k
        rw [e]; exact hs k'
      · intro hs k
        rcases bw y hy k with ⟨_, k', e⟩ | ⟨e, _⟩
        · rw [e]; exact hs k'
        · rw [e]; omega
    rw [h2]
    simp [h1]
  · have hl2 : (p' ++ [((n + 1 : Nat) : Int)]).length = n + 2 := by simp; omega
    have hgq : ∀ j, j < n + 2 → (p' ++ [((n + 1 : Nat) : Int)]).getD j 0 = if j < n + 1 then p'.getD j 0 else ((n + 1 : Nat) : Int) := fun j hj => by
      by_cases c : j < n + 1
      · rw [if_pos c, List.getD_eq_getElem?_getD, List.getElem?_append_left (by omega), ← List.getD_eq_getElem?_getD]
      · have : j = n + 1 := by omega
        subst this
        rw [if_neg (by omega), List.getD_eq_getElem?_getD, List.getElem?_append_right (by omega), hl, Nat.sub_self]; rfl
    have hinj : Inj (p' ++ [((n + 1 : Nat) : Int)]) := by
      intro i j hi hj e
      rw [hl2] at hi hj
      rw [hgq i hi, hgq j hj] at e
      split at e
      · split at e
        · exact hP.inj i j (by omega) (by omega) e
        · have := hP.hi i (by omega); rw [hl] at this; omega
      · split at e
        · have := hP.hi j (by omega); rw [hl] at this; omega
        · omega
    have hs : swp (p' ++ [((n + 1 : Nat) : Int)]) x (n + 1) = p := by
      refine gD_ext (by rw [swp_length, hl2, hn]) fun j hj => ?_
      rw [swp_length, hl2] at hj
      rw [swp_getD (by omega)]
      by_cases c1 : n + 1 = j
      · rw [if_pos c1, hgq x (by omega), if_pos hxn, hg x hxn, if_pos rfl]
        subst c1
        rw [nx_val h (by omega), ev]
      · rw [if_neg c1]
        by_cases c2 : x = j
        · rw [if_pos c2, hgq (n + 1) (by omega), if_neg (Nat.lt_irrefl _)]
          subst c2
          rw [nx_val h hx, ex]
        · rw [if_neg c2, hgq j hj, if_pos (by omega), hg j (by omega), if_neg c2]
    have key := inv_swp hinj hxn (by omega)
    rw [hs, inv_max _ _ fun y hy => ?_] at key
    · exact key.symm
    · obtain ⟨i, hi, ei⟩ := List.getElem_of_mem hy
      have := hP.hi i hi
      rw [List.getD_eq_getElem?_getD, List.getElem?_eq_getElem hi] at this
      rw [← ei]
      have h2 : p'[i] < (p'.length : Int) := this
      rw [hl] at h2; omega

theorem parity_cc : ∀ n (p : List Int), IsP p → p.length = n + 1 → (n + 1 - cc p) % 2 = inv p % 2 := by
  intro n
  induction n with
  | zero =>
    intro p h hn
    obtain ⟨x, rfl⟩ := List.length_eq_one_iff.1 hn
    have : cc [x] = 1 := by
      unfold cc
      have : st [x] 0 = true := by unfold st; rw [List.all_eq_true]; intro k _; simp
      simp [this]
    rw [this]; simp [inv]
  | succ n ih =>
    intro p h hn
    have hcl := cc_le p
    by_cases hv : nx p (n + 1) = n + 1
    · obtain ⟨hP, h1, h2⟩ := fix_last h hn hv
      have := ih _ hP (by rw [List.length_take]; omega)
      rw [h1, h2, ← this]; congr 1; omega
    · obtain ⟨p', hP, hl, h1, h2⟩ := pass_last h hn hv
      have := ih _ hP hl
      have hcl' := cc_le p'
      rw [h1, h2]; omega

theorem inj_of {p : List Int} (h : IsP p) : Inj p := fun i j hi hj e => h.inj i j hi hj e
theorem cl_length (p q : List Int) : (compL p q).length = p.length := by simp [compL]
theorem cl_getD {p q : List Int} {k : Nat} (hk : k < p.length) : (compL p q).getD k 0 = q.getD (nx p k) 0 := by
  unfold compL nx
  rw [List.getD_eq_getElem?_getD, List.getElem?_map, List.getElem?_eq_getElem hk, List.getD_eq_getElem?_getD (l := p), List.getElem?_eq_getElem hk]
  rfl
theorem isP_swp {p : List Int} (h : IsP p) {a b : Nat} (ha : a < p.length) (hb : b < p.length) : IsP (swp p a b) := by
  have hl := swp_length p a b
  have hlo := fun j hj => h.lo j hj
  have hhi := fun j hj => h.hi j hj
  refine ⟨by rw [hl]; exact h.pos, by rw [hl]; exact h.le, fun j hj => ?_, fun j hj => ?_, fun i j hi hj e => ?_⟩
  · rw [hl] at hj; rw [swp_getD hj]; split
    · exact h.lo a ha
    · split
      · exact h.lo b hb
      · exact h.lo j hj
  · rw [hl] at hj ⊢; rw [swp_getD hj]; split
    · exact h.hi a ha
    · split
      · exact h.hi b hb
      · exact h.hi j hj
  · rw [hl] at hi hj
    rw [swp_getD hi, swp_getD hj] at e
    have inj := h.inj
    split at e
    · split at e
      · omega
      · split at e
        · have := inj a b ha hb e; omega
        · have := inj a j ha hj e; omega
    · split at e
      · split at e
        · have := inj b a hb ha e; omega
        · split at e
          · omega
          · have := inj b j hb hj e; omega
      · split at e
        · have := inj i a hi ha e; omega
        · split at e
          · have := inj i b hi hb e; omega
          · exact inj i j hi hj e
theorem comp_swp {p q : List Int} (h : IsP p) {a b : Nat} (ha : a < p.length) (hb : b < p.length) : compL (swp p a b) q = swp (compL p q) a b := by
  refine gD_ext (by rw [cl_length, swp_length, swp_length, cl_length]) fun j hj => ?_
  rw [cl_length, swp_length] at hj
  rw [cl_getD (by rw [swp_length]; exact hj), swp_getD (by rw [cl_length]; exact hj), cl_getD ha, cl_getD hb, cl_getD hj]
  unfold nx
  rw [swp_getD hj]
  split
  · rfl
  · split <;> rfl

/-- Parities add up. -/
theorem parity_comp {q : List Int} (hq : IsP q) : ∀ m (p : List Int), IsP p → p.length = q.length → m ≤ p.length → (∀ i, m ≤ i → i < p.length → nx p i = i) → inv (compL p q) % 2 = (inv p + inv q) % 2 := by
  intro m
  induction m with
  | zero =>
    intro p hp hl _ hf
    have e : compL p q = q := gD_ext (by rw [cl_length, hl]) fun j hj => by
      rw [cl_length] at hj; rw [cl_getD hj, hf j (by omega) hj]
    have e0 : ∀ k, ∀ l : List Int, l.length = k → (∀ i, i < l.length → l.getD i 0 = (i : Int)) → inv l = 0 := by
      intro k
      induction k with
      | zero => intro l hl _; rw [List.eq_nil_of_length_eq_zero hl]; rfl
      | succ k ih =>
        intro l hl' hi
        have e1 : l = l.take k ++ [(k : Int)] := by
          refine gD_ext (by simp; omega) fun j hj => ?_
          by_cases c : j < k
          · rw [List.getD_eq_getElem?_getD (l := l.take k ++ _), List.getElem?_append_left (by rw [List.length_take]; omega), ← List.getD_eq_getElem?_getD, gD_take c]
          · have : j = k := by omega
            subst this
            rw [hi j hj, List.getD_eq_getElem?_getD, List.getElem?_append_right (by rw [List.length_take]; omega), List.length_take, show j - min j l.length = 0 from by omega]; rfl
        have hi2 : ∀ i, i < (l.take k).length → (l.take k).getD i 0 = (i : Int) := fun i hh => by
          rw [List.length_take] at hh; rw [gD_take (by omega), hi i (by omega)]
        rw [e1, inv_max _ _ fun y hy => ?_]
        · exact ih _ (by rw [List.length_take]; omega) hi2
        · obtain ⟨i, hh, ei⟩ := List.getElem_of_mem hy
          have := hi2 i hh
          rw [List.getD_eq_getElem?_getD, List.getElem?_eq_getElem hh] at this
          rw [← ei]
          have h2 : (l.take k)[i] = (i : Int) := this
          rw [h2]; rw [List.length_take] at hh; omega
    rw [e, e0 p.length p rfl fun i hi => by rw [nx_val hp hi, hf i (by omega) hi], Nat.zero_add]
  | succ m ih =>
    intro p hp hl hm hf
    by_cases hv : nx p m = m
    · exact ih p hp hl (by omega) fun i h1 h2 => by
        by_cases c : i = m
        · subst c; exact hv
        · exact hf i (by omega) h2
    · obtain ⟨x, hx, ex⟩ := surj hp (j := m) (by omega)
      have hxm : x < m := by
        rcases Nat.lt_or_ge x m with c | c
        · exact c
        · rcases Nat.lt_or_ge m x with c2 | c2
          · have := hf x (by omega) hx; omega
          · have : x = m := by omega
            rw [this] at ex; exact absurd ex hv
      have hsw := isP_swp hp hx (b := m) (by omega)
      have e1 := ih (swp p x m) hsw (by rw [swp_length]; exact hl) (by rw [swp_length]; omega) fun i h1 h2 => by
        rw [swp_length] at h2
        unfold nx
        rw [swp_getD h2]
        by_cases c : m = i
        · subst c; rw [if_pos rfl]; exact ex
        · rw [if_neg c, if_neg (by omega)]; exact hf i (by omega) h2
      have e2 := inv_swp (inj_of hp) hxm (by omega)
      have hci : Inj (compL p q) := fun i j hi hj e => by
        rw [cl_length] at hi hj
        rw [cl_getD hi, cl_getD hj] at e
        exact nx_inj hp hi hj (hq.inj _ _ (by rw [← hl]; exact nx_lt hp hi) (by rw [← hl]; exact nx_lt hp hj) e)
      have e3 := inv_swp hci hxm (by rw [cl_length]; omega)
      rw [comp_swp hp hx (by omega)] at e1
      omega

theorem sgn_comp {p q : List Int} (hp : IsP p) (hq : IsP q) (hl : p.length = q.length) (hc : IsP (compL p q)) : sgn (compL p q) = sgn p * sgn q := by
  have h1 := parity_comp hq p.length p hp hl (Nat.le_refl _) fun i h1 h2 => by omega
  have key : ∀ r : List Int, IsP r → sgn r = if inv r % 2 = 0 then 1 else -1 := fun r hr => by
    unfold sgn
    have := hr.pos
    rw [cc_eq, show r.length = (r.length - 1) + 1 from by omega, parity_cc (r.length - 1) r hr (by omega)]
  rw [key _ hp, key _ hq, key _ hc, h1]
  rcases Nat.mod_two_eq_zero_or_one (inv p) with a | a <;> rcases Nat.mod_two_eq_zero_or_one (inv q) with b | b
  · rw [show (inv p + inv q) % 2 = 0 from by omega, a, b]; rfl
  · rw [show (inv p + inv q) % 2 = 1 from by omega, a, b]; rfl
  · rw [show (inv p + inv q) % 2 = 1 from by omega, a, b]; rfl
  · rw [show (inv p + inv q) % 2 = 0 from by omega, a, b]; rfl
end Go.Proofs.Ytopaeojcpidfgaa
