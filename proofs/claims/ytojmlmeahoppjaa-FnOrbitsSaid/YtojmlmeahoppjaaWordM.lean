/- The search for the first word from a point to a point: points with words, in the order of discovery. No Go in it. No condition. -/
import Derived.Test.YtojmlmeahoppjaaOrM
import Derived.Test.YtojmlmeahoppjaaInvG
namespace Go.Proofs.Ytojmlmeahoppjaa

/-- A letter and the map that it stands for. -/
abbrev Stp := Int × List Int
abbrev Arr := Nat × List Int
def ar0 : Arr := (0, [])
/-- The steps of the first k generators, in the order of letters. -/
def stps (gs : List (List Int)) : Nat → List Stp
  | 0 => []
  | k + 1 => stps gs k ++ [((k : Int) + 1, gs.getD k []), (-((k : Int) + 1), invL (gs.getD k []) (gs.getD k []).length)]
theorem stps_len (gs : List (List Int)) (k : Nat) : (stps gs k).length = 2 * k := by
  induction k with
  | zero => rfl
  | succ k ih => rw [stps, List.length_append, ih]; simp; omega
theorem stps_even {gs : List (List Int)} {k j : Nat} (h : j < k) : (stps gs k).getD (2 * j) (0, []) = ((j : Int) + 1, gs.getD j []) := by
  induction k with
  | zero => omega
  | succ k ih =>
    rw [stps, List.getD_eq_getElem?_getD]
    by_cases e : j = k
    · subst e
      rw [List.getElem?_append_right (by rw [stps_len]; exact Nat.le_refl _), stps_len, Nat.sub_self]; rfl
    · rw [List.getElem?_append_left (by rw [stps_len]; omega), ← List.getD_eq_getElem?_getD, ih (by omega)]
theorem stps_odd {gs : List (List Int)} {k j : Nat} (h : j < k) : (stps gs k).getD (2 * j + 1) (0, []) = (-((j : Int) + 1), invL (gs.getD j []) (gs.getD j []).length) := by
  induction k with
  | zero => omega
  | succ k ih =>
    rw [stps, List.getD_eq_getElem?_getD]
    by_cases e : j = k
    · subst e
      rw [List.getElem?_append_right (by rw [stps_len]; omega), stps_len, show 2 * j + 1 - 2 * j = 1 from by omega]; rfl
    · rw [List.getElem?_append_left (by rw [stps_len]; omega), ← List.getD_eq_getElem?_getD, ih (by omega)]

/-- The points of arrivals. -/
def pts (f : List Arr) : List Nat := f.map (·.1)
def mvs (s : List Stp) : List (List Int) := s.map (·.2)
def addA (f : List Arr) (v : Nat) (w : List Int) : List Arr := if v ∈ pts f then f else f ++ [(v, w)]
def expA (s : List Stp) (u : Nat) (w : List Int) (f : List Arr) : List Arr := s.foldl (fun f t => addA f (nx t.2 u) (w ++ [t.1])) f
def expAk (s : List Stp) (k u : Nat) (w : List Int) (f : List Arr) : List Arr := expA (s.take k) u w f
/-- The search: at i, what was found is f. -/
def bfw (s : List Stp) (y : Nat) : Nat → Nat → List Arr → Option (List Int)
  | 0, _, _ => none
  | fuel + 1, i, f => if i < f.length then (if (f.getD i ar0).1 = y then some (f.getD i ar0).2 else bfw s y fuel (i + 1) (expA s (f.getD i ar0).1 (f.getD i ar0).2 f)) else none

theorem pts_addA (f : List Arr) (v : Nat) (w : List Int) : pts (addA f v w) = addN (pts f) v := by
  unfold addA addN
  by_cases h : v ∈ pts f
  · rw [if_pos h, if_pos h]
  · rw [if_neg h, if_neg h]; simp [pts]
theorem pts_expA (s : List Stp) (u : Nat) (w : List Int) : ∀ f, pts (expA s u w f) = expd (mvs s) u (pts f) := by
  unfold expA expd mvs
  induction s with
  | nil => intro f; rfl
  | cons t s ih => intro f; rw [List.foldl_cons, ih, pts_addA, List.map_cons, List.foldl_cons]
theorem pts_len (f : List Arr) : (pts f).length = f.length := by simp [pts]
theorem pts_getD (f : List Arr) (i : Nat) : (pts f).getD i 0 = (f.getD i ar0).1 := by
  unfold pts
  rw [List.getD_eq_getElem?_getD, List.getD_eq_getElem?_getD, List.getElem?_map]
  rcases f[i]? with _ | a <;> rfl
theorem expAk_zero {s : List Stp} {u : Nat} {w : List Int} {f : List Arr} : expAk s 0 u w f = f := rfl
theorem expAk_succ {s : List Stp} {k u : Nat} {w : List Int} {f : List Arr} {t : Stp} (hk : k < s.length) (et : s.getD k (0, []) = t) : expAk s (k + 1) u w f = addA (expAk s k u w f) (nx t.2 u) (w ++ [t.1]) := by
  rw [List.getD_eq_getElem?_getD, List.getElem?_eq_getElem hk] at et
  have e' : s[k] = t := et
  unfold expAk expA
  rw [List.take_succ_eq_append_getElem hk, List.foldl_append, e']; rfl
theorem expAk_all {s : List Stp} {u : Nat} {w : List Int} {f : List Arr} : expAk s s.length u w f = expA s u w f := by rw [expAk, List.take_length]
theorem addA_pre (f : List Arr) (v : Nat) (w : List Int) : ∃ t, addA f v w = f ++ t := by
  unfold addA; split
  · exact ⟨[], by simp⟩
  · exact ⟨_, rfl⟩
theorem expA_pre (s : List Stp) (u : Nat) (w : List Int) : ∀ f, ∃ t, expA s u w f = f ++ t := by
  unfold expA
  induction s with
  | nil => intro f; exact ⟨[], by simp⟩
  | cons a s ih =>
    intro f
    obtain ⟨t, e⟩ := addA_pre f (nx a.2 u) (w ++ [a.1])
    obtain ⟨t', e'⟩ := ih (addA f (nx a.2 u) (w ++ [a.1]))
    exact ⟨t ++ t', by rw [List.foldl_cons, e', e, List.append_assoc]⟩

/-- The point to which a word of these steps leads. -/
inductive Led (s : List Stp) (x : Nat) : List Int → Nat → Prop
  | refl : Led s x [] x
  | step {w : List Int} {u : Nat} {t : Stp} : Led s x w u → t ∈ s → Led s x (w ++ [t.1]) (nx t.2 u)

/-- What the search holds of its list: the points as the search of orbits has them; each word leads to its point and is no longer than its place. -/
structure Fw (s : List Stp) (N x : Nat) (f : List Arr) : Prop where
  fd : Fd (mvs s) N x (pts f)
  led : ∀ i, i < f.length → Led s x (f.getD i ar0).2 (f.getD i ar0).1
  len : ∀ i, i < f.length → (f.getD i ar0).2.length ≤ i
theorem getD_snocA (f : List Arr) (a : Arr) (i : Nat) (h : i = f.length) : (f ++ [a]).getD i ar0 = a := by
  subst h; rw [List.getD_eq_getElem?_getD, List.getElem?_append_right (Nat.le_refl _), Nat.sub_self]; rfl
theorem getD_appA (f g : List Arr) (i : Nat) (h : i < f.length) : (f ++ g).getD i ar0 = f.getD i ar0 := by
  rw [List.getD_eq_getElem?_getD, List.getElem?_append_left h, ← List.getD_eq_getElem?_getD]
section
variable {s : List Stp} {N x : Nat} {f : List Arr}
theorem Fw.size (h : Fw s N x f) : f.length ≤ N := by rw [← pts_len]; exact h.fd.len
theorem Fw.pos (h : Fw s N x f) : 0 < f.length := by rw [← pts_len]; exact h.fd.pos
theorem Fw.one (hx : x < N) : Fw s N x [(x, [])] := ⟨Fd.one hx, fun i hi => by
  obtain rfl : i = 0 := by simpa using hi
  exact .refl, fun i hi => by
  obtain rfl : i = 0 := by simpa using hi
  exact Nat.le_refl _⟩
theorem Fw.lt (h : Fw s N x f) {i : Nat} (hi : i < f.length) : (f.getD i ar0).1 < N := by
  rw [← pts_getD]; exact h.fd.lt _ (getD_memN (by rw [pts_len]; exact hi))
theorem Fw.add (hp : PMs N (mvs s)) (h : Fw s N x f) {i : Nat} (hi : i < f.length) {t : Stp} (ht : t ∈ s) : Fw s N x (addA f (nx t.2 (f.getD i ar0).1) ((f.getD i ar0).2 ++ [t.1])) := by
  have hm : t.2 ∈ mvs s := List.mem_map.2 ⟨t, ht, rfl⟩
  have hv := (hp _ hm).nx_lt (h.lt hi)
  have hr : Rch (mvs s) x (nx t.2 (f.getD i ar0).1) := by
    refine Rch.step ?_ hm
    have := h.fd.rch _ (getD_memN (l := pts f) (i := i) (by rw [pts_len]; exact hi))
    rwa [pts_getD] at this
  refine ⟨by rw [pts_addA]; exact h.fd.add hv hr, ?_, ?_⟩
  · intro j hj
    unfold addA at hj ⊢
    by_cases hc : nx t.2 (f.getD i ar0).1 ∈ pts f
    · rw [if_pos hc] at hj ⊢; exact h.led j hj
    · rw [if_neg hc] at hj ⊢
      rw [List.length_append] at hj
      by_cases e : j < f.length
      · rw [getD_appA _ _ _ e]; exact h.led j e
      · rw [getD_snocA _ _ _ (by simp at hj; omega)]; exact (h.led i hi).step ht
  · intro j hj
    unfold addA at hj ⊢
    by_cases hc : nx t.2 (f.getD i ar0).1 ∈ pts f
    · rw [if_pos hc] at hj ⊢; exact h.len j hj
    · rw [if_neg hc] at hj ⊢
      rw [List.length_append] at hj
      by_cases e : j < f.length
      · rw [getD_appA _ _ _ e]; exact h.len j e
      · have e2 : j = f.length := by simp at hj; omega
        rw [getD_snocA _ _ _ e2, List.length_append]
        have h9 := h.len i hi
        rw [List.length_singleton]; omega
theorem Fw.fold (hp : PMs N (mvs s)) {i : Nat} {a : Arr} : ∀ (l : List Stp), (∀ t ∈ l, t ∈ s) → ∀ f, Fw s N x f → i < f.length → f.getD i ar0 = a → Fw s N x (expA l a.1 a.2 f)
  | [], _, f, h, _, _ => h
  | t :: l, hl, f, h, hi, ha => by
    unfold expA
    rw [List.foldl_cons]
    obtain ⟨g, e⟩ := addA_pre f (nx t.2 a.1) (a.2 ++ [t.1])
    have h2 := h.add hp hi (hl t (by simp))
    rw [ha] at h2
    refine Fw.fold (i := i) hp l (fun t' ht' => hl t' (by simp [ht'])) _ h2 ?_ ?_
    · rw [e, List.length_append]; omega
    · rw [e, getD_appA _ _ _ hi]; exact ha
theorem Fw.expk (hp : PMs N (mvs s)) (h : Fw s N x f) {i : Nat} (hi : i < f.length) (k : Nat) : Fw s N x (expAk s k (f.getD i ar0).1 (f.getD i ar0).2 f) :=
  Fw.fold hp (s.take k) (fun t ht => List.mem_of_mem_take ht) f h hi rfl
theorem bfw_go {y i : Nat} (hi : i < f.length) (hl : f.length ≤ N) (hy : ¬ (f.getD i ar0).1 = y) : bfw s y (N + 1 - i) i f = bfw s y (N + 1 - (i + 1)) (i + 1) (expA s (f.getD i ar0).1 (f.getD i ar0).2 f) := by
  obtain ⟨k, hk⟩ : ∃ k, N + 1 - i = k + 1 := ⟨N - i, by omega⟩
  have hk' : N + 1 - (i + 1) = k := by omega
  rw [hk, hk', bfw, if_pos hi, if_neg hy]
theorem bfw_found {y i : Nat} (hi : i < f.length) (hl : f.length ≤ N) (hy : (f.getD i ar0).1 = y) : bfw s y (N + 1 - i) i f = some (f.getD i ar0).2 := by
  obtain ⟨k, hk⟩ : ∃ k, N + 1 - i = k + 1 := ⟨N - i, by omega⟩
  rw [hk, bfw, if_pos hi, if_pos hy]
theorem bfw_end {y i : Nat} (hi : f.length ≤ i) : bfw s y (N + 1 - i) i f = none := by
  cases N + 1 - i with
  | zero => rfl
  | succ k => rw [bfw, if_neg (by omega)]
/-- Whoever is found is found by a word that leads there; nothing is found only where the points do not hold the goal. -/
theorem bfw_spec (hp : PMs N (mvs s)) {y : Nat} : ∀ (fuel i : Nat) (f : List Arr), Fw s N x f → Cl (mvs s) i (pts f) → i ≤ f.length → N + 1 ≤ fuel + i → (∀ j, j < i → (f.getD j ar0).1 ≠ y) →
    (∃ w, bfw s y fuel i f = some w ∧ Led s x w y ∧ w.length ≤ N) ∨ (bfw s y fuel i f = none ∧ ¬ Rch (mvs s) x y)
  | 0, i, f, h, c, hi, hf, hn => by have := h.size; omega
  | fuel + 1, i, f, h, c, hi, hf, hn => by
    rw [bfw]
    by_cases hlt : i < f.length
    · rw [if_pos hlt]
      by_cases hy : (f.getD i ar0).1 = y
      · rw [if_pos hy]
        refine .inl ⟨_, rfl, by rw [← hy]; exact h.led i hlt, ?_⟩
        have := h.len i hlt; have := h.size; omega
      · rw [if_neg hy]
        have h2 : Fw s N x (expA s (f.getD i ar0).1 (f.getD i ar0).2 f) := Fw.fold hp s (fun _ h => h) f h hlt rfl
        obtain ⟨g, e⟩ := expA_pre s (f.getD i ar0).1 (f.getD i ar0).2 f
        refine bfw_spec hp fuel (i + 1) _ h2 ?_ ?_ (by omega) ?_
        · rw [pts_expA, ← pts_getD]
          exact c.exp (by rw [pts_len]; exact hlt)
        · rw [e, List.length_append]; omega
        · intro j hj
          rw [e, getD_appA _ _ _ (by omega)]
          by_cases e2 : j = i
          · subst e2; exact hy
          · exact hn j (by omega)
    · rw [if_neg hlt]
      obtain rfl : i = f.length := by omega
      refine .inr ⟨rfl, fun hr => ?_⟩
      have hmem : ∀ z, Rch (mvs s) x z → z ∈ pts f := by
        intro z hz
        induction hz with
        | refl =>
          obtain ⟨t, e⟩ := h.fd.pre
          rw [e]; simp
        | step hu hg ih =>
          obtain ⟨j, hj, e⟩ := List.mem_iff_getElem.1 ih
          have := c j (by rw [pts_len] at hj; exact hj) _ hg
          rw [List.getD_eq_getElem?_getD, List.getElem?_eq_getElem hj] at this
          simpa [e] using this
      obtain ⟨j, hj, e⟩ := List.mem_iff_getElem.1 (hmem y hr)
      rw [pts_len] at hj
      refine hn j hj ?_
      rw [← pts_getD, List.getD_eq_getElem?_getD, List.getElem?_eq_getElem (by rw [pts_len]; exact hj)]
      simpa using e
end
/-- What the search from x to y finds. -/
def wrd (s : List Stp) (N x y : Nat) : Option (List Int) := bfw s y (N + 1) 0 [(x, [])]
theorem wrd_spec {s : List Stp} {N x y : Nat} (hp : PMs N (mvs s)) (hx : x < N) : (∃ w, wrd s N x y = some w ∧ Led s x w y ∧ w.length ≤ N) ∨ (wrd s N x y = none ∧ ¬ Rch (mvs s) x y) :=
  bfw_spec hp (N + 1) 0 [(x, [])] (Fw.one hx) (fun j hj => absurd hj (by omega)) (Nat.zero_le _) (by omega) (fun j hj => absurd hj (by omega))
end Go.Proofs.Ytojmlmeahoppjaa
