/- Plain facts: the cycle type tells the degree; a conjugate has the cycle type of the permutation. No Go in it. Condition: the lists are permutations. -/
import Derived.Test.YtplgdbkolklgnaaOrb
import Derived.Test.YtplgdbkolklgnaaTypM
import Derived.Test.YtplgdbkolklgnaaConj
namespace Go.Proofs.Ytplgdbkolklgnaa

/-- The points, cycle by cycle. -/
def flat (p : List Int) : List Nat := (heads p p.length).flatMap fun h => (List.range (per p h)).map fun k => it p k h
theorem flat_perm {p : List Int} (h : IsP p) : (flat p).Perm (List.range p.length) := by
  rw [List.perm_ext_iff_of_nodup]
  · intro x
    unfold flat
    rw [List.mem_flatMap, List.mem_range]
    constructor
    · rintro ⟨c, hc, hx⟩
      rw [List.mem_map] at hx
      obtain ⟨k, _, rfl⟩ := hx
      exact it_lt h (List.mem_range.1 (List.mem_filter.1 hc).1) k
    · intro hx
      obtain ⟨c, j, hc, hst, hj, e⟩ := min_ex h hx
      exact ⟨c, List.mem_filter.2 ⟨List.mem_range.2 hc, hst⟩, List.mem_map.2 ⟨j, List.mem_range.2 hj, e⟩⟩
  · unfold flat List.Nodup
    rw [List.pairwise_flatMap]
    constructor
    · intro c hc
      have hcl := List.mem_range.1 (List.mem_filter.1 hc).1
      rw [List.pairwise_map, List.pairwise_iff_getElem]
      intro i j hi hj hij e
      simp only [List.length_range] at hi hj
      simp only [List.getElem_range] at e
      have h1 := per_spec h hcl
      have e2 : it p i (it p (j - i) c) = it p i c := by rw [← it_add, e]; congr 1; omega
      exact h1.2.2.2 (j - i) (by omega) (by omega) (it_inj h (it_lt h hcl _) hcl i e2)
    · have hnd : (heads p p.length).Nodup := (List.nodup_range).filter _
      refine hnd.imp_of_mem ?_
      intro a b ha hb hab x hx y hy e
      unfold heads at ha hb
      rw [List.mem_filter, List.mem_range] at ha hb
      rw [List.mem_map] at hx hy
      obtain ⟨k, _, rfl⟩ := hx
      obtain ⟨k', _, e'⟩ := hy
      exact hab (head_eq h ha.1 hb.1 ha.2 hb.2 (e.trans e'.symm))
  · exact List.nodup_range
theorem lens_sum {p : List Int} (h : IsP p) : (lens p).sum = p.length := by
  have := (flat_perm h).length_eq
  rw [List.length_range] at this
  rw [← this, lens_heads]
  unfold flat
  rw [List.length_flatMap]
  congr 1
  refine List.map_congr_left fun x _ => ?_
  simp
theorem countP_flatMap' {α β : Type} (f : α → List β) (P : β → Bool) (l : List α) : (l.flatMap f).countP P = (l.map fun a => (f a).countP P).sum := by
  induction l with
  | nil => rfl
  | cons a t ih => rw [List.flatMap_cons, List.countP_append, ih, List.map_cons, List.sum_cons]
/-- How many points have a cycle of length L. -/
theorem per_count {p : List Int} (h : IsP p) (L : Nat) : (List.range p.length).countP (fun i => per p i == L) = L * (lens p).count L := by
  rw [← (flat_perm h).countP_eq]
  unfold flat
  rw [countP_flatMap', lens_heads]
  have hm : ∀ x ∈ heads p p.length, x < p.length := fun x hx => List.mem_range.1 (List.mem_filter.1 hx).1
  generalize heads p p.length = H at hm ⊢
  induction H with
  | nil => rfl
  | cons x t ih =>
    rw [List.map_cons, List.sum_cons, ih fun y hy => hm y (by simp [hy]), List.map_cons, List.count_cons]
    have hx := hm x (by simp)
    have e1 : ((List.range (per p x)).map fun k => it p k x).countP (fun i => per p i == L) = if per p x = L then per p x else 0 := by
      by_cases e : per p x = L
      · rw [if_pos e]
        rw [List.countP_map]
        have : (List.range (per p x)).countP ((fun i => per p i == L) ∘ fun k => it p k x) = (List.range (per p x)).length := by
          rw [List.countP_eq_length]
          intro k _
          simp [per_it h hx k, e]
        rw [this, List.length_range]
      · rw [if_neg e, List.countP_eq_zero]
        intro y hy
        rw [List.mem_map] at hy
        obtain ⟨k, _, rfl⟩ := hy
        simpa [per_it h hx k] using e
    rw [e1]
    by_cases e : per p x = L
    · rw [if_pos e, if_pos (by simpa using e), Nat.mul_add, e]; omega
    · rw [if_neg e, if_neg (by simpa using e), Nat.add_zero, Nat.zero_add]
theorem ctype_of_count {p q : List Int} (hl : p.length = q.length) (h : ∀ L, 1 ≤ L → (lens p).count L = (lens q).count L) : ctype p = ctype q := by
  unfold ctype
  rw [← hl]
  have : ∀ n, desc n (lens p) = desc n (lens q) := by
    intro n
    induction n with
    | zero => rfl
    | succ n ih => rw [desc, desc, ih, h (n + 1) (by omega)]
  exact this _
theorem count_of_ctype {p q : List Int} (hp : IsP p) (hq : IsP q) (h : ctype p = ctype q) (hl : p.length = q.length) (L : Nat) : (lens p).count L = (lens q).count L := by
  by_cases hL : 1 ≤ L ∧ L ≤ p.length
  · have h1 := desc_count p.length (lens p) (L : Int)
    have h2 := desc_count q.length (lens q) (L : Int)
    rw [if_pos (by omega)] at h1
    rw [if_pos (by omega)] at h2
    have e : desc p.length (lens p) = desc q.length (lens q) := h
    rw [e] at h1
    simpa using h1.symm.trans h2
  · rw [List.count_eq_zero.2 fun hm => hL (lens_mem hp _ hm), List.count_eq_zero.2 fun hm => hL (by rw [hl]; exact lens_mem hq _ hm)]
theorem ctype_perm {p : List Int} (h : IsP p) : ((ctype p).map Int.toNat).Perm (lens p) := by
  rw [← ctype_sort h]
  have h1 := ((List.reverse_perm (((lens p).map Int.ofNat).mergeSort fun x y => decide (x ≤ y))).trans (List.mergeSort_perm _ _)).map Int.toNat
  rw [List.map_map] at h1
  have e : (lens p).map (Int.toNat ∘ Int.ofNat) = lens p := by
    conv => rhs; rw [← List.map_id (lens p)]
    rfl
  rw [e] at h1
  exact h1
theorem ctype_deg {p q : List Int} (hp : IsP p) (hq : IsP q) (h : ctype p = ctype q) : p.length = q.length := by
  rw [← lens_sum hp, ← lens_sum hq, ← (ctype_perm hp).sum_nat, ← (ctype_perm hq).sum_nat, h]

section
variable {p x : List Int}
theorem conj_length (hl : p.length = x.length) : (conjP p x).length = p.length := by
  unfold conjP; rw [compL_length, compL_length, invL_length]; exact hl.symm
theorem isP_conj (hp : IsP p) (hx : IsP x) (hl : p.length = x.length) : IsP (conjP p x) :=
  isP_comp (isP_comp (isP_inv hx) hp ((invL_length _ _).trans hl.symm)) hx (by rw [compL_length, invL_length])
/-- A conjugate moves x's image of i to x's image of p's image of i. -/
theorem conj_nx (hp : IsP p) (hx : IsP x) (hl : p.length = x.length) {i : Nat} (hi : i < p.length) : nx (conjP p x) (nx x i) = nx x (nx p i) := by
  have hxi : nx x i < x.length := nx_lt hx (by omega)
  unfold conjP
  rw [nx_comp (by rw [compL_length, invL_length]; exact hxi), nx_comp (by rw [invL_length]; exact hxi)]
  have : nx (invL x x.length) (nx x i) = i := by
    have := invL_at hx x.length (Nat.le_refl _) i (by omega)
    unfold nx at this ⊢
    omega
  rw [this]
theorem conj_it (hp : IsP p) (hx : IsP x) (hl : p.length = x.length) {i : Nat} (hi : i < p.length) (k : Nat) : it (conjP p x) k (nx x i) = nx x (it p k i) := by
  induction k with
  | zero => rfl
  | succ k ih => show nx (conjP p x) (it (conjP p x) k (nx x i)) = nx x (nx p (it p k i)); rw [ih, conj_nx hp hx hl (it_lt hp hi k)]
end
/-- The period is the one number at which the point comes back first. -/
theorem per_uniq {p : List Int} (h : IsP p) {x m : Nat} (hx : x < p.length) (h1 : 1 ≤ m) (hm : it p m x = x) (h2 : ∀ k, 1 ≤ k → k < m → it p k x ≠ x) : per p x = m := by
  have hs := per_spec h hx
  rcases Nat.lt_trichotomy (per p x) m with e | e | e
  · exact absurd hs.2.2.1 (h2 _ hs.1 e)
  · exact e
  · exact absurd hm (hs.2.2.2 m h1 e)
theorem conj_per {p x : List Int} (hp : IsP p) (hx : IsP x) (hl : p.length = x.length) {i : Nat} (hi : i < p.length) : per (conjP p x) (nx x i) = per p i := by
  have hs := per_spec hp hi
  refine per_uniq (isP_conj hp hx hl) (by rw [conj_length hl, hl]; exact nx_lt hx (by omega)) hs.1 ?_ ?_
  · rw [conj_it hp hx hl hi, hs.2.2.1]
  · intro k h1 h2 e
    rw [conj_it hp hx hl hi] at e
    exact hs.2.2.2 k h1 h2 (nx_inj hx (by rw [← hl]; exact it_lt hp hi k) (by omega) e)
theorem map_nx_perm {x : List Int} (hx : IsP x) : ((List.range x.length).map (nx x)).Perm (List.range x.length) := by
  rw [List.perm_ext_iff_of_nodup]
  · intro y
    rw [List.mem_map, List.mem_range]
    constructor
    · rintro ⟨i, hi, rfl⟩; exact nx_lt hx (List.mem_range.1 hi)
    · intro hy
      obtain ⟨i, hi, e⟩ := surj hx hy
      exact ⟨i, List.mem_range.2 hi, e⟩
  · unfold List.Nodup
    rw [List.pairwise_map]
    refine (List.nodup_range (n := x.length)).imp_of_mem ?_
    intro a b ha hb hab e
    exact hab (nx_inj hx (List.mem_range.1 ha) (List.mem_range.1 hb) e)
  · exact List.nodup_range
theorem ctype_conj {p x : List Int} (hp : IsP p) (hx : IsP x) (hl : p.length = x.length) : ctype (conjP p x) = ctype p := by
  have hc := isP_conj hp hx hl
  refine ctype_of_count (conj_length hl) fun L hL => ?_
  have h1 := per_count hc L
  have h2 := per_count hp L
  rw [conj_length hl] at h1
  have h3 : (List.range p.length).countP (fun i => per (conjP p x) i == L) = (List.range p.length).countP (fun i => per p i == L) := by
    have := map_nx_perm hx
    rw [← hl] at this
    rw [← this.countP_eq, List.countP_map]
    refine List.countP_congr fun i hi => ?_
    rw [List.mem_range] at hi
    simp [conj_per hp hx hl hi]
  rw [h1, h2] at h3
  exact Nat.eq_of_mul_eq_mul_left (by omega) h3

/-- Are p and q permutations of one cycle type? -/
def sameType (p q : List Int) : Bool := sameD p q && decide (ctype p = ctype q)
end Go.Proofs.Ytplgdbkolklgnaa
