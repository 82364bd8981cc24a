/- Plain facts on cycle types: the lengths of all cycles, in descending order. No Go in it. No condition. -/
import Derived.Test.YtplgdbkolklgnaaDoorAll
namespace Go.Proofs.YtplgdbkolklgnaaDoor

def lens (p : List Int) : List Nat := (cycs p).map List.length
/-- Those of the numbers that are at most n, and at least 1, in descending order. -/
def desc : Nat → List Nat → List Int
  | 0, _ => []
  | n + 1, l => List.replicate (l.count (n + 1)) (((n + 1 : Nat) : Int)) ++ desc n l
def ctype (p : List Int) : List Int := desc p.length (lens p)
def ctypeL (p : List Int) : List Int := if isP p = true then ctype p else []
theorem desc_count (n : Nat) (l : List Nat) (x : Int) : (desc n l).count x = if 1 ≤ x ∧ x ≤ n then l.count x.toNat else 0 := by
  induction n with
  | zero => rw [if_neg (by omega)]; rfl
  | succ n ih =>
    rw [desc, List.count_append, ih, List.count_replicate]
    by_cases e : x = ((n + 1 : Nat) : Int)
    · subst e
      rw [if_pos (by simp), if_neg (by omega), if_pos (by omega)]; simp
    · rw [if_neg (by simpa using Ne.symm e)]
      by_cases h : 1 ≤ x ∧ x ≤ n
      · rw [if_pos h, if_pos (by omega)]; omega
      · rw [if_neg h, if_neg (by omega)]
theorem desc_mem (n : Nat) (l : List Nat) {x : Int} (h : x ∈ desc n l) : 1 ≤ x ∧ x ≤ n := by
  have := List.count_pos_iff.2 h
  rw [desc_count] at this
  split at this
  · assumption
  · omega
theorem desc_sorted (n : Nat) (l : List Nat) : (desc n l).Pairwise fun a b => b ≤ a := by
  induction n with
  | zero => exact List.Pairwise.nil
  | succ n ih =>
    rw [desc, List.pairwise_append]
    refine ⟨List.pairwise_replicate.2 (.inr (Int.le_refl _)), ih, fun a ha b hb => ?_⟩
    rw [List.mem_replicate] at ha
    have := desc_mem n l hb
    omega
theorem sort_desc (n : Nat) (l : List Nat) (h : ∀ x ∈ l, 1 ≤ x ∧ x ≤ n) : ((l.map Int.ofNat).mergeSort fun x y => decide (x ≤ y)).reverse = desc n l := by
  apply List.Perm.eq_of_pairwise (le := fun (a b : Int) => b ≤ a)
  · intro a b _ _ h1 h2; omega
  · rw [List.pairwise_reverse]
    have := List.pairwise_mergeSort (le := fun (x y : Int) => decide (x ≤ y)) (fun a b c h1 h2 => by simp at *; omega) (fun a b => by simp; omega) (l.map Int.ofNat)
    exact this.imp fun h => by simpa using h
  · exact desc_sorted n l
  · refine (List.reverse_perm _).trans ((List.mergeSort_perm _ _).trans ?_)
    rw [List.perm_iff_count]
    intro x
    rw [desc_count]
    by_cases hx : 0 ≤ x
    · have e1 : (l.map Int.ofNat).count x = l.count x.toNat := by
        clear h
        induction l with
        | nil => rfl
        | cons a t ih =>
          rw [List.map_cons, List.count_cons, List.count_cons, ih]
          by_cases e : a = x.toNat
          · have e2 : Int.ofNat a = x := by rw [e]; simp; omega
            rw [if_pos (by simpa using e2), if_pos (by simpa using e)]
          · have e2 : Int.ofNat a ≠ x := by intro e3; apply e; rw [← e3]; rfl
            have : ¬ ((a : Int) = x) := e2
            simp [e, this]
      rw [e1]
      split
      · rfl
      · rename_i hn
        rw [List.count_eq_zero]
        intro hm
        have := h _ hm
        omega
    · rw [if_neg (by omega), List.count_eq_zero]
      intro hm
      rw [List.mem_map] at hm
      obtain ⟨a, _, e⟩ := hm
      have : (a : Int) = x := e
      omega
theorem lens_heads (p : List Int) : lens p = (heads p p.length).map (per p) := by
  unfold lens; rw [cycs_heads, List.map_map]; congr 1; funext x; simp [cyc_length]
theorem lens_mem {p : List Int} (h : IsP p) : ∀ x ∈ lens p, 1 ≤ x ∧ x ≤ p.length := by
  intro x hx
  rw [lens_heads, List.mem_map] at hx
  obtain ⟨a, ha, rfl⟩ := hx
  have ha' : a < p.length := List.mem_range.1 (List.mem_filter.1 ha).1
  have := per_spec h ha'
  exact ⟨this.1, this.2.1⟩
theorem ctype_sort {p : List Int} (h : IsP p) : (((lens p).map Int.ofNat).mergeSort fun x y => decide (x ≤ y)).reverse = ctype p := sort_desc _ _ (lens_mem h)
theorem lens_len (p : List Int) : (lens p).length = (cycs p).length := by simp [lens]
theorem cycs_pos {p : List Int} (h : IsP p) : 1 ≤ (cycs p).length := by
  obtain ⟨c, j, hc, hs, _⟩ := min_ex h (x := 0) (by have := h.pos; omega)
  rw [cycs_heads, List.length_map]
  have : c ∈ heads p p.length := List.mem_filter.2 ⟨List.mem_range.2 hc, hs⟩
  cases e : heads p p.length with
  | nil => rw [e] at this; cases this
  | cons => simp
theorem ctype_len {p : List Int} (h : IsP p) : (ctype p).length = (cycs p).length := by rw [← ctype_sort h, List.length_reverse, List.length_mergeSort, List.length_map, lens_len]
/-- The lengths of the first k cycles. -/
def lensI (p : List Int) (k : Nat) : List Int := ((lens p).take k).map Int.ofNat
theorem lensI_succ {p : List Int} {k l : Nat} (hk : k < (lens p).length) (e : (lens p)[k] = l) : lensI p (k + 1) = lensI p k ++ [(l : Int)] := by
  unfold lensI; rw [List.take_succ_eq_append_getElem hk, List.map_append, e]; rfl
theorem count_take {l : List Nat} {k x y : Nat} (hk : k < l.length) (e : l[k] = y) : (l.take (k + 1)).count x = (l.take k).count x + if y = x then 1 else 0 := by
  rw [List.take_succ_eq_append_getElem hk, List.count_append, e, List.count_singleton]
  simp
end Go.Proofs.YtplgdbkolklgnaaDoor
