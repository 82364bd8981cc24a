/- Plain facts: the parity of the inversions of a list; it is the parity of the degree less the number of cycles; it adds up under composition. No Go in it. No condition. -/
import Derived.Test.YtopaeojcpidfgaaMath
namespace Go.Proofs.Ytopaeojcpidfgaa

/-- Inversions. -/
def inv : List Int → Nat
  | [] => 0
  | x :: l => l.countP (fun y => decide (y < x)) + inv l

theorem inv_adj (l1 l2 : List Int) {x y : Int} (h : x ≠ y) : (inv (l1 ++ x :: y :: l2) + 1) % 2 = inv (l1 ++ y :: x :: l2) % 2 := by
  induction l1 with
  | nil =>
    simp only [List.nil_append, inv, List.countP_cons, decide_eq_true_eq]
    by_cases h1 : y < x
    · rw [if_pos h1, if_neg (by omega)]; omega
    · rw [if_neg h1, if_pos (by omega)]; omega
  | cons a t ih =>
    simp only [List.cons_append, inv]
    have e : (t ++ x :: y :: l2).countP (fun z => decide (z < a)) = (t ++ y :: x :: l2).countP (fun z => decide (z < a)) := by
      simp only [List.countP_append, List.countP_cons]; omega
    rw [e]; omega
theorem inv_far (m : List Int) : ∀ (l1 l2 : List Int) {x y : Int}, x ≠ y → x ∉ m → y ∉ m → (inv (l1 ++ x :: (m ++ y :: l2)) + 1) % 2 = inv (l1 ++ y :: (m ++ x :: l2)) % 2 := by
  induction m with
  | nil => intro l1 l2 x y h _ _; exact inv_adj l1 l2 h
  | cons z m ih =>
    intro l1 l2 x y h hx hy
    have hxz : x ≠ z := fun e => hx (by simp [e])
    have hyz : z ≠ y := fun e => hy (by simp [e])
    have e1 := inv_adj l1 (m ++ y :: l2) hxz
    have e2 := ih (l1 ++ [z]) l2 h (fun e => hx (by simp [e])) (fun e => hy (by simp [e]))
    have e3 := inv_adj l1 (m ++ x :: l2) hyz
    simp only [List.append_assoc, List.cons_append, List.nil_append] at e1 e2 e3 ⊢
    omega
theorem inv_max (l : List Int) (z : Int) (h : ∀ x ∈ l, x < z) : inv (l ++ [z]) = inv l := by
  induction l with
  | nil => rfl
  | cons a t ih =>
    simp only [List.cons_append, inv, List.countP_append, List.countP_cons, List.countP_nil]
    rw [ih fun x hx => h x (by simp [hx])]
    have := h a (by simp)
    rw [if_neg (by simp; omega)]; omega

/-- The entries at a and b exchanged. -/
def swp (p : List Int) (a b : Nat) : List Int := (p.set a (p.getD b 0)).set b (p.getD a 0)
theorem swp_length (p : List Int) (a b : Nat) : (swp p a b).length = p.length := by simp [swp]
theorem gD_set {xs : List Int} {i j : Nat} (hj : j < xs.length) (u : Int) : (xs.set i u).getD j 0 = if i = j then u else xs.getD j 0 := by
  rw [List.getD_eq_getElem?_getD, List.getElem?_set]
  by_cases e : i = j
  · subst e; rw [if_pos rfl, if_pos hj, if_pos rfl]; rfl
  · rw [if_neg e, if_neg e, ← List.getD_eq_getElem?_getD]
theorem swp_getD {p : List Int} {a b j : Nat} (hj : j < p.length) : (swp p a b).getD j 0 = if b = j then p.getD a 0 else if a = j then p.getD b 0 else p.getD j 0 := by
  unfold swp
  rw [gD_set (by simpa using hj), gD_set hj]

theorem gD_ext {xs ys : List Int} (hl : xs.length = ys.length) (h : ∀ j, j < xs.length → xs.getD j 0 = ys.getD j 0) : xs = ys := by
  apply List.ext_getElem hl
  intro i h1 h2
  have := h i h1
  simp only [List.getD_eq_getElem?_getD, List.getElem?_eq_getElem h1, List.getElem?_eq_getElem h2, Option.getD_some] at this
  exact this
theorem split_at (p : List Int) (a : Nat) (h : a < p.length) : p = p.take a ++ p.getD a 0 :: p.drop (a + 1) := by
  have : p.getD a 0 = p[a] := by rw [List.getD_eq_getElem?_getD, List.getElem?_eq_getElem h]; rfl
  rw [this, ← List.drop_eq_getElem_cons h, List.take_append_drop]

/-- Different entries. -/
def Inj (p : List Int) : Prop := ∀ i j, i < p.length → j < p.length → p.getD i 0 = p.getD j 0 → i = j
theorem inv_swp {p : List Int} (hi : Inj p) {a b : Nat} (hab : a < b) (hb : b < p.length) : (inv p + 1) % 2 = inv (swp p a b) % 2 := by
  obtain ⟨l1, x, m, y, l2, e, h1, h2⟩ : ∃ l1 x m y l2, p = l1 ++ x :: (m ++ y :: l2) ∧ l1.length = a ∧ l1.length + 1 + m.length = b := by
    refine ⟨p.take a, p.getD a 0, (p.drop (a + 1)).take (b - a - 1), (p.drop (a + 1)).getD (b - a - 1) 0, (p.drop (a + 1)).drop (b - a - 1 + 1), ?_, by rw [List.length_take]; omega, by rw [List.length_take, List.length_take, List.length_drop]; omega⟩
    rw [← split_at (p.drop (a + 1)) (b - a - 1) (by rw [List.length_drop]; omega), ← split_at p a (by omega)]
  have hx : p.getD a 0 = x := by
    rw [e, List.getD_eq_getElem?_getD, List.getElem?_append_right (by omega), h1, Nat.sub_self]; rfl
  have hy : p.getD b 0 = y := by
    rw [e, List.getD_eq_getElem?_getD, List.getElem?_append_right (by omega), show b - l1.length = (b - l1.length - 1) + 1 from by omega, List.getElem?_cons_succ, List.getElem?_append_right (by omega), show b - l1.length - 1 - m.length = 0 from by omega]; rfl
  have hm : ∀ z ∈ m, ∃ k, a < k ∧ k < b ∧ p.getD k 0 = z := by
    intro z hz
    obtain ⟨i, hi', ei⟩ := List.getElem_of_mem hz
    refine ⟨a + 1 + i, by omega, by omega, ?_⟩
    rw [e, List.getD_eq_getElem?_getD, List.getElem?_append_right (by omega), show a + 1 + i - l1.length = i + 1 from by omega, List.getElem?_cons_succ, List.getElem?_append_left hi', List.getElem?_eq_getElem hi', ei]; rfl
  have hs : swp p a b = l1 ++ y :: (m ++ x :: l2) := by
    have hlen : p.length = l1.length + 1 + m.length + 1 + l2.length := by rw [e]; simp; omega
    refine gD_ext (by rw [swp_length, hlen]; simp; omega) fun j hj => ?_
    rw [swp_length] at hj
    rw [swp_getD hj, hx, hy]
    by_cases c1 : b = j
    · subst c1
      rw [if_pos rfl, List.getD_eq_getElem?_getD, List.getElem?_append_right (by omega), show b - l1.length = (b - l1.length - 1) + 1 from by omega, List.getElem?_cons_succ, List.getElem?_append_right (by omega), show b - l1.length - 1 - m.length = 0 from by omega]; rfl
    · rw [if_neg c1]
      by_cases c2 : a = j
      · subst c2
        rw [if_pos rfl, List.getD_eq_getElem?_getD, List.getElem?_append_right (by omega), h1, Nat.sub_self]; rfl
      · rw [if_neg c2, e, List.getD_eq_getElem?_getD, List.getD_eq_getElem?_getD]
        congr 1
        by_cases c3 : j < l1.length
        · rw [List.getElem?_append_left c3, List.getElem?_append_left c3]
        · rw [List.getElem?_append_right (by omega), List.getElem?_append_right (by omega), show j - l1.length = (j - l1.length - 1) + 1 from by omega, List.getElem?_cons_succ, List.getElem?_cons_succ]
          by_cases c4 : j - l1.length - 1 < m.length
          · rw [List.getElem?_append_left c4, List.getElem?_append_left c4]
          · rw [List.getElem?_append_right (by omega), List.getElem?_append_right (by omega), show j - l1.length - 1 - m.length = (j - l1.length - 1 - m.length - 1) + 1 from by omega, List.getElem?_cons_succ, List.getElem?_cons_succ]
  rw [hs]
  have key := inv_far m l1 l2 (x := x) (y := y) (fun e2 => by have := hi a b (by omega) hb (by rw [hx, hy, e2]); omega)
    (fun hz => by obtain ⟨k, k1, k2, k3⟩ := hm x hz; have := hi k a (by omega) (by omega) (by rw [k3, hx]); omega)
    (fun hz => by obtain ⟨k, k1, k2, k3⟩ := hm y hz; have := hi k b (by omega) hb (by rw [k3, hy]); omega)
  rw [← e] at key
  exact key
end Go.Proofs.Ytopaeojcpidfgaa
