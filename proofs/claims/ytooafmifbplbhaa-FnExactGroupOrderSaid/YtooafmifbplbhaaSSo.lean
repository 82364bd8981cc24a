/- What is kept where a slice of slices was marked; bounds on lists of lists. No condition. -/
import Derived.Test.YtooafmifbplbhaaSSh
import Derived.Test.YtooafmifbplbhaaInv
namespace Go.Proofs.Ytooafmifbplbhaa
open Go.RowKit

theorem Slc.only {w w' : World} {base n c n' : Nat} {A : Option Addr} {us : List SV} {xs : List Int} (h : Slc w base A n c xs) (ho : OnlyIn w w' us n')
    (hd : ∀ k, (Value.slice A n c).ownBlock = some k → ∀ t, t < n' → (sval (us.getD t sd0)).ownBlock = some k → False) : Slc w' base A n c xs := by
  refine ⟨h.1, h.2.1, ?_⟩
  rcases h.2.2 with hn | ⟨g, cap, cur, e, hb', hg, rest⟩
  · exact .inl hn
  · exact .inr ⟨g, cap, cur, e, hb', by rw [ho.block g (Array.getElem?_eq_some_iff.1 hg).1 (fun t ht e2 => hd g (by rw [e]; rfl) t ht e2)]; exact hg, rest⟩
theorem SS.only2 {w w' : World} {bo bi n c n' : Nat} {A : Option Addr} {vs us : List SV} {xss : List (List Int)} (h : SS w bo bi A n c vs xss) (ho : OnlyIn w w' us n')
    (hd : ∀ k, (Value.slice A n c).ownBlock = some k → ∀ t, t < n' → (sval (us.getD t sd0)).ownBlock = some k → False)
    (hd2 : ∀ s, s < n → ∀ k, (sval (vs.getD s sd0)).ownBlock = some k → ∀ t, t < n' → (sval (us.getD t sd0)).ownBlock = some k → False) : SS w' bo bi A n c vs xss := by
  refine ⟨⟨h.own.1, ?_⟩, h.lv, h.lx, fun i hi => (h.row i hi).only ho (hd2 i hi), h.dis⟩
  rcases h.own.2 with hn | ⟨g, cap, cur, e, hb', hg, rest⟩
  · exact .inl hn
  · exact .inr ⟨g, cap, cur, e, hb', by rw [ho.block g (Array.getElem?_eq_some_iff.1 hg).1 (fun t ht e2 => hd g (by rw [e]; rfl) t ht e2)]; exact hg, rest⟩

def sumL (l : List (List Int)) : Nat := (l.map List.length).sum
theorem sumL_le {l : List (List Int)} {k : Nat} (h : ∀ y ∈ l, y.length ≤ k) : sumL l ≤ l.length * k := by
  induction l with
  | nil => simp [sumL]
  | cons a t ih =>
    have h1 := ih fun y hy => h y (by simp [hy])
    have h2 := h a (by simp)
    unfold sumL at h1 ⊢
    rw [List.map_cons, List.sum_cons, List.length_cons, Nat.succ_mul]; omega
theorem bound_all {l : List (List Int)} {m k : Nat} (h1 : l.length ≤ m) (h2 : ∀ y ∈ l, y.length ≤ k) (h : m * k ≤ 1048576 ∧ m ≤ 1048576 ∧ k ≤ 1048576) :
    l.length ≤ 1048576 ∧ (∀ i, i < l.length → (l.getD i []).length ≤ 1048576) ∧ sumL l ≤ 1048576 := by
  refine ⟨by omega, fun i hi => ?_, ?_⟩
  · have : l.getD i [] ∈ l := by rw [List.getD_eq_getElem?_getD, List.getElem?_eq_getElem hi]; exact List.getElem_mem _
    have := h2 _ this; omega
  · have h3 := sumL_le h2
    have h4 : l.length * k ≤ m * k := Nat.mul_le_mul_right k h1
    omega
theorem SS.tot_sum {w : World} {bo bi n c : Nat} {A : Option Addr} {vs : List SV} {xss : List (List Int)} (h : SS w bo bi A n c vs xss) : tot vs n = sumL xss := by
  have key : ∀ k, k ≤ n → tot vs k = sumL (xss.take k) := by
    intro k
    induction k with
    | zero => intro _; rfl
    | succ k ih =>
      intro hk
      have hk' : k < xss.length := by rw [h.lx]; omega
      rw [tot_succ, ih (by omega), List.take_succ_eq_append_getElem hk', ← (h.row k (by omega)).1, List.getD_eq_getElem?_getD, List.getElem?_eq_getElem hk']
      show sumL (xss.take k) + _ = sumL (xss.take k ++ [xss[k]])
      unfold sumL
      rw [List.map_append, List.sum_append]; simp
  rw [key n (Nat.le_refl _), List.take_of_length_le (by rw [h.lx]; exact Nat.le_refl _)]
/-- A slice of slices none of whose blocks is the one that turned. -/
theorem SS.far2 {w w' : World} {bo bi n c lo hi lo' hi' n' c' : Nat} {A A' : Option Addr} {vs : List SV} {xss : List (List Int)} (h : SS w bo bi A n c vs xss) (hg : w.grownBy w' (Value.slice A' n' c').ownBlock)
    (lo1 : Lies A n c lo hi) (li : ∀ t, t < n → ∀ k, (sval (vs.getD t sd0)).ownBlock = some k → lo ≤ k ∧ k < hi) (l : Lies A' n' c' lo' hi') (hb : hi ≤ lo' ∨ hi' ≤ lo) : SS w' bo bi A n c vs xss :=
  ⟨World.ownsRow.kept h.own hg (lo1.apart l hb), h.lv, h.lx, fun i hi' => (h.row i hi').kept hg (Lies.apart (show Lies _ _ _ lo hi from li i hi') l hb), h.dis⟩
theorem invL_len (p : List Int) : (invL p p.length).length = p.length := by
  have : ∀ k, (invL p k).length = p.length := by
    intro k
    induction k with
    | zero => simp [invL]
    | succ k ih => simp [invL, ih]
  exact this _
end Go.Proofs.Ytooafmifbplbhaa
