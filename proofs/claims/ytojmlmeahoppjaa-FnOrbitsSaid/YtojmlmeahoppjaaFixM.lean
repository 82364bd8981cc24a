/- Points that lie in an orbit of their own; what the sweep's orbits say of them. No Go in it. No condition. -/
import Derived.Test.YtojmlmeahoppjaaOrM
namespace Go.Proofs.Ytojmlmeahoppjaa

/-- The points below k that lie in an orbit of their own. -/
def fxN (gs : List (List Int)) (N k : Nat) : List Nat := (List.range k).filter fun x => decide ((orb gs N x).length = 1)
def fxL (gs : List (List Int)) (N k : Nat) : List Int := (fxN gs N k).map Int.ofNat
/-- The heads of the lists of one number. -/
def heads (l : List (List Int)) : List Int := (l.filter fun y => decide (y.length = 1)).map fun y => y.getD 0 0
theorem fxN_yes {gs : List (List Int)} {N k : Nat} (h : (orb gs N k).length = 1) : fxN gs N (k + 1) = fxN gs N k ++ [k] := by
  simp [fxN, List.range_succ, h]
theorem fxN_no {gs : List (List Int)} {N k : Nat} (h : ¬ (orb gs N k).length = 1) : fxN gs N (k + 1) = fxN gs N k := by
  simp [fxN, List.range_succ, h]
theorem fxL_yes {gs : List (List Int)} {N k : Nat} (h : (orb gs N k).length = 1) : fxL gs N (k + 1) = fxL gs N k ++ [(k : Int)] := by
  rw [fxL, fxN_yes h, List.map_append]; rfl
theorem fxL_no {gs : List (List Int)} {N k : Nat} (h : ¬ (orb gs N k).length = 1) : fxL gs N (k + 1) = fxL gs N k := by
  rw [fxL, fxN_no h, fxL]
theorem fxL_len (gs : List (List Int)) (N k : Nat) : (fxL gs N k).length ≤ k := by
  rw [fxL, List.length_map, fxN]
  have := List.length_filter_le (fun x => decide ((orb gs N x).length = 1)) (List.range k)
  simpa using this
theorem heads_snoc (l : List (List Int)) (y : List Int) : heads (l ++ [y]) = if y.length = 1 then heads l ++ [y.getD 0 0] else heads l := by
  unfold heads
  rw [List.filter_append, List.map_append]
  by_cases h : y.length = 1
  · rw [if_pos h]; simp [h]
  · rw [if_neg h]; simp [h]
theorem heads_len (l : List (List Int)) : (heads l).length ≤ l.length := by
  rw [heads, List.length_map]; exact List.length_filter_le _ _
theorem orb_one {gs : List (List Int)} {N x : Nat} (hp : PMs N gs) (hx : x < N) (h : (orb gs N x).length = 1) : orb gs N x = [x] := by
  obtain ⟨t, e⟩ := (orb_fd hp hx).pre
  rw [e] at h ⊢
  have : t = [] := List.eq_nil_of_length_eq_zero (by simpa using h)
  rw [this]
theorem oS_one {gs : List (List Int)} {N x : Nat} (hp : PMs N gs) (hx : x < N) (h : (orb gs N x).length = 1) : oS gs N x = [(x : Int)] := by
  refine (oS_of hp hx (l := [(x : Int)]) ?_ (by simp)).symm
  rw [orb_one hp hx h]; exact List.Perm.refl _
theorem oS_lenE {gs : List (List Int)} {N x : Nat} (hp : PMs N gs) (hx : x < N) : (oS gs N x).length = (orb gs N x).length := by
  rw [oS, List.length_map, oN_len hp hx]
/-- The sweep's orbits of one point are the points that lie in an orbit of their own. -/
theorem heads_orbs {gs : List (List Int)} {N : Nat} (hp : PMs N gs) : ∀ k, k ≤ N → heads (orbs gs N k) = fxL gs N k
  | 0, _ => by simp [heads, orbs, starts, fxL, fxN]
  | k + 1, hk => by
    have ih := heads_orbs hp k (by omega)
    rcases hs : sn gs N k k with _ | _
    · rw [orbs_yes hs, heads_snoc, oS_lenE hp (by omega)]
      by_cases h : (orb gs N k).length = 1
      · rw [if_pos h, fxL_yes h, oS_one hp (by omega) h, ih]; rfl
      · rw [if_neg h, fxL_no h, ih]
    · have h : ¬ (orb gs N k).length = 1 := fun h => by
        obtain ⟨z, hz, hm⟩ := sn_iff.1 hs
        have := orb_symm hp (by omega) hm
        rw [orb_one hp (by omega) h] at this
        have : z = k := by simpa using this
        omega
      rw [orbs_no hs, fxL_no h, ih]
end Go.Proofs.Ytojmlmeahoppjaa
