/- Identity, of the program and of the model. No condition. -/
import Derived.Test.YtplgdbkolklgnaaPerm
namespace Go.Proofs.Ytplgdbkolklgnaa
open Go.RowKit

theorem idL_length (n : Nat) : (idL n).length = n := by simp [idL]
theorem idL_getD {n j : Nat} (h : j < n) : (idL n).getD j 0 = (j : Int) := by
  rw [List.getD_eq_getElem?_getD, List.getElem?_eq_getElem (by simp [idL, h])]; simp [idL]
theorem idL_succ (n : Nat) : idL (n + 1) = idL n ++ [(n : Int)] := by simp [idL, List.range_succ]

/-- What Identity answers. -/
def identL (n : Int) : List Int := if 1 ≤ n ∧ n ≤ 20 then idL n.toNat else []

end Go.Proofs.Ytplgdbkolklgnaa
