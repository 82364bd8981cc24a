/- Support, of the program and of the model, and the program's search for points. Condition: at most 2097152 entries. -/
import Derived.Test.YtonanelghnjhpabInv
namespace Go.Proofs.Ytonanelghnjhpab
open Go.RowKit

def ptsL (f : Nat → Bool) (k : Nat) : List Int := ((List.range k).filter f).map Int.ofNat
theorem ptsL_yes {f : Nat → Bool} {k : Nat} (h : f k = true) : ptsL f (k + 1) = ptsL f k ++ [(k : Int)] := by simp [ptsL, List.range_succ, List.filter_append, h]
theorem ptsL_no {f : Nat → Bool} {k : Nat} (h : f k = false) : ptsL f (k + 1) = ptsL f k := by simp [ptsL, List.range_succ, List.filter_append, h]
theorem ptsL_le (f : Nat → Bool) (k : Nat) : (ptsL f k).length ≤ k := by
  unfold ptsL; rw [List.length_map]; exact Nat.le_trans (List.length_filter_le _ _) (by simp)
def movesB (p : List Int) (x : Nat) : Bool := p.getD x 0 != (x : Int)
theorem supp_eq (p : List Int) : supp p = ptsL (movesB p) p.length := rfl
def suppL (p : List Int) : List Int := if isP p = true then supp p else []

end Go.Proofs.Ytonanelghnjhpab
