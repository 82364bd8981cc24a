/- Inverse and Support, of the program and of the model. Condition: at most 2097152 entries. -/
import Derived.Test.YtplgdbkolklgnaaDoorComp
namespace Go.Proofs.YtplgdbkolklgnaaDoor
open Go.RowKit

theorem invL_length (p : List Int) (k : Nat) : (invL p k).length = p.length := by
  induction k with
  | zero => simp [invL]
  | succ k ih => simp [invL, ih]
def inverseL (p : List Int) : List Int := if isP p = true then invL p p.length else []

end Go.Proofs.YtplgdbkolklgnaaDoor
