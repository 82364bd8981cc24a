/- The walk of the law FnCycleTexts, whole. No condition. -/
import Derived.Test.YtplgdbkolklgnaaDoorWalkW
import Derived.Test.YtplgdbkolklgnaaDoorCorr
namespace Go.Proofs.YtplgdbkolklgnaaDoor
open Go.RowKit

theorem lawCycleTextsT (A : Option Addr) (cap len : Nat) (w : World) (hb : SB w w.heap.size A len) :
    Calls Tryd.prog 3 #[.slice A len cap] w fun e w' => e = .returned (.bool true) ∧ Below w.heap.size w w' :=
  lawCycleTexts (fun g s u w h1 h2 h3 => corrT g s u w h1 h2 h3) A cap len w hb
end Go.Proofs.YtplgdbkolklgnaaDoor
