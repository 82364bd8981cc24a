/- The shape of a contract over generators: what goes in, what comes out, what is kept. No condition. -/
import Derived.Test.YtooafmifbplbhaaSSx
namespace Go.Proofs.Ytooafmifbplbhaa
open Go.RowKit

/-- Generators that can be read, not too many. -/
structure GIn (w : World) (A : Option Addr) (n : Nat) (vs : List SV) (xss : List (List Int)) : Prop where
  rr : RR w w.heap.size A n vs xss
  hn : n ≤ 1048576
  hl : ∀ i, i < n → (vs.getD i sd0).2.1 ≤ 1048576
/-- A list of numbers that can be read, not too long. -/
structure SIn (w : World) (P : Option Addr) (np cp : Nat) (p : List Int) : Prop where
  ri : RI w w.heap.size P p
  lp : p.length = np
  hn : np ≤ 1048576
  hc : np ≤ cp
def I64 (a : Int) : Prop := -9223372036854775808 ≤ a ∧ a ≤ 9223372036854775807
section
variable {w w' : World} {A P : Option Addr} {n np cp : Nat} {vs : List SV} {xss : List (List Int)} {p : List Int}
theorem GIn.up (h : GIn w A n vs xss) (hb : Below w.heap.size w w') : GIn w' A n vs xss := ⟨h.rr.up hb, h.hn, h.hl⟩
theorem SIn.up (h : SIn w P np cp p) (hb : Below w.heap.size w w') : SIn w' P np cp p := ⟨h.ri.up hb, h.lp, h.hn, h.hc⟩
end

def CtImI (F : Nat) (R : Int → List (List Int) → Int → Prop) : Prop := ∀ (a : Int) (A : Option Addr) (n c : Nat) (vs : List SV) (xss : List (List Int)) (w : World), GIn w A n vs xss → I64 a →
  Calls Try.prog F #[.int .i64 a, .slice A n c] w fun e w' => ∃ v, e = .returned (.int .i64 v) ∧ R a xss v ∧ Below w.heap.size w w'
def CtImB (F : Nat) (R : Int → List (List Int) → Bool → Prop) : Prop := ∀ (a : Int) (A : Option Addr) (n c : Nat) (vs : List SV) (xss : List (List Int)) (w : World), GIn w A n vs xss → I64 a →
  Calls Try.prog F #[.int .i64 a, .slice A n c] w fun e w' => ∃ v, e = .returned (.bool v) ∧ R a xss v ∧ Below w.heap.size w w'
def CtImS (F : Nat) (R : Int → List (List Int) → List Int → Prop) : Prop := ∀ (a : Int) (A : Option Addr) (n c : Nat) (vs : List SV) (xss : List (List Int)) (w : World), GIn w A n vs xss → I64 a →
  Calls Try.prog F #[.int .i64 a, .slice A n c] w fun e w' => ∃ A' m c' zs, e = .returned (.slice A' m c') ∧ Slc w' w.heap.size A' m c' zs ∧ R a xss zs ∧ Below w.heap.size w w'
def CtImM (F : Nat) (R : Int → List (List Int) → List (List Int) → Prop) : Prop := ∀ (a : Int) (A : Option Addr) (n c : Nat) (vs : List SV) (xss : List (List Int)) (w : World), GIn w A n vs xss → I64 a →
  Calls Try.prog F #[.int .i64 a, .slice A n c] w fun e w' => ∃ A' m c' us l, e = .returned (.slice A' m c') ∧ SS w' w.heap.size w.heap.size A' m c' us l ∧ R a xss l ∧ Below w.heap.size w w'
def CtImsI (F : Nat) (R : Int → List (List Int) → List Int → Int → Prop) : Prop := ∀ (a : Int) (A : Option Addr) (n c : Nat) (vs : List SV) (xss : List (List Int)) (P : Option Addr) (np cp : Nat) (p : List Int) (w : World), GIn w A n vs xss → SIn w P np cp p → I64 a →
  Calls Try.prog F #[.int .i64 a, .slice A n c, .slice P np cp] w fun e w' => ∃ v, e = .returned (.int .i64 v) ∧ R a xss p v ∧ Below w.heap.size w w'
def CtImsB (F : Nat) (R : Int → List (List Int) → List Int → Bool → Prop) : Prop := ∀ (a : Int) (A : Option Addr) (n c : Nat) (vs : List SV) (xss : List (List Int)) (P : Option Addr) (np cp : Nat) (p : List Int) (w : World), GIn w A n vs xss → SIn w P np cp p → I64 a →
  Calls Try.prog F #[.int .i64 a, .slice A n c, .slice P np cp] w fun e w' => ∃ v, e = .returned (.bool v) ∧ R a xss p v ∧ Below w.heap.size w w'
def CtImsP (F : Nat) (R : Int → List (List Int) → List Int → List Int → Bool → Prop) : Prop := ∀ (a : Int) (A : Option Addr) (n c : Nat) (vs : List SV) (xss : List (List Int)) (P : Option Addr) (np cp : Nat) (p : List Int) (w : World), GIn w A n vs xss → SIn w P np cp p → I64 a →
  Calls Try.prog F #[.int .i64 a, .slice A n c, .slice P np cp] w fun e w' => ∃ A' m c' zs ok, e = .returned (.tuple #[.slice A' m c', .bool ok]) ∧ Slc w' w.heap.size A' m c' zs ∧ R a xss p zs ok ∧ Below w.heap.size w w'
def CtImmB (F : Nat) (R : Int → List (List Int) → List (List Int) → Bool → Prop) : Prop := ∀ (a : Int) (A : Option Addr) (n c : Nat) (vs : List SV) (xss : List (List Int)) (M : Option Addr) (m cm : Nat) (us : List SV) (yss : List (List Int)) (w : World), GIn w A n vs xss → GIn w M m us yss → I64 a →
  Calls Try.prog F #[.int .i64 a, .slice A n c, .slice M m cm] w fun e w' => ∃ v, e = .returned (.bool v) ∧ R a xss yss v ∧ Below w.heap.size w w'
def CtImiP (F : Nat) (R : Int → List (List Int) → Int → List Int → Bool → Prop) : Prop := ∀ (a : Int) (A : Option Addr) (n c : Nat) (vs : List SV) (xss : List (List Int)) (k : Int) (w : World), GIn w A n vs xss → I64 a → I64 k →
  Calls Try.prog F #[.int .i64 a, .slice A n c, .int .i64 k] w fun e w' => ∃ A' m c' zs ok, e = .returned (.tuple #[.slice A' m c', .bool ok]) ∧ Slc w' w.heap.size A' m c' zs ∧ R a xss k zs ok ∧ Below w.heap.size w w'
def CtImP (F : Nat) (R : Int → List (List Int) → List Int → Bool → Prop) : Prop := ∀ (a : Int) (A : Option Addr) (n c : Nat) (vs : List SV) (xss : List (List Int)) (w : World), GIn w A n vs xss → I64 a →
  Calls Try.prog F #[.int .i64 a, .slice A n c] w fun e w' => ∃ A' m c' zs ok, e = .returned (.tuple #[.slice A' m c', .bool ok]) ∧ Slc w' w.heap.size A' m c' zs ∧ R a xss zs ok ∧ Below w.heap.size w w'
end Go.Proofs.Ytooafmifbplbhaa
