/- What the functions of chapter 4 answer, and that the model's do. No condition. -/
import Derived.Test.YtooafmifbplbhaaCt
import Derived.Test.YtooafmifbplbhaaChV
import Derived.Test.YtooafmifbplbhaaStbS
import Derived.Test.YtooafmifbplbhaaSSo
namespace Go.Proofs.Ytooafmifbplbhaa
open Go.RowKit

def IsMem (a : Int) (gs : List (List Int)) (p : List Int) (b : Bool) : Prop := b = true ↔ Memb a gs p
def IsSam (a : Int) (xs ys : List (List Int)) (b : Bool) : Prop := b = true ↔ SameG a xs ys
theorem IsMem.uniq {a : Int} {gs : List (List Int)} {p : List Int} {b b' : Bool} (h : IsMem a gs p b) (h' : IsMem a gs p b') : b = b' := memb_uniq h h'
theorem IsSam.uniq {a : Int} {xs ys : List (List Int)} {b b' : Bool} (h : IsSam a xs ys b) (h' : IsSam a xs ys b') : b = b' := by
  unfold IsSam at h h'; rw [Bool.eq_iff_iff, h, h']
theorem boundSgs {a : Int} {gs l : List (List Int)} (h : IsSgs a gs l) : l.length ≤ 1048576 ∧ (∀ i, i < l.length → (l.getD i []).length ≤ 1048576) ∧ sumL l ≤ 1048576 := by
  rcases h with ⟨e, h⟩ | ⟨e, rfl⟩
  · obtain ⟨N, rfl, h1, hN, _, _, ok⟩ := gB_pm e
    rw [Int.toNat_natCast] at h
    obtain ⟨a1, a2⟩ := h.ok h1 hN ok
    have a3 := prs_len N N
    have a4 : N * N ≤ 20 * 20 := Nat.mul_le_mul hN hN
    exact bound_all (m := 400) (k := 20) (by omega) (fun y hy => by rw [(a2 y hy).2]; exact hN) (by omega)
  · exact bound_all (m := 0) (k := 0) (Nat.le_refl _) (fun y hy => by cases hy) (by omega)

theorem ctOrd : CtImI 28 IsOrd := fun a A n c vs xss w g ha => specGroupOrder a A n c vs xss w g.rr g.hn (Lib.hid g.hl) ha
theorem ctSiz : CtImS 27 IsSiz := fun a A n c vs xss w g ha => specOrbitSizes a A n c vs xss w g.rr g.hn (Lib.hid g.hl) ha
theorem ctSgs : CtImM 25 IsSgs := fun a A n c vs xss w g ha => specSgs a A n c vs xss w g.rr g.hn (Lib.hid g.hl) ha
theorem ctMem : CtImsB 17 IsMem := fun a A n c vs xss P np cp p w g s ha => specIsMember a A n c vs xss w P np cp p g.rr g.hn (Lib.hid g.hl) s.ri (Lib.hid s.lp) s.hn s.hc ha
theorem ctMwp : CtImsP 41 IsMw := fun a A n c vs xss P np cp p w g s ha => specMemberWithPrefix a A n c vs xss w P np cp p g.rr g.hn (Lib.hid g.hl) s.ri (Lib.hid s.lp) s.hn ha
theorem ctLmp : CtImsI 18 IsLmp := fun a A n c vs xss P np cp p w g s ha => specLmp a A n c vs xss w P np cp p g.rr g.hn (Lib.hid g.hl) s.ri (Lib.hid s.lp) s.hn s.hc ha
theorem ctStb : CtImsI 43 IsStb := fun a A n c vs xss P np cp p w g s ha => specStabilizerOrder a A n c vs xss w P np cp p g.rr g.hn (Lib.hid g.hl) s.ri (Lib.hid s.lp) s.hn ha
theorem ctSam : CtImmB 44 IsSam := fun a A n c vs xss M m cm us yss w g s ha => specSameGroup a A n c vs xss w M m cm us yss g.rr g.hn (Lib.hid g.hl) s.rr s.hn (Lib.hid s.hl) ha
end Go.Proofs.Ytooafmifbplbhaa
