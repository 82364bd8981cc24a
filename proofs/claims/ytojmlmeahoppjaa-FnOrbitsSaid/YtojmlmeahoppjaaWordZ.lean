/- ShortestWordTo of the model, at every input. Conditions: at most 1048576 lists of at most 1048576 numbers. -/
import Derived.Test.YtojmlmeahoppjaaWordS
namespace Go.Proofs.Ytojmlmeahoppjaa
open Go.RowKit

set_option maxHeartbeats 1600000 in
set_option maxRecDepth 100000 in
/-- The model's ShortestWordTo. -/
theorem specShortestWordTo (a : Int) (A : Option Addr) (n c : Nat) (x y : Int) (vs : List SV) (xss : List (List Int)) (w : World) (hx : RR w w.heap.size A n vs xss) (hn : n ≤ 1048576) (hl : Hid (∀ i, i < n → (vs.getD i sd0).2.1 ≤ 1048576)) (ha : -9223372036854775808 ≤ a ∧ a ≤ 9223372036854775807) (wfx : -9223372036854775808 ≤ x ∧ x ≤ 9223372036854775807) (wfy : -9223372036854775808 ≤ y ∧ y ≤ 9223372036854775807) :
    Calls Try.prog 43 #[.int .i64 a, .slice A n c, .int .i64 x, .int .i64 y] w fun e w' => ∃ A' m c', e = .returned (.tuple #[.slice A' m c', .bool (wordO a xss x y).isSome]) ∧ Slc w' w.heap.size A' m c' ((wordO a xss x y).getD []) ∧ m ≤ 20 ∧ Below w.heap.size w w' := by
  by_cases hall : gB a xss = true ∧ (0 ≤ x ∧ x < a) ∧ (0 ≤ y ∧ y < a)
  · obtain ⟨hs, hpx, hpy⟩ := hall
    obtain ⟨N, hN, hN1, hN2, hg8, hpm, hok⟩ := gB_pm hs
    obtain ⟨u, rfl⟩ := Int.eq_ofNat_of_zero_le hpx.1
    obtain ⟨v, rfl⟩ := Int.eq_ofNat_of_zero_le hpy.1
    subst hN
    have e1 : wordO (N : Int) xss (u : Int) (v : Int) = wrd (stps xss xss.length) N u v := by
      unfold wordO; rw [if_pos ⟨hs, hpx, hpy⟩]; rfl
    rw [e1]
    exact specWord_core N u v n c A vs xss w hx hn hl hs (by omega) (by omega) hN2 hg8 (Lib.hid hok)
  · have e1 : wordO a xss x y = none := if_neg hall
    rw [e1]
    rcases hs : gB a xss with _ | _
    · go_enter Try.func43, Try.ntmps43
      go_wp2_with fail
      have K0 := specGS a A n c vs xss w hx hn hl ha
      refine K0.mono ?_
      rintro e w1 ⟨rfl, b1⟩
      have B1 := Lib.hid b1
      clear b1 K0
      rw [hs]
      go_wp2_with fail
      go_ret2
      exact ⟨_, _, _, rfl, Slc.lit0 w1 _ B1.out.size, by omega, B1.out.alloc B1.out.size _⟩
    · have hab := gB_iff.1 hs
      have ha1 := hab.1
      have ha2 := hab.2.1
      clear hab
      by_cases hpx : 0 ≤ x ∧ x < a
      · have hpy : ¬ (0 ≤ y ∧ y < a) := fun h => hall ⟨hs, hpx, h⟩
        have Px : Hid (decide (0 ≤ x ∧ x < a) = true) := Lib.hid (decide_eq_true hpx)
        have Py : Hid (decide (0 ≤ y ∧ y < a) = false) := Lib.hid (decide_eq_false hpy)
        clear hall hpx hpy e1
        go_enter Try.func43, Try.ntmps43
        go_wp2_with fail
        have K0 := specGS a A n c vs xss w hx hn hl ha
        refine K0.mono ?_
        rintro e w1 ⟨rfl, b1⟩
        have B1 := Lib.hid b1
        clear b1 K0
        rw [hs]
        go_wp2_with fail
        refine (specPt a x w1 ha1 (by omega)).mono ?_
        rintro e w1' ⟨rfl, rfl⟩
        rw [Px.out]
        go_wp2_with fail
        refine (specPt a y w1 ha1 (by omega)).mono ?_
        rintro e w1' ⟨rfl, rfl⟩
        rw [Py.out]
        go_wp2_with fail
        go_ret2
        exact ⟨_, _, _, rfl, Slc.lit0 w1 _ B1.out.size, by omega, B1.out.alloc B1.out.size _⟩
      · have Px : Hid (decide (0 ≤ x ∧ x < a) = false) := Lib.hid (decide_eq_false hpx)
        clear hall hpx e1
        go_enter Try.func43, Try.ntmps43
        go_wp2_with fail
        have K0 := specGS a A n c vs xss w hx hn hl ha
        refine K0.mono ?_
        rintro e w1 ⟨rfl, b1⟩
        have B1 := Lib.hid b1
        clear b1 K0
        rw [hs]
        go_wp2_with fail
        refine (specPt a x w1 ha1 (by omega)).mono ?_
        rintro e w1' ⟨rfl, rfl⟩
        rw [Px.out]
        go_wp2_with fail
        go_ret2
        exact ⟨_, _, _, rfl, Slc.lit0 w1 _ B1.out.size, by omega, B1.out.alloc B1.out.size _⟩
end Go.Proofs.Ytojmlmeahoppjaa
