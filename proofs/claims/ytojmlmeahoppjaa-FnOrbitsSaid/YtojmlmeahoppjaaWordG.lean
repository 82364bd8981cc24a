/- ShortestWordTo of the program, at every input. Conditions: at most 1048576 lists of at most 1048576 numbers. -/
import Derived.Test.YtojmlmeahoppjaaWordF
namespace Go.Proofs.Ytojmlmeahoppjaa
open Go.RowKit

set_option maxHeartbeats 1600000 in
set_option maxRecDepth 100000 in
/-- The program's ShortestWordTo. -/
theorem implShortestWordTo (a : Int) (A : Option Addr) (n c : Nat) (x y : Int) (vs : List SV) (xss : List (List Int)) (w : World) (hx : RR w w.heap.size A n vs xss) (hn : n ≤ 1048576) (hl : Hid (∀ i, i < n → (vs.getD i sd0).2.1 ≤ 1048576)) :
    Calls Try.prog 26 #[.int .i64 a, .slice A n c, .int .i64 x, .int .i64 y] w fun e w' => ∃ A' m c', e = .returned (.tuple #[.slice A' m c', .bool (wordO a xss x y).isSome]) ∧ Slc w' w.heap.size A' m c' ((wordO a xss x y).getD []) ∧ m ≤ 20 ∧ Below w.heap.size w w' := by
  by_cases hall : gB a xss = true ∧ (0 ≤ x ∧ x < a) ∧ (0 ≤ y ∧ y < a)
  · obtain ⟨hs, hpx, hpy⟩ := hall
    obtain ⟨N, hN, hN1, hN2, hg8, hpm, hok⟩ := gB_pm hs
    obtain ⟨u, rfl⟩ := Int.eq_ofNat_of_zero_le hpx.1
    obtain ⟨v, rfl⟩ := Int.eq_ofNat_of_zero_le hpy.1
    subst hN
    have e1 : wordO (N : Int) xss (u : Int) (v : Int) = wrd (stps xss n) N u v := by
      unfold wordO; rw [if_pos ⟨hs, hpx, hpy⟩, ← hx.lx]; rfl
    rw [e1]
    have Ok := Lib.hid hok
    have HX := Lib.hid hx
    have Sp : Hid (PMs N (mvs (stps xss n))) := Lib.hid (stps_pm hok (by rw [hx.lx]; exact Nat.le_refl _))
    have Px : Hid (decide (0 ≤ (u : Int) ∧ (u : Int) < N) = true) := Lib.hid (decide_eq_true hpx)
    have Py : Hid (decide (0 ≤ (v : Int) ∧ (v : Int) < N) = true) := Lib.hid (decide_eq_true hpy)
    have huN : u < N := by omega
    have hvN : v < N := by omega
    have hn8 : n ≤ 8 := by have := hx.lx; omega
    obtain ⟨S, hS⟩ : ∃ S, stps xss n = S := ⟨_, rfl⟩
    have HS := Lib.hid hS
    rw [hS] at Sp ⊢
    clear hpx hpy e1 hok hpm hS
    go_enter Try.func26, Try.ntmps26
    go_wp2_with fail
    have K0 := implGS N A n c vs xss w hx hn hl
    refine K0.mono ?_
    rintro e w1 ⟨rfl, b1⟩
    have B1 := Lib.hid b1
    clear b1 K0
    rw [hs]
    go_wp2_with fail
    refine (implPt N u w1).mono ?_
    rintro e w1' ⟨rfl, rfl⟩
    rw [Px.out]
    go_wp2_with fail
    refine (implPt N v w1).mono ?_
    rintro e w1' ⟨rfl, rfl⟩
    rw [Py.out]
    go_wp2_with fail
    refine (implSteps A n c N vs xss w1 (HX.out.up B1.out) Ok hN2 hn8).mono ?_
    rintro e w2 ⟨A2, m2, c2, ts, rfl, hm2, tt, b2⟩
    have Tt : Hid (TT w2 w2.heap.size A2 m2 ts S) := Lib.hid (by rw [← HS.out]; exact tt)
    have B2 : Hid (Below w.heap.size w w2) := Lib.hid (btr B1.out b2)
    have hm16 : m2 ≤ 16 := by omega
    clear tt b2 hm2 hx
    go_wp2_with fail
    refine (implFirst N u v m2 c2 A2 ts S w2 Tt.out Sp huN hvN hN1 hN2 hm16).mono ?_
    rintro e w3 ⟨A3, m3, c3, rfl, s3, hm3, b3⟩
    have S3 := Lib.hid (s3.mono B2.out.size)
    have B3 : Hid (Below w.heap.size w w3) := Lib.hid (btr B2.out b3)
    clear s3 b3
    go_wp2_with fail
    go_ret2
    exact ⟨_, _, _, rfl, S3.out, hm3, B3.out⟩
  · have e1 : wordO a xss x y = none := if_neg hall
    rw [e1]
    rcases hs : gB a xss with _ | _
    · go_enter Try.func26, Try.ntmps26
      go_wp2_with fail
      have K0 := implGS a A n c vs xss w hx hn hl
      refine K0.mono ?_
      rintro e w1 ⟨rfl, b1⟩
      have B1 := Lib.hid b1
      clear b1 K0
      rw [hs]
      go_wp2_with fail
      go_ret2
      exact ⟨_, _, _, rfl, Slc.nil_, by omega, B1.out⟩
    · by_cases hpx : 0 ≤ x ∧ x < a
      · have hpy : ¬ (0 ≤ y ∧ y < a) := fun h => hall ⟨hs, hpx, h⟩
        have Px : Hid (decide (0 ≤ x ∧ x < a) = true) := Lib.hid (decide_eq_true hpx)
        have Py : Hid (decide (0 ≤ y ∧ y < a) = false) := Lib.hid (decide_eq_false hpy)
        clear hall hpx hpy e1
        go_enter Try.func26, Try.ntmps26
        go_wp2_with fail
        have K0 := implGS a A n c vs xss w hx hn hl
        refine K0.mono ?_
        rintro e w1 ⟨rfl, b1⟩
        have B1 := Lib.hid b1
        clear b1 K0
        rw [hs]
        go_wp2_with fail
        refine (implPt a x w1).mono ?_
        rintro e w1' ⟨rfl, rfl⟩
        rw [Px.out]
        go_wp2_with fail
        refine (implPt a y w1).mono ?_
        rintro e w1' ⟨rfl, rfl⟩
        rw [Py.out]
        go_wp2_with fail
        go_ret2
        exact ⟨_, _, _, rfl, Slc.nil_, by omega, B1.out⟩
      · have Px : Hid (decide (0 ≤ x ∧ x < a) = false) := Lib.hid (decide_eq_false hpx)
        clear hall hpx e1
        go_enter Try.func26, Try.ntmps26
        go_wp2_with fail
        have K0 := implGS a A n c vs xss w hx hn hl
        refine K0.mono ?_
        rintro e w1 ⟨rfl, b1⟩
        have B1 := Lib.hid b1
        clear b1 K0
        rw [hs]
        go_wp2_with fail
        refine (implPt a x w1).mono ?_
        rintro e w1' ⟨rfl, rfl⟩
        rw [Px.out]
        go_wp2_with fail
        go_ret2
        exact ⟨_, _, _, rfl, Slc.nil_, by omega, B1.out⟩
end Go.Proofs.Ytojmlmeahoppjaa
