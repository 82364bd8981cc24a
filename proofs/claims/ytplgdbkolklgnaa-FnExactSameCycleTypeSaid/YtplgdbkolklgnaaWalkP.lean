/- The walks of the laws FnExactSameCycleType: they return true at every input, and write nothing that was there. No condition. -/
import Derived.Test.YtplgdbkolklgnaaSameT
namespace Go.Proofs.Ytplgdbkolklgnaa
open Go.RowKit

set_option maxHeartbeats 1000000 in
/-- The law FnExactSameCycleType. -/
theorem lawSameCycleType (P : Option Addr) (cp np : Nat) (p : List Int) (Q : Option Addr) (cq nq : Nat) (q : List Int) (w : World) (hp : RI w w.heap.size P p) (lp : Hid (p.length = np)) (hq : RI w w.heap.size Q q) (lq : Hid (q.length = nq)) :
    Calls Try.prog 6 #[.slice P np cp, .slice Q nq cq] w fun e w' => e = .returned (.bool true) ∧ Below w.heap.size w w' := by
  by_cases hnp : np ≤ 1048576
  · skip
    by_cases hnq : nq ≤ 1048576
    · skip
      go_enter Try.func6, Try.ntmps6
      go_wp2_with fail
      refine (toS_any P cp np p w hp lp (by omega)).mono ?_
      rintro e w1 ⟨A1, c1, rfl, s1, b1⟩
      have B1 : Hid (Below w.heap.size w w1) := Lib.hid b1
      have Stp_1 := Lib.hid s1
      have le1 := s1.le.1
      clear s1 b1
      go_wp2_with fail
      refine (toS_any Q cq nq q w1 (hq.up B1.out) lq (by omega)).mono ?_
      rintro e w2 ⟨A2, c2, rfl, s2, b2⟩
      have B2 : Hid (Below w.heap.size w w2) := Lib.hid (btr B1.out b2)
      have Stp_2 := Lib.hid (Stp_1.out.up b2)
      clear Stp_1
      have Stq_2 := Lib.hid s2
      have le2 := s2.le.1
      clear s2 b2
      go_wp2_with fail
      refine (specSameCycleType A1 A2 c1 c2 np nq p q w2 Stp_2.out.ri_ Stq_2.out.ri_ lp lq (by omega) (by omega) le1 le2).mono ?_
      rintro e w3 ⟨rfl, b3⟩
      have B3 : Hid (Below w.heap.size w w3) := Lib.hid (btr B2.out b3)
      have Stp_3 := Lib.hid (Stp_2.out.up b3)
      clear Stp_2
      have Stq_3 := Lib.hid (Stq_2.out.up b3)
      clear Stq_2
      clear b3
      clear Stp_3
      clear Stq_3
      go_wp2_with fail
      refine (toS_any P cp np p w3 (hp.up B3.out) lp (by omega)).mono ?_
      rintro e w4 ⟨A4, c4, rfl, s4, b4⟩
      have B4 : Hid (Below w.heap.size w w4) := Lib.hid (btr B3.out b4)
      have Sxp_4 := Lib.hid s4
      have le4 := s4.le.1
      clear s4 b4
      go_wp2_with fail
      refine (toS_any Q cq nq q w4 (hq.up B4.out) lq (by omega)).mono ?_
      rintro e w5 ⟨A5, c5, rfl, s5, b5⟩
      have B5 : Hid (Below w.heap.size w w5) := Lib.hid (btr B4.out b5)
      have Sxp_5 := Lib.hid (Sxp_4.out.up b5)
      clear Sxp_4
      have Sxq_5 := Lib.hid s5
      have le5 := s5.le.1
      clear s5 b5
      go_wp2_with fail
      refine (implSameCycleType A4 A5 c4 c5 np nq p q w5 Sxp_5.out.ri_ Sxq_5.out.ri_ lp lq (by omega) (by omega)).mono ?_
      rintro e w6 ⟨rfl, b6⟩
      have B6 : Hid (Below w.heap.size w w6) := Lib.hid (btr B5.out b6)
      have Sxp_6 := Lib.hid (Sxp_5.out.up b6)
      clear Sxp_5
      have Sxq_6 := Lib.hid (Sxq_5.out.up b6)
      clear Sxq_5
      clear b6
      go_wp2_with fail
      refine (toS_any P cp np p w6 (hp.up B6.out) lp (by omega)).mono ?_
      rintro e w7 ⟨A7, c7, rfl, s7, b7⟩
      have B7 : Hid (Below w.heap.size w w7) := Lib.hid (btr B6.out b7)
      have Sxp_7 := Lib.hid (Sxp_6.out.up b7)
      clear Sxp_6
      have Sxq_7 := Lib.hid (Sxq_6.out.up b7)
      clear Sxq_6
      have Syp_7 := Lib.hid s7
      have le7 := s7.le.1
      clear s7 b7
      go_wp2_with fail
      refine (eqS_same _ _ A4 A7 np c4 np c7 w7 Sxp_7.out Syp_7.out (by omega)).mono ?_
      rintro e w8 ⟨rfl, b8⟩
      have B8 : Hid (Below w.heap.size w w8) := Lib.hid (btr B7.out b8)
      have Sxp_8 := Lib.hid (Sxp_7.out.up b8)
      clear Sxp_7
      have Sxq_8 := Lib.hid (Sxq_7.out.up b8)
      clear Sxq_7
      have Syp_8 := Lib.hid (Syp_7.out.up b8)
      clear Syp_7
      clear b8
      go_wp2_with fail
      refine (toS_any Q cq nq q w8 (hq.up B8.out) lq (by omega)).mono ?_
      rintro e w9 ⟨A9, c9, rfl, s9, b9⟩
      have B9 : Hid (Below w.heap.size w w9) := Lib.hid (btr B8.out b9)
      have Sxp_9 := Lib.hid (Sxp_8.out.up b9)
      clear Sxp_8
      have Sxq_9 := Lib.hid (Sxq_8.out.up b9)
      clear Sxq_8
      have Syp_9 := Lib.hid (Syp_8.out.up b9)
      clear Syp_8
      have Syq_9 := Lib.hid s9
      have le9 := s9.le.1
      clear s9 b9
      go_wp2_with fail
      refine (eqS_same _ _ A5 A9 nq c5 nq c9 w9 Sxq_9.out Syq_9.out (by omega)).mono ?_
      rintro e w10 ⟨rfl, b10⟩
      have B10 : Hid (Below w.heap.size w w10) := Lib.hid (btr B9.out b10)
      have Sxp_10 := Lib.hid (Sxp_9.out.up b10)
      clear Sxp_9
      have Sxq_10 := Lib.hid (Sxq_9.out.up b10)
      clear Sxq_9
      have Syp_10 := Lib.hid (Syp_9.out.up b10)
      clear Syp_9
      have Syq_10 := Lib.hid (Syq_9.out.up b10)
      clear Syq_9
      clear b10
      go_wp2_with fail
      go_ret
      exact ⟨rfl, B10.out⟩
    · have d1 : decide ((1048576 : Int) < nq) = true := by simp; omega
      go_enter Try.func6, Try.ntmps6
      go_wp2
      go_ret
      exact ⟨rfl, Below.refl _ _⟩
  · have d1 : decide ((1048576 : Int) < np) = true := by simp; omega
    go_enter Try.func6, Try.ntmps6
    go_wp2
    go_ret
    exact ⟨rfl, Below.refl _ _⟩

end Go.Proofs.Ytplgdbkolklgnaa
