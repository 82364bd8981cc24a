/- The walk of the law FnExactPairOrbitCount: it returns true at every input, and writes nothing that was there. No condition. -/
import Derived.Test.YtojmlmeahoppjaaPairS
import Derived.Test.YtojmlmeahoppjaaSSh
namespace Go.Proofs.Ytojmlmeahoppjaa
open Go.RowKit

set_option maxHeartbeats 4000000 in
set_option maxRecDepth 100000 in
/-- The law FnExactPairOrbitCount. -/
theorem lawPairOrbitCount (a : Int) (A : Option Addr) (n c : Nat)  (vs : List SV) (xss : List (List Int)) (w : World) (hx : RR w w.heap.size A n vs xss) (hnm : n ≤ maxLen) (hlm : Hid (∀ i, i < n → (vs.getD i sd0).2.1 ≤ maxLen)) (wfa : -9223372036854775808 ≤ a ∧ a ≤ 9223372036854775807) :
    Calls Try.prog 11 #[.int .i64 a, .slice A n c] w fun e w' => e = .returned (.bool true) ∧ Below w.heap.size w w' := by
  have HX := Lib.hid hx
  have hlxs := Lib.hid hx.lx
  have hll := Lib.hid hx.lens
  by_cases hT : n + tot vs n ≤ 1048576
  · have hn : n ≤ 1048576 := by omega
    have hl : Hid (∀ i, i < n → (vs.getD i sd0).2.1 ≤ 1048576) := Lib.hid fun i hi => by have := tot_row (vs := vs) hi; omega
    have hyl : Hid (∀ i, i < n → (xss.getD i []).length ≤ 1048576) := Lib.hid fun i hi => by rw [hll.out i hi]; exact hl.out i hi
    obtain ⟨L, eL⟩ : ∃ L : Int, 1048576 - ((n + tot vs n : Nat) : Int) = L := ⟨_, rfl⟩
    have hL : ¬ L < 0 := by omega
    have dL : decide (L < 0) = false := by simp; omega
    have KT : Hid (tot vs n ≤ 1048576) := Lib.hid (by omega)
    clear hx
    go_enter Try.func11, Try.ntmps11
    go_wp2_with fail
    have K0 := szSS A n c vs xss w HX.out hnm hlm
    refine K0.mono ?_
    rintro e w0 ⟨rfl, rfl⟩
    clear K0
    rw [if_pos hT, eL]
    have HT := Lib.hid hT
    clear hT eL
    go_wp2_with fail
    refine (toSS A n c vs xss w HX.out hn hl).mono ?_
    rintro e w1 ⟨A1, c1, us1, rfl, s1, q1, b1⟩
    have Z1 : Hid (w.heap.size ≤ w1.heap.size) := Lib.hid b1.size
    have B1 : Hid (Below w.heap.size w w1) := Lib.hid b1
    have Ft_1 := Lib.hid s1
    have Lt : Hid (Lies A1 n c1 w.heap.size w1.heap.size) := Lib.hid s1.lt_
    have It : Hid (∀ t, t < n → ∀ k, (sval (us1.getD t sd0)).ownBlock = some k → w.heap.size ≤ k ∧ k < w1.heap.size) := Lib.hid fun t ht => (s1.row t ht).lt_
    have Qt := Lib.hid q1
    have hlt : Hid (∀ i, i < n → (us1.getD i sd0).2.1 ≤ 1048576) := Lib.hid fun i hi => by rw [q1 i hi]; exact hl.out i hi
    clear s1 b1 q1
    go_wp2_with fail
    have K2 := specPairOrbitCount a A1 n c1 us1 xss w1 Ft_1.out.rr hn hlt wfa
    refine K2.mono ?_
    clear K2
    rintro e w2 ⟨rfl, b2⟩
    have Z2 : Hid (w1.heap.size ≤ w2.heap.size) := Lib.hid b2.size
    have B2 : Hid (Below w.heap.size w w2) := Lib.hid (btr B1.out b2)
    have Ft_2 := Lib.hid (Ft_1.out.up b2)
    clear Ft_1
    clear b2
    clear Ft_2
    go_wp2_with fail
    refine (toSS A n c vs xss w2 (HX.out.up B2.out) hn hl).mono ?_
    rintro e w3 ⟨A3, c3, us3, rfl, s3, q3, b3⟩
    have Z3 : Hid (w2.heap.size ≤ w3.heap.size) := Lib.hid b3.size
    have B3 : Hid (Below w.heap.size w w3) := Lib.hid (btr B2.out b3)
    have Fx_3 := Lib.hid s3
    have Lx : Hid (Lies A3 n c3 w2.heap.size w3.heap.size) := Lib.hid s3.lt_
    have Ix : Hid (∀ t, t < n → ∀ k, (sval (us3.getD t sd0)).ownBlock = some k → w2.heap.size ≤ k ∧ k < w3.heap.size) := Lib.hid fun t ht => (s3.row t ht).lt_
    have Qx := Lib.hid q3
    have hlx : Hid (∀ i, i < n → (us3.getD i sd0).2.1 ≤ 1048576) := Lib.hid fun i hi => by rw [q3 i hi]; exact hl.out i hi
    clear s3 b3 q3
    go_wp2_with fail
    have K4 := implPairOrbitCount a A3 n c3 us3 xss w3 Fx_3.out.rr hn hlx
    refine K4.mono ?_
    clear K4
    rintro e w4 ⟨rfl, b4⟩
    have Z4 : Hid (w3.heap.size ≤ w4.heap.size) := Lib.hid b4.size
    have B4 : Hid (Below w.heap.size w w4) := Lib.hid (btr B3.out b4)
    have Fx_4 := Lib.hid (Fx_3.out.up b4)
    clear Fx_3
    clear b4
    go_wp2_with fail
    refine (toSS A n c vs xss w4 (HX.out.up B4.out) hn hl).mono ?_
    rintro e w5 ⟨A5, c5, us5, rfl, s5, q5, b5⟩
    have Z5 : Hid (w4.heap.size ≤ w5.heap.size) := Lib.hid b5.size
    have B5 : Hid (Below w.heap.size w w5) := Lib.hid (btr B4.out b5)
    have Fx_5 := Lib.hid (Fx_4.out.up b5)
    clear Fx_4
    have Fy_5 := Lib.hid s5
    have Ly : Hid (Lies A5 n c5 w4.heap.size w5.heap.size) := Lib.hid s5.lt_
    have Iy : Hid (∀ t, t < n → ∀ k, (sval (us5.getD t sd0)).ownBlock = some k → w4.heap.size ≤ k ∧ k < w5.heap.size) := Lib.hid fun t ht => (s5.row t ht).lt_
    have Qy := Lib.hid q5
    have hly : Hid (∀ i, i < n → (us5.getD i sd0).2.1 ≤ 1048576) := Lib.hid fun i hi => by rw [q5 i hi]; exact hl.out i hi
    clear s5 b5 q5
    go_wp2_with fail
    refine (eqRR_same A3 A5 n c3 n c5 us3 us5 _ w5 Fx_5.out.rr Fy_5.out.rr (by omega) hyl).mono ?_
    rintro e w6 ⟨rfl, b6⟩
    have Z6 : Hid (w5.heap.size ≤ w6.heap.size) := Lib.hid b6.size
    have B6 : Hid (Below w.heap.size w w6) := Lib.hid (btr B5.out b6)
    have Fx_6 := Lib.hid (Fx_5.out.up b6)
    clear Fx_5
    have Fy_6 := Lib.hid (Fy_5.out.up b6)
    clear Fy_5
    clear b6
    clear Fy_6
    go_wp2_with fail
    go_ret
    exact ⟨rfl, B6.out⟩
  · clear hx
    go_enter Try.func11, Try.ntmps11
    go_wp2_with fail
    have K0 := szSS A n c vs xss w HX.out hnm hlm
    refine K0.mono ?_
    rintro e w0 ⟨rfl, rfl⟩
    clear K0
    rw [if_neg hT]
    go_wp2
    go_ret
    exact ⟨rfl, Below.refl _ _⟩
end Go.Proofs.Ytojmlmeahoppjaa
