/- Part 11 of the texts: WalkK6, Nmd6. No condition of its own: each text tells its own. -/
import Derived.Test.YtcjcmhoalomjfaaMg10
import Derived.Test.YtcjcmhoalomjfaaMg6
import Derived.Test.YtcjcmhoalomjfaaMg4
import Derived.Test.YtcjcmhoalomjfaaMg5
set_option linter.unusedVariables false
set_option linter.unusedSimpArgs false

/- The walk of the law FnCosets: it returns true at every input, and writes nothing that was there. No condition but the program's own contracts. -/
namespace Go.Proofs.Ytcjcmhoalomjfaa
open Go.RowKit

theorem less_lx {N : Nat} {p q : List Int} (hp : Pn N p) (hq : Pn N q) (h : lessP p q = true) : LxI N p q := by
  unfold lessP at h
  rw [Bool.and_eq_true] at h
  obtain ⟨t, ht, a, b⟩ := of_decide_eq_true h.2
  rw [hp.2] at ht
  refine ⟨t, ht, fun j hj => ?_, ?_⟩
  · have := a j hj
    rw [nx_val hp.1 (by rw [hp.2]; omega), nx_val hq.1 (by rw [hq.2]; omega)] at this
    omega
  · rw [nx_val hp.1 (by rw [hp.2]; omega), nx_val hq.1 (by rw [hq.2]; omega)] at b; omega
theorem CMin.noless {N : Nat} {gs : List (List Int)} {p m : List Int} (hg : ∀ g ∈ gs, Pn N g) (hp : Pn N p) (h : CMin N (Mb gs N) p m) : lessP p m = false := by
  have hH := sgp_mb hg hp.pos.1 hp.pos.2
  rcases e : lessP p m with _ | _
  · rfl
  · exact absurd (less_lx hp (h.1.pn hH hp) e) (h.2 p (cos_refl hH hp))

set_option maxHeartbeats 8000000 in
set_option maxRecDepth 100000 in
theorem lawCosets (IS : CtImssB 25 IsSco) (IC : CtImsS 27 IsCmi) (A : Option Addr) (cap len : Nat) (w : World) (hb : SB w w.heap.size A len) :
    Calls Try.prog 4 #[.slice A len cap] w fun e w' => e = .returned (.bool true) ∧ Below w.heap.size w w' := by
  by_cases hl : len ≤ 4096
  · go_enter Try.func4, Try.ntmps4
    go_wp2_with fail
    refine (bigF4 A len cap w hl).mono ?_
    rintro e w0 ⟨rfl, rfl⟩
    go_wp2_with fail
    refine (drawSC len cap A w hb hl).mono ?_
    rintro e w1 ⟨z, A1, m, c, vs, xss, P, np, cp, p, Q, nq, cq, q, rfl, hB, gi, sp, hnp, sq, hnq, b1⟩
    have G1 := Lib.hid gi
    have P1 := Lib.hid sp
    have Q1 := Lib.hid sq
    have HB := Lib.hid hB
    have B1 := Lib.hid b1
    clear gi sp sq hB b1 hb
    go_wp2_with fail
    refine (IS z A1 m c vs xss P np cp p Q nq cq q w1 G1.out P1.out Q1.out HB.out).mono ?_
    rintro e w2 ⟨same, rfl, rs, b2⟩
    have Rs := Lib.hid rs
    have G2 := Lib.hid (G1.out.up b2)
    have P2 := Lib.hid (P1.out.up b2)
    have Q2 := Lib.hid (Q1.out.up b2)
    have B2 : Hid (Below w.heap.size w w2) := Lib.hid (btr B1.out b2)
    clear rs b2 G1 P1 Q1
    go_wp2_with fail
    refine (IC z A1 m c vs xss P np cp p w2 G2.out P2.out HB.out).mono ?_
    rintro e w3 ⟨X, nx_, cx, x, rfl, sx, rx, b3⟩
    have Sx3 := Lib.hid sx
    have Rx := Lib.hid rx
    have hx20 : nx_ ≤ 20 := by rw [← sx.1]; exact rx.len
    have G3 := Lib.hid (G2.out.up b3)
    have P3 := Lib.hid (P2.out.up b3)
    have Q3 := Lib.hid (Q2.out.up b3)
    have B3 : Hid (Below w.heap.size w w3) := Lib.hid (btr B2.out b3)
    clear sx rx b3 G2 P2 Q2
    go_wp2_with fail
    refine (IC z A1 m c vs xss Q nq cq q w3 G3.out Q3.out HB.out).mono ?_
    rintro e w4 ⟨Y, ny_, cy, y, rfl, sy, ry, b4⟩
    have Sy4 := Lib.hid sy
    have Ry := Lib.hid ry
    have hy20 : ny_ ≤ 20 := by rw [← sy.1]; exact ry.len
    have Sx4 := Lib.hid (Sx3.out.up b4)
    have G4 := Lib.hid (G3.out.up b4)
    have P4 := Lib.hid (P3.out.up b4)
    have Q4 := Lib.hid (Q3.out.up b4)
    have B4 : Hid (Below w.heap.size w w4) := Lib.hid (btr B3.out b4)
    clear sy ry b4 G3 P3 Q3 Sx3
    go_wp2_with fail
    refine (ctSco z A1 m c vs xss P np cp p Q nq cq q w4 G4.out P4.out Q4.out HB.out).mono ?_
    rintro e w5 ⟨same', rfl, rs', b5⟩
    obtain rfl : same' = same := rs'.uniq Rs.out
    have Sx5 := Lib.hid (Sx4.out.up b5)
    have Sy5 := Lib.hid (Sy4.out.up b5)
    have G5 := Lib.hid (G4.out.up b5)
    have P5 := Lib.hid (P4.out.up b5)
    have Q5 := Lib.hid (Q4.out.up b5)
    have B5 : Hid (Below w.heap.size w w5) := Lib.hid (btr B4.out b5)
    clear rs' b5 G4 P4 Q4 Sx4 Sy4
    go_wp2_with fail
    refine (ctCmi z A1 m c vs xss P np cp p w5 G5.out P5.out HB.out).mono ?_
    rintro e w6 ⟨X', nx', cx', x', rfl, sx', rx', b6⟩
    obtain rfl : x' = x := rx'.uniq Rx.out
    have Sz6 := Lib.hid sx'
    have Sx6 := Lib.hid (Sx5.out.up b6)
    have Sy6 := Lib.hid (Sy5.out.up b6)
    have G6 := Lib.hid (G5.out.up b6)
    have P6 := Lib.hid (P5.out.up b6)
    have B6 : Hid (Below w.heap.size w w6) := Lib.hid (btr B5.out b6)
    clear sx' rx' b6 G5 P5 Q5 Sx5 Sy5
    go_wp2_with fail
    refine (likeI_eq X X' cx cx' nx_ nx' x' w6 Sx6.out.ri_ Sz6.out.ri_ Sx6.out.hid Sz6.out.hid (by omega)).mono ?_
    rintro e w7 ⟨rfl, b7⟩
    have Sx7 := Lib.hid (Sx6.out.up b7)
    have Sy7 := Lib.hid (Sy6.out.up b7)
    have G7 := Lib.hid (G6.out.up b7)
    have P7 := Lib.hid (P6.out.up b7)
    have B7 : Hid (Below w.heap.size w w7) := Lib.hid (btr B6.out b7)
    have Lx : Hid (x'.length = nx_) := Sx6.out.hid
    have Ly : Hid (y.length = ny_) := Sy6.out.hid
    clear b7 G6 P6 Sx6 Sy6 Sz6
    by_cases hp : Vld z xss p
    · by_cases hq : Vld z xss q
      · obtain ⟨N, rfl, hN1, hN2, _, _, hok⟩ := gB_pm hp.1
        have hxm : CMin N (Mb xss N) p x' := by
          rcases Rx.out with ⟨_, h⟩ | ⟨h, _⟩
          · rwa [Int.toNat_natCast] at h
          · exact absurd hp h
        have hym : CMin N (Mb xss N) q y := by
          rcases Ry.out with ⟨_, h⟩ | ⟨h, _⟩
          · rwa [Int.toNat_natCast] at h
          · exact absurd hq h
        have hH := sgp_mb hok hN1 hN2
        have pp : Pn N p := by have := hp.pn; rwa [Int.toNat_natCast] at this
        have pq : Pn N q := by have := hq.pn; rwa [Int.toNat_natCast] at this
        have px := hxm.1.pn hH pp
        have py := hym.1.pn hH pq
        obtain rfl : nx_ = N := by rw [← Lx.out]; exact px.2
        obtain rfl : ny_ = nx_ := by rw [← Ly.out]; exact py.2
        have Fs : Hid (same' = decide (x' = y)) := Lib.hid (by
          have hR := Rs.out
          unfold IsSco at hR
          rw [Bool.eq_iff_iff, hR, decide_eq_true_eq, Int.toNat_natCast]
          exact ⟨fun h => (hxm.same hH pp pq hym).1 h.2.2, fun h => ⟨hp, hq, (hxm.same hH pp pq hym).2 h⟩⟩)
        have Vx : Hid (Vld ny_ xss x') := Lib.hid ⟨hp.1, by rw [px.2], isP_iff.2 px.1⟩
        have Fc : Hid (∀ v, IsSco ny_ xss x' p v → v = true) := Lib.hid fun v hv => hv.2 ⟨Vx.out, hp, by rw [Int.toNat_natCast]; exact hxm.1.symm hH pp⟩
        have Fl : Hid (lessP p x' = false) := Lib.hid (hxm.noless hok pp)
        have Np : Hid (p.length = np) := Lib.hid P7.out.lp
        have d1 : ((ny_ : Int) == 0) = false := by rw [beq_eq_false_iff_ne]; omega
        clear hp hq hok hxm hym hH pp pq px py
        go_wp2_with fail
        refine (quiet_below (likeI_any X Y cx cy ny_ ny_ x' y w7 Sx7.out.ri_ Sy7.out.ri_ Sx7.out.hid Sy7.out.hid (by omega) (by omega))).mono ?_
        rintro e w8 ⟨rfl, b8⟩
        rw [← Fs.out]
        have Sx8 := Lib.hid (Sx7.out.up b8)
        have G8 := Lib.hid (G7.out.up b8)
        have P8 := Lib.hid (P7.out.up b8)
        have B8 : Hid (Below w.heap.size w w8) := Lib.hid (btr B7.out b8)
        clear b8 G7 P7 Sx7 Sy7
        go_wp2_with fail
        refine (IS ny_ A1 m c vs xss X ny_ cx x' P np cp p w8 G8.out ⟨Sx8.out.ri_, Sx8.out.1, by omega, Sx8.out.le.1⟩ P8.out HB.out).mono ?_
        rintro e w9 ⟨v, rfl, rv, b9⟩
        obtain rfl : v = true := Fc.out v rv
        have Sx9 := Lib.hid (Sx8.out.up b9)
        have P9 := Lib.hid (P8.out.up b9)
        have B9 : Hid (Below w.heap.size w w9) := Lib.hid (btr B8.out b9)
        clear rv b9 G8 P8 Sx8
        go_wp2_with fail
        refine (specPermutationLess P X cp cx np ny_ p x' w9 P9.out.ri Sx9.out.ri_ Np Sx9.out.hid (by omega) (by omega) P9.out.hc Sx9.out.le.1).mono ?_
        rintro e w10 ⟨rfl, b10⟩
        rw [Fl.out]
        have B10 : Hid (Below w.heap.size w w10) := Lib.hid (btr B9.out b10)
        clear b10
        go_wp2_with fail
        go_ret
        exact ⟨rfl, B10.out⟩
      · obtain rfl : same' = false := by
          rcases e : same' with _ | _
          · rfl
          · exact absurd (Rs.out.1 e).2.1 hq
        obtain rfl : ny_ = 0 := by
          rcases Ry.out with ⟨h, _⟩ | ⟨_, e⟩
          · exact absurd h hq
          · rw [← Ly.out, e]; rfl
        by_cases h0 : nx_ = 0
        · subst h0
          go_wp2_with fail
          go_ret
          exact ⟨rfl, B7.out⟩
        · have d1 : ((nx_ : Int) == 0) = false := by rw [beq_eq_false_iff_ne]; omega
          have H0 := Lib.hid h0
          clear h0
          go_wp2_with fail
          go_ret
          exact ⟨rfl, B7.out⟩
    · obtain rfl : same' = false := by
        rcases e : same' with _ | _
        · rfl
        · exact absurd (Rs.out.1 e).1 hp
      obtain rfl : nx_ = 0 := by
        rcases Rx.out with ⟨h, _⟩ | ⟨_, e⟩
        · exact absurd h hp
        · rw [← Lx.out, e]; rfl
      go_wp2_with fail
      go_ret
      exact ⟨rfl, B7.out⟩
  · go_enter Try.func4, Try.ntmps4
    go_wp2_with fail
    refine (bigT4 A len cap w (by omega)).mono ?_
    rintro e w0 ⟨rfl, rfl⟩
    go_wp2_with fail
    go_ret
    exact ⟨rfl, Below.refl _ _⟩
end Go.Proofs.Ytcjcmhoalomjfaa

/- The law FnCosets with the program's contracts put in. Conditions: none beyond those of the texts imported. -/
namespace Go.Proofs.Ytcjcmhoalomjfaa
open Go.RowKit
theorem nmdCosets (A : Option Addr) (cap len : Nat) (w : World) (hb : SB w w.heap.size A len) :
    Calls Try.prog 4 #[.slice A len cap] w fun e w' => e = .returned (.bool true) ∧ Below w.heap.size w w' :=
  lawCosets implSameCoset implCosetMinimum A cap len w hb
end Go.Proofs.Ytcjcmhoalomjfaa
