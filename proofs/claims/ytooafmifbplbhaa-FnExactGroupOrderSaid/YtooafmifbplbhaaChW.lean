/- The model's sift. Conditions: at most 20 points; representatives in order from the level on. -/
import Derived.Test.YtooafmifbplbhaaChU
import Derived.Test.YtooafmifbplbhaaComp
import Derived.Test.YtooafmifbplbhaaInv
import Derived.BigQuiet
namespace Go.Proofs.Ytooafmifbplbhaa
open Go.RowKit

theorem rep_ne_pos {N i y : Nat} {c : Ch} (h : RepOK N c i) (hy : c.rep i y ≠ []) : (c.rep i y).length = N := (h.at_ y hy).2.1.2
theorem bdr {B : Nat} {a w : World} (h : Below B a w) (k : Nat) : Below B a (w.drewN k) := ⟨h.os, h.tape, h.output, h.size, h.block⟩
theorem drewN_below (w : World) (k : Nat) : Below w.heap.size w (w.drewN k) := ⟨rfl, rfl, rfl, Nat.le_refl _, fun _ _ => rfl⟩

set_option maxHeartbeats 4000000 in
set_option maxRecDepth 100000 in
/-- sift: does the chain hold p? -/
theorem specSift (base g N k cp : Nat) (A : Option Addr) (c : Ch) (L : LY) (p : List Int) (w : World) (hc : Cn w base g N c L) (hp : RI w w.heap.size A p) (hP : Hid (Pn N p)) (hF : Hid (Fx k p)) (hk : k ≤ N) (hr : Hid (∀ i, k ≤ i → i < N → RepOK N c i)) :
    Calls Try.prog 81 #[.pointer (some ⟨g, 0, none⟩), .int .i64 (k : Nat), .slice A N cp] w fun e w' => ∃ (A' : Option Addr) (n' c' lvl : Nat), e = .returned (.tuple #[.slice A' n' c', .int .i64 (lvl : Nat)]) ∧ (lvl = N ↔ Sv N c k p) ∧ lvl ≤ N ∧ Below w.heap.size w w' := by
  have HC := Lib.hid hc
  have HP := Lib.hid hp
  have hN := hP.out.pos
  clear hc hp
  go_enter Try.func81, Try.ntmps81
  go_wp2_with fail
  go_loopw [2, 8] (fun v i wr => ∃ (i' c1 : Nat) (A1 : Option Addr) (q : List Int), k ≤ i' ∧ i' ≤ N ∧ i = .int .i64 (i' : Nat) ∧ v = .slice A1 N c1 ∧ RI wr wr.heap.size A1 q ∧ Pn N q ∧ Fx i' q ∧ (Sv N c k p ↔ Sv N c i' q) ∧ Below w.heap.size w wr) (fun _ i _ => N - (intOf i).toNat)
  case atStart => exact ⟨k, _, _, _, Nat.le_refl _, hk, rfl, rfl, HP.out, hP.out, hF.out, Iff.rfl, Below.refl _ _⟩
  case round =>
    obtain ⟨i, c1, A1, q, hki, hiN, rfl, rfl, hq, hqp, hqf, hsv, bel⟩ := hrel
    have Q := Lib.hid hq
    have Qp := Lib.hid hqp
    have Qf := Lib.hid hqf
    have Sv0 := Lib.hid hsv
    have Be := Lib.hid bel
    have Ci := Lib.hid (HC.out.up bel)
    clear hq hqp hqf hsv bel HC HP
    have x0 := Ci.out.c0
    by_cases hlt : i < N
    · have Ri := Lib.hid (hr.out i hki hlt)
      obtain ⟨b, off, rfl, hb, hcell⟩ := Q.out (by rw [Qp.out.2]; omega)
      have c2 := hcell i (by rw [Qp.out.2]; exact hlt)
      obtain ⟨y, ey⟩ : ∃ y, nx q i = y := ⟨_, rfl⟩
      have hy : y < N := by rw [← ey]; exact Qp.out.lt hlt
      rw [nx_val Qp.out.1 (by rw [Qp.out.2]; exact hlt), ey] at c2
      have x1 := Ci.out.c1
      have x2 := Ci.out.cR hlt
      have x3 := Ci.out.cro hlt hy
      have en := Ci.out.enn hlt hy
      have er := Ci.out.ent1 i hlt y hy
      rcases hd : (L.en i).getD y sd0 with ⟨dA, dn, dc⟩
      rw [hd] at x3 en er
      have Er : Hid (RI wr wr.heap.size dA (c.rep i y)) := Lib.hid er.ri_
      have p0 : (0 : Int) ≤ i := by omega
      have p1 : (i : Int) < N := by omega
      have p2 : (0 : Int) ≤ y := by omega
      have p3 : (y : Int) < N := by omega
      simp only [sval] at x3
      clear hb hd er hcell
      by_cases hz : c.rep i y = []
      · have hdn : dn = 0 := by
          have : dn = (c.rep i y).length := en
          rw [this, hz]; rfl
        subst hdn
        clear en
        go_wp2_with fail
        go_quiet (fail)
        go_wp2_with fail
        go_ret2
        exact ⟨_, _, _, i, rfl, ⟨fun e => absurd e (by omega), fun hs => absurd (by rw [ey]; exact hz) ((Sv0.out.1 hs).inv_low hlt).2.2.1⟩, by omega, bdr Be.out _⟩
      · have hRN : (c.rep i y).length = N := rep_ne_pos Ri.out hz
        obtain ⟨h1, hrP, hrF, hrk⟩ := Ri.out.at_ y hz
        obtain rfl : dn = N := by
          have : dn = (c.rep i y).length := en
          omega
        have RP := Lib.hid hrP
        have HRN := Lib.hid hRN
        clear en hRN h1
        have e0 : ((dn : Int) == 0) = false := by simp; omega
        go_wp2_with fail
        go_quiet (fail)
        obtain ⟨wd, hwd⟩ : ∃ wd, wr.drewN nq = wd := ⟨_, rfl⟩
        have Bd : Hid (Below wr.heap.size wr wd) := Lib.hid (by rw [← hwd]; exact drewN_below wr nq)
        have Qd := Lib.hid (Q.out.up Bd.out)
        have Ed := Lib.hid (Er.out.up Bd.out)
        have Bed : Hid (Below w.heap.size w wd) := Lib.hid (btr Be.out Bd.out)
        rw [hwd]
        clear hwd
        go_wp2_with fail
        refine (specInv dA dc dn (c.rep i y) wd Ed.out HRN (Lib.hid RP.out.1) hN.2).mono ?_
        rintro e w1 ⟨A2, c3, rfl, s2, b2⟩
        have S2 := Lib.hid s2
        have Q2 := Lib.hid (Qd.out.up b2)
        have Be2 : Hid (Below w.heap.size w w1) := Lib.hid (btr Bed.out b2)
        clear s2 b2
        go_wp2_with fail
        refine (specComp (some ⟨b, off, none⟩) A2 c1 c3 dn q (invL (c.rep i y) dn) w1 Q2.out S2.out.ri_ (Lib.hid Qp.out.2) S2.out.hid (Lib.hid Qp.out.1) hN.2).mono ?_
        rintro e w2 ⟨A3, c4, rfl, s3, b3⟩
        have S3 := Lib.hid s3
        have Be3 : Hid (Below w.heap.size w w2) := Lib.hid (btr Be2.out b3)
        clear s3 b3
        go_wp2_with fail
        have eiv : invL (c.rep i y) dn = iv (c.rep i y) := by unfold iv; rw [HRN.out]
        rw [eiv] at S3
        go_roundw
        case rel =>
          refine ⟨i + 1, _, _, _, by omega, by omega, by go_num, rfl, S3.out.ri_, Qp.out.comp RP.out.iv, ?_, ?_, Be3.out⟩
          · refine (Qf.out.comp Qp.out (hrF.iv RP.out (by omega)) (by omega)).succ ?_
            rw [Qp.out.nxc hlt, ey]
            have := RP.out.nxi hlt
            rw [hrk] at this; exact this
          · rw [Sv0.out]
            constructor
            · intro hs
              have := (hs.inv_low hlt).2.2.2
              rw [ey] at this; exact this
            · intro hs
              exact .low hlt Qp.out Qf.out (by rw [ey]; exact hz) (by rw [ey]; exact hs)
        case measure => simp [intOf]; omega
    · obtain rfl : i = N := by omega
      go_wp2_with fail
      go_quiet (fail)
      go_wp2_with fail
      go_ret2
      refine ⟨_, _, _, i, rfl, ⟨fun _ => Sv0.out.2 ?_, fun _ => rfl⟩, Nat.le_refl _, bdr Be.out _⟩
      rw [Qf.out.all Qp.out]; exact .top
end Go.Proofs.Ytooafmifbplbhaa
