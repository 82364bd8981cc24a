/- SameCycleType, of the program and of the model. No condition but lengths. -/
import Derived.Test.YtplgdbkolklgnaaTypC
import Derived.Test.YtplgdbkolklgnaaCycType
namespace Go.Proofs.Ytplgdbkolklgnaa
open Go.RowKit

set_option maxHeartbeats 800000 in
/-- The program's SameCycleType. -/
theorem implSameCycleType (A B : Option Addr) (c d n m : Nat) (p q : List Int) (w : World) (hp : RI w w.heap.size A p) (hq : RI w w.heap.size B q) (lp : Hid (p.length = n)) (lq : Hid (q.length = m)) (hn : n ≤ 2097152) (hm : m ≤ 2097152) :
    Calls Try.prog 11 #[.slice A n c, .slice B m d] w fun e w' => e = .returned (.bool (sameType p q)) ∧ Below w.heap.size w w' := by
  rcases hs : sameD p q with _ | _
  · have Fin : Hid (sameType p q = false) := Lib.hid (by unfold sameType; rw [hs]; rfl)
    go_enter Try.func11, Try.ntmps11
    go_wp2_with fail
    refine (implEq A B c d n m p q w hp hq lp lq hn hm).mono ?_
    rintro e w1 ⟨rfl, b1⟩
    have B1 := Lib.hid b1
    clear b1
    go_wp2_with fail
    go_ret
    exact ⟨by rw [Fin.out]; rfl, B1.out⟩
  · obtain ⟨h1, h2, h3⟩ := sameD_iff.1 hs
    have Fin : Hid (sameType p q = decide (ctypeL p = ctypeL q)) := Lib.hid (by unfold sameType ctypeL; rw [hs, if_pos (isP_iff.2 h2), if_pos (isP_iff.2 h3)]; rfl)
    have n1 : 1 ≤ (ctypeL p).length := by unfold ctypeL; rw [if_pos (isP_iff.2 h2), ctype_len h2]; exact cycs_pos h2
    have n2 : 1 ≤ (ctypeL q).length := by unfold ctypeL; rw [if_pos (isP_iff.2 h3), ctype_len h3]; exact cycs_pos h3
    clear h1 h2 h3
    go_enter Try.func11, Try.ntmps11
    go_wp2_with fail
    refine (implEq A B c d n m p q w hp hq lp lq hn hm).mono ?_
    rintro e w1 ⟨rfl, b1⟩
    have B1 := Lib.hid b1
    clear b1
    go_wp2_with fail
    refine (implCycleType A c n p w1 (hp.up B1.out) lp hn).mono ?_
    rintro e w2 ⟨A2, n2', c2, rfl, s2, l2, b2⟩
    have S2 := Lib.hid s2
    have B2 : Hid (Below w.heap.size w w2) := Lib.hid (btr B1.out b2)
    clear s2 b2
    go_wp2_with fail
    refine (implCycleType B d m q w2 (hq.up B2.out) lq hm).mono ?_
    rintro e w3 ⟨A3, n3', c3, rfl, s3, l3, b3⟩
    have S3 := Lib.hid s3
    have S2' := Lib.hid (S2.out.up b3)
    have B3 : Hid (Below w.heap.size w w3) := Lib.hid (btr B2.out b3)
    have k2 : 1 ≤ n2' := by rw [← S2.out.1]; exact n1
    have k3 : 1 ≤ n3' := by rw [← s3.1]; exact n2
    clear s3 b3 n1 n2
    go_wp2_with fail
    refine (equalT _ _ A2 A3 n2' c2 n3' c3 _ _ w3 S2'.out S3.out k2 k3 (by omega) (by omega)).mono ?_
    rintro e w4 ⟨rfl, b4⟩
    have B4 : Hid (Below w.heap.size w w4) := Lib.hid (btr B3.out b4)
    clear b4
    go_wp2_with fail
    go_ret
    exact ⟨by rw [Fin.out]; rfl, B4.out⟩

set_option maxHeartbeats 400000 in
theorem equalIs_core (A B : Option Addr) (c d n : Nat) (xs ys : List Int) (w : World) (hx : RI w w.heap.size A xs) (hy : RI w w.heap.size B ys) (lx : Hid (xs.length = n)) (ly : Hid (ys.length = n)) (hn : n ≤ 2097152) :
    Calls Try.prog 35 #[.slice A n c, .slice B n d] w fun e w' => e = .returned (.bool (decide (xs = ys))) ∧ ∃ m, w' = w.drewN m := by
  go_enter Try.func35, Try.ntmps35
  go_wp2
  go_loopw [5] (fun i wr => ∃ k : Nat, k ≤ n ∧ i = .int .i64 k ∧ (∀ j, j < k → xs.getD j 0 = ys.getD j 0) ∧ ∃ m, wr = w.drewN m) (fun i _ => n - (intOf i).toNat)
  case atStart => exact ⟨0, Nat.zero_le _, rfl, fun j h => absurd h (by omega), 0, rfl⟩
  case round =>
    obtain ⟨k, hk, rfl, heq, m, rfl⟩ := hrel
    have Heq := Lib.hid heq
    clear heq
    by_cases hlt : k < n
    · obtain ⟨b, off, rfl, hb, hc⟩ := hx (by rw [lx.out]; omega)
      obtain ⟨b', off', rfl, hb', hc'⟩ := hy (by rw [ly.out]; omega)
      have c1 := hc k (by rw [lx.out]; omega)
      have c2 := hc' k (by rw [ly.out]; omega)
      obtain ⟨x, ex⟩ : ∃ x, xs.getD k 0 = x := ⟨_, rfl⟩
      obtain ⟨y, ey⟩ : ∃ y, ys.getD k 0 = y := ⟨_, rfl⟩
      rw [ex] at c1
      rw [ey] at c2
      have Ex := Lib.hid ex
      have Ey := Lib.hid ey
      clear ex ey hc hc' hx hy
      have p1 : (0 : Int) ≤ k := by omega
      have p2 : (k : Int) < n := by omega
      by_cases hxy : x = y
      · subst hxy
        go_wp2
        go_quiet (fail)
        go_wp2
        go_roundw
        case rel => exact ⟨k + 1, by omega, by go_num, fun j hj => by
          by_cases e : j = k
          · subst e; rw [Ex.out, Ey.out]
          · exact Heq.out j (by omega), _, rfl⟩
        case measure => simp [intOf]; omega
      · have hd : (x != y) = true := by simpa using hxy
        have hd' : (x == y) = false := by simpa using hxy
        go_wp2
        go_quiet (fail)
        go_wp2
        go_ret
        refine ⟨ret_bool (Eq.symm (decide_eq_false fun e => hxy ?_)), _, World.drewN_drewN _ _ _⟩
        rw [← Ex.out, ← Ey.out, e]
    · go_wp2
      go_ret
      have : k = n := by omega
      subst this
      exact ⟨ret_bool (Eq.symm (decide_eq_true (ext_getD lx.out ly.out Heq.out))), _, rfl⟩
theorem equalIs (A B : Option Addr) (c d n m : Nat) (xs ys : List Int) (w : World) (hx : RI w w.heap.size A xs) (hy : RI w w.heap.size B ys) (lx : Hid (xs.length = n)) (ly : Hid (ys.length = m)) (hn : n ≤ 2097152) (hm : m ≤ 2097152) :
    Calls Try.prog 35 #[.slice A n c, .slice B m d] w fun e w' => e = .returned (.bool (decide (xs = ys))) ∧ ∃ m, w' = w.drewN m := by
  by_cases hl : n = m
  · subst hl
    exact equalIs_core A B c d n xs ys w hx hy lx ly hn
  · have hd : ((n : Int) != (m : Int)) = true := by rw [bne_iff_ne]; omega
    have hd' : ((n : Int) == (m : Int)) = false := by rw [beq_eq_false_iff_ne]; omega
    go_enter Try.func35, Try.ntmps35
    go_wp2
    go_ret
    refine ⟨ret_bool (Eq.symm (decide_eq_false fun e => hl ?_)), 0, rfl⟩
    rw [← lx.out, ← ly.out, e]

set_option maxHeartbeats 800000 in
/-- The model's SameCycleType. -/
theorem specSameCycleType (A B : Option Addr) (c d n m : Nat) (p q : List Int) (w : World) (hp : RI w w.heap.size A p) (hq : RI w w.heap.size B q) (lp : Hid (p.length = n)) (lq : Hid (q.length = m)) (hn : n ≤ 2097152) (hm : m ≤ 2097152) (hc : n ≤ c) (hd : m ≤ d) :
    Calls Try.prog 14 #[.slice A n c, .slice B m d] w fun e w' => e = .returned (.bool (sameType p q)) ∧ Below w.heap.size w w' := by
  rcases hs : isP p with _ | _
  · have Fin : Hid (sameType p q = false) := Lib.hid (by unfold sameType sameD; rw [hs]; simp)
    go_enter Try.func14, Try.ntmps14
    go_wp2_with fail
    refine (quiet_below (specIsP A c n p w hp lp hn hc)).mono ?_
    rintro e w1 ⟨rfl, b1⟩
    have B1 := Lib.hid b1
    clear b1
    go_wp2_with fail
    go_ret
    exact ⟨by rw [Fin.out]; rfl, B1.out⟩
  rcases hs2 : isP q with _ | _
  · have Fin : Hid (sameType p q = false) := Lib.hid (by unfold sameType sameD; rw [hs2]; simp)
    go_enter Try.func14, Try.ntmps14
    go_wp2_with fail
    refine (quiet_below (specIsP A c n p w hp lp hn hc)).mono ?_
    rintro e w1 ⟨rfl, b1⟩
    have B1 := Lib.hid b1
    clear b1
    go_wp2_with fail
    refine (quiet_below (specIsP B d m q w1 (hq.up B1.out) lq hm hd)).mono ?_
    rintro e w2 ⟨rfl, b2⟩
    have B2 : Hid (Below w.heap.size w w2) := Lib.hid (btr B1.out b2)
    clear b2
    go_wp2_with fail
    go_ret
    exact ⟨by rw [Fin.out]; rfl, B2.out⟩
  · have Fin : Hid (sameType p q = decide (ctypeL p = ctypeL q)) := Lib.hid (by
      unfold sameType sameD ctypeL
      rw [hs, hs2]
      simp only [Bool.and_true, if_true]
      by_cases e : ctype p = ctype q
      · rw [decide_eq_true (ctype_deg (isP_iff.1 hs) (isP_iff.1 hs2) e)]; rfl
      · rw [decide_eq_false e, Bool.and_false])
    go_enter Try.func14, Try.ntmps14
    go_wp2_with fail
    refine (quiet_below (specIsP A c n p w hp lp hn hc)).mono ?_
    rintro e w1 ⟨rfl, b1⟩
    have B1 := Lib.hid b1
    clear b1
    go_wp2_with fail
    refine (quiet_below (specIsP B d m q w1 (hq.up B1.out) lq hm hd)).mono ?_
    rintro e w2 ⟨rfl, b2⟩
    have B2 : Hid (Below w.heap.size w w2) := Lib.hid (btr B1.out b2)
    clear b2
    go_wp2_with fail
    refine (specCycleType A c n p w2 (hp.up B2.out) lp hn hc).mono ?_
    rintro e w3 ⟨A3, n3, c3, rfl, s3, l3, b3⟩
    have S3 := Lib.hid s3
    have B3 : Hid (Below w.heap.size w w3) := Lib.hid (btr B2.out b3)
    clear s3 b3
    go_wp2_with fail
    refine (specCycleType B d m q w3 (hq.up B3.out) lq hm hd).mono ?_
    rintro e w4 ⟨A4, n4, c4, rfl, s4, l4, b4⟩
    have S4 := Lib.hid s4
    have S3' := Lib.hid (S3.out.up b4)
    have B4 : Hid (Below w.heap.size w w4) := Lib.hid (btr B3.out b4)
    clear s4 b4
    go_wp2_with fail
    refine (quiet_below (equalIs A3 A4 c3 c4 n3 n4 _ _ w4 S3'.out.ri_ S4.out.ri_ S3'.out.hid S4.out.hid (by omega) (by omega))).mono ?_
    rintro e w5 ⟨rfl, b5⟩
    have B5 : Hid (Below w.heap.size w w5) := Lib.hid (btr B4.out b5)
    clear b5
    go_wp2_with fail
    go_ret
    exact ⟨by rw [Fin.out]; rfl, B5.out⟩
end Go.Proofs.Ytplgdbkolklgnaa
