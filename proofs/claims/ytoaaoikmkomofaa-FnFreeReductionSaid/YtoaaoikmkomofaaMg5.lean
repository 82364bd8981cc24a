/- Part 5 of the texts: WalkI8, WsN, Shelf, Row, WpN, WalkJ8, WpM, WsR, WpR, WalkF8. No condition of its own: each text tells its own. -/
import Derived.Test.YtoaaoikmkomofaaMg4
import Derived.Test.YtoaaoikmkomofaaMg1
import Derived.Test.YtoaaoikmkomofaaMg3
import Derived.Deep.QuietTactic
import Derived.BigQuiet
import Derived.Shelf.SlicesE.Compact
import Derived.Test.YtoaaoikmkomofaaProg
import Derived.Sort.Grow
import Derived.Laws.Bits64b
import Derived.Laws.CopyOwn
import Derived.Deep.RegionLaw
import Derived.Maps.AppendAt
set_option linter.unusedVariables false
set_option linter.unusedSimpArgs false

/- The walk of the law FnExactWordLess: it returns true at every input, and writes nothing that was there. No condition. -/
namespace Go.Proofs.Ytoaaoikmkomofaa
open Go.RowKit

set_option maxHeartbeats 4000000 in
set_option maxRecDepth 100000 in
/-- The law FnExactWordLess. -/
theorem lawWordLess (s0A : Option Addr) (s0n s0c : Nat) (s0x : List Int) (s1A : Option Addr) (s1n s1c : Nat) (s1x : List Int) (w : World) (hs0 : RI w w.heap.size s0A s0x) (ls0 : Hid (s0x.length = s0n)) (vs0 : Hid (VI s0x)) (hs1 : RI w w.heap.size s1A s1x) (ls1 : Hid (s1x.length = s1n)) (vs1 : Hid (VI s1x)) :
    Calls Try.prog 14 #[.slice s0A s0n s0c, .slice s1A s1n s1c] w fun e w' => e = .returned (.bool true) ∧ Below w.heap.size w w' := by
  have Hs0 := Lib.hid hs0
  have Hs1 := Lib.hid hs1
  clear hs0 hs1
  by_cases hns0 : s0n ≤ 1048576
  · skip
    by_cases hns1 : s1n ≤ 1048576
    · skip
      go_enter Try.func14, Try.ntmps14
      go_wp2_with fail
      refine (toS_any s0A s0c s0n s0x w Hs0.out ls0 (by omega)).mono ?_
      rintro e w1 ⟨A1, c1, rfl, s1, b1⟩
      have B1 : Hid (Below w.heap.size w w1) := Lib.hid b1
      have Fts0_1 := Lib.hid s1
      have Lts0 := Lib.hid s1.lies
      have lets0 := s1.le.1
      clear s1 b1
      go_wp2_with fail
      refine (toS_any s1A s1c s1n s1x w1 (Hs1.out.up B1.out) ls1 (by omega)).mono ?_
      rintro e w2 ⟨A2, c2, rfl, s2, b2⟩
      have B1_2 : Hid (Below w1.heap.size w1 w2) := Lib.hid b2
      have B2 : Hid (Below w.heap.size w w2) := Lib.hid (btr B1.out b2)
      have Fts0_2 := Lib.hid (Fts0_1.out.up b2)
      clear Fts0_1
      have Fts1_2 := Lib.hid s2
      have Lts1 := Lib.hid s2.lies
      have lets1 := s2.le.1
      clear s2 b2
      go_wp2_with fail
      refine (specWordLess _ _ _ _ _ _ s0x s1x w2 Fts0_2.out.ri_ Fts1_2.out.ri_ ls0 ls1 (by omega) (by omega)).mono ?_
      rintro e w3 ⟨rfl, b3⟩
      have B1_3 : Hid (Below w1.heap.size w1 w3) := Lib.hid (btr B1_2.out b3)
      have B2_3 : Hid (Below w2.heap.size w2 w3) := Lib.hid b3
      have B3 : Hid (Below w.heap.size w w3) := Lib.hid (btr B2.out b3)
      have Fts0_3 := Lib.hid (Fts0_2.out.up b3)
      clear Fts0_2
      have Fts1_3 := Lib.hid (Fts1_2.out.up b3)
      clear Fts1_2
      clear b3
      clear Fts0_3
      clear Fts1_3
      go_wp2_with fail
      refine (toS_any s0A s0c s0n s0x w3 (Hs0.out.up B3.out) ls0 (by omega)).mono ?_
      rintro e w4 ⟨A4, c4, rfl, s4, b4⟩
      have B1_4 : Hid (Below w1.heap.size w1 w4) := Lib.hid (btr B1_3.out b4)
      have B2_4 : Hid (Below w2.heap.size w2 w4) := Lib.hid (btr B2_3.out b4)
      have B3_4 : Hid (Below w3.heap.size w3 w4) := Lib.hid b4
      have B4 : Hid (Below w.heap.size w w4) := Lib.hid (btr B3.out b4)
      have Fxs0_4 := Lib.hid s4
      have Lxs0 := Lib.hid s4.lies
      have lexs0 := s4.le.1
      clear s4 b4
      go_wp2_with fail
      refine (toS_any s1A s1c s1n s1x w4 (Hs1.out.up B4.out) ls1 (by omega)).mono ?_
      rintro e w5 ⟨A5, c5, rfl, s5, b5⟩
      have B1_5 : Hid (Below w1.heap.size w1 w5) := Lib.hid (btr B1_4.out b5)
      have B2_5 : Hid (Below w2.heap.size w2 w5) := Lib.hid (btr B2_4.out b5)
      have B3_5 : Hid (Below w3.heap.size w3 w5) := Lib.hid (btr B3_4.out b5)
      have B4_5 : Hid (Below w4.heap.size w4 w5) := Lib.hid b5
      have B5 : Hid (Below w.heap.size w w5) := Lib.hid (btr B4.out b5)
      have Fxs0_5 := Lib.hid (Fxs0_4.out.up b5)
      clear Fxs0_4
      have Fxs1_5 := Lib.hid s5
      have Lxs1 := Lib.hid s5.lies
      have lexs1 := s5.le.1
      clear s5 b5
      go_wp2_with fail
      refine (implWordLess _ _ _ _ _ _ s0x s1x w5 Fxs0_5.out.ri_ Fxs1_5.out.ri_ ls0 ls1 (by omega) (by omega) vs0 vs1).mono ?_
      rintro e w6 ⟨rfl, b6⟩
      have B1_6 : Hid (Below w1.heap.size w1 w6) := Lib.hid (btr B1_5.out b6)
      have B2_6 : Hid (Below w2.heap.size w2 w6) := Lib.hid (btr B2_5.out b6)
      have B3_6 : Hid (Below w3.heap.size w3 w6) := Lib.hid (btr B3_5.out b6)
      have B4_6 : Hid (Below w4.heap.size w4 w6) := Lib.hid (btr B4_5.out b6)
      have B5_6 : Hid (Below w5.heap.size w5 w6) := Lib.hid b6
      have B6 : Hid (Below w.heap.size w w6) := Lib.hid (btr B5.out b6)
      have Fxs0_6 := Lib.hid (Fxs0_5.out.up b6)
      clear Fxs0_5
      have Fxs1_6 := Lib.hid (Fxs1_5.out.up b6)
      clear Fxs1_5
      clear b6
      go_wp2_with fail
      refine (toS_any s0A s0c s0n s0x w6 (Hs0.out.up B6.out) ls0 (by omega)).mono ?_
      rintro e w7 ⟨A7, c7, rfl, s7, b7⟩
      have B1_7 : Hid (Below w1.heap.size w1 w7) := Lib.hid (btr B1_6.out b7)
      have B2_7 : Hid (Below w2.heap.size w2 w7) := Lib.hid (btr B2_6.out b7)
      have B3_7 : Hid (Below w3.heap.size w3 w7) := Lib.hid (btr B3_6.out b7)
      have B4_7 : Hid (Below w4.heap.size w4 w7) := Lib.hid (btr B4_6.out b7)
      have B5_7 : Hid (Below w5.heap.size w5 w7) := Lib.hid (btr B5_6.out b7)
      have B6_7 : Hid (Below w6.heap.size w6 w7) := Lib.hid b7
      have B7 : Hid (Below w.heap.size w w7) := Lib.hid (btr B6.out b7)
      have Fxs0_7 := Lib.hid (Fxs0_6.out.up b7)
      clear Fxs0_6
      have Fxs1_7 := Lib.hid (Fxs1_6.out.up b7)
      clear Fxs1_6
      have Fys0_7 := Lib.hid s7
      have Lys0 := Lib.hid s7.lies
      have leys0 := s7.le.1
      clear s7 b7
      go_wp2_with fail
      refine (eqS_same _ _ A4 A7 s0n c4 s0n c7 w7 Fxs0_7.out Fys0_7.out (by omega)).mono ?_
      rintro e w8 ⟨rfl, b8⟩
      have B1_8 : Hid (Below w1.heap.size w1 w8) := Lib.hid (btr B1_7.out b8)
      have B2_8 : Hid (Below w2.heap.size w2 w8) := Lib.hid (btr B2_7.out b8)
      have B3_8 : Hid (Below w3.heap.size w3 w8) := Lib.hid (btr B3_7.out b8)
      have B4_8 : Hid (Below w4.heap.size w4 w8) := Lib.hid (btr B4_7.out b8)
      have B5_8 : Hid (Below w5.heap.size w5 w8) := Lib.hid (btr B5_7.out b8)
      have B6_8 : Hid (Below w6.heap.size w6 w8) := Lib.hid (btr B6_7.out b8)
      have B7_8 : Hid (Below w7.heap.size w7 w8) := Lib.hid b8
      have B8 : Hid (Below w.heap.size w w8) := Lib.hid (btr B7.out b8)
      have Fxs0_8 := Lib.hid (Fxs0_7.out.up b8)
      clear Fxs0_7
      have Fxs1_8 := Lib.hid (Fxs1_7.out.up b8)
      clear Fxs1_7
      have Fys0_8 := Lib.hid (Fys0_7.out.up b8)
      clear Fys0_7
      clear b8
      clear Fys0_8
      go_wp2_with fail
      refine (toS_any s1A s1c s1n s1x w8 (Hs1.out.up B8.out) ls1 (by omega)).mono ?_
      rintro e w9 ⟨A9, c9, rfl, s9, b9⟩
      have B1_9 : Hid (Below w1.heap.size w1 w9) := Lib.hid (btr B1_8.out b9)
      have B2_9 : Hid (Below w2.heap.size w2 w9) := Lib.hid (btr B2_8.out b9)
      have B3_9 : Hid (Below w3.heap.size w3 w9) := Lib.hid (btr B3_8.out b9)
      have B4_9 : Hid (Below w4.heap.size w4 w9) := Lib.hid (btr B4_8.out b9)
      have B5_9 : Hid (Below w5.heap.size w5 w9) := Lib.hid (btr B5_8.out b9)
      have B6_9 : Hid (Below w6.heap.size w6 w9) := Lib.hid (btr B6_8.out b9)
      have B7_9 : Hid (Below w7.heap.size w7 w9) := Lib.hid (btr B7_8.out b9)
      have B8_9 : Hid (Below w8.heap.size w8 w9) := Lib.hid b9
      have B9 : Hid (Below w.heap.size w w9) := Lib.hid (btr B8.out b9)
      have Fxs0_9 := Lib.hid (Fxs0_8.out.up b9)
      clear Fxs0_8
      have Fxs1_9 := Lib.hid (Fxs1_8.out.up b9)
      clear Fxs1_8
      have Fys1_9 := Lib.hid s9
      have Lys1 := Lib.hid s9.lies
      have leys1 := s9.le.1
      clear s9 b9
      go_wp2_with fail
      refine (eqS_same _ _ A5 A9 s1n c5 s1n c9 w9 Fxs1_9.out Fys1_9.out (by omega)).mono ?_
      rintro e w10 ⟨rfl, b10⟩
      have B1_10 : Hid (Below w1.heap.size w1 w10) := Lib.hid (btr B1_9.out b10)
      have B2_10 : Hid (Below w2.heap.size w2 w10) := Lib.hid (btr B2_9.out b10)
      have B3_10 : Hid (Below w3.heap.size w3 w10) := Lib.hid (btr B3_9.out b10)
      have B4_10 : Hid (Below w4.heap.size w4 w10) := Lib.hid (btr B4_9.out b10)
      have B5_10 : Hid (Below w5.heap.size w5 w10) := Lib.hid (btr B5_9.out b10)
      have B6_10 : Hid (Below w6.heap.size w6 w10) := Lib.hid (btr B6_9.out b10)
      have B7_10 : Hid (Below w7.heap.size w7 w10) := Lib.hid (btr B7_9.out b10)
      have B8_10 : Hid (Below w8.heap.size w8 w10) := Lib.hid (btr B8_9.out b10)
      have B9_10 : Hid (Below w9.heap.size w9 w10) := Lib.hid b10
      have B10 : Hid (Below w.heap.size w w10) := Lib.hid (btr B9.out b10)
      have Fxs0_10 := Lib.hid (Fxs0_9.out.up b10)
      clear Fxs0_9
      have Fxs1_10 := Lib.hid (Fxs1_9.out.up b10)
      clear Fxs1_9
      have Fys1_10 := Lib.hid (Fys1_9.out.up b10)
      clear Fys1_9
      clear b10
      clear Fys1_10
      go_wp2_with fail
      go_ret
      exact ⟨rfl, B10.out⟩
    · have d1 : decide ((1048576 : Int) < s1n) = true := by simp; omega
      go_enter Try.func14, Try.ntmps14
      go_wp2
      go_ret
      exact ⟨rfl, Below.refl _ _⟩
  · have d1 : decide ((1048576 : Int) < s0n) = true := by simp; omega
    go_enter Try.func14, Try.ntmps14
    go_wp2
    go_ret
    exact ⟨rfl, Below.refl _ _⟩
end Go.Proofs.Ytoaaoikmkomofaa

/- The model's word length. Condition: at most 2097152 letters. -/
namespace Go.Proofs.Ytoaaoikmkomofaa
open Go.RowKit

/-- The letters counted among the first k of r, in a metric. -/
def lenW (m : Int) (r : List Int) (k : Nat) : Nat := if m = 1 then k else runW r k
def wlenF (wd : List Int) (m : Int) : Int := if vW 8 wd = true ∧ (m = 1 ∨ m = 2) then (lenW m (redW wd) (redW wd).length : Nat) else -1
theorem lenW_le (m : Int) (r : List Int) (k : Nat) : lenW m r k ≤ k := by
  unfold lenW
  split
  · exact Nat.le_refl _
  · exact runW_le r k
theorem lenW_zero (m : Int) (r : List Int) : lenW m r 0 = 0 := by have := lenW_le m r 0; omega
theorem lenW_one (r : List Int) (k : Nat) : lenW 1 r k = k := if_pos rfl
theorem lenW_two (r : List Int) (k : Nat) : lenW 2 r k = runW r k := if_neg (by decide)
theorem runW_new {r : List Int} {k : Nat} (h : newR r k = true) : runW r (k + 1) = runW r k + 1 := by simp [runW, h]
theorem runW_old {r : List Int} {k : Nat} (h : newR r k = false) : runW r (k + 1) = runW r k := by simp [runW, h]

set_option maxHeartbeats 4000000 in
set_option maxRecDepth 100000 in
theorem specWordLength (A : Option Addr) (n c : Nat) (wd : List Int) (m : Int) (w : World) (hx : RI w w.heap.size A wd) (lx : Hid (wd.length = n)) (hn : n ≤ 2097152) :
    Calls Try.prog 30 #[.slice A n c, .int .i64 m] w fun e w' => e = .returned (.int .i64 (wlenF wd m)) ∧ Below w.heap.size w w' := by
  have HX := Lib.hid hx
  clear hx
  rcases hv : vW 8 wd with _ | _
  · have Hv := Lib.hid hv
    have Fin : Hid (wlenF wd m = -1) := Lib.hid (by unfold wlenF; rw [if_neg (by rw [hv]; simp)])
    clear hv
    go_enter Try.func30, Try.ntmps30
    go_wp2_with fail
    refine (specIsWd A n c wd w HX.out lx hn).mono ?_
    rintro e w' ⟨rfl, rfl⟩
    rw [Hv.out]
    go_wp2_with fail
    go_ret
    exact ⟨by rw [Fin.out]; try rfl, Below.refl _ _⟩
  · have Hv := Lib.hid hv
    have hs := small_of hv lx.out
    have hn2 := hs.1
    have Hl := Lib.hid hs.2
    clear hv hs
    by_cases hm : 1 ≤ m ∧ m ≤ 2
    · have Fin : Hid (wlenF wd m = (lenW m (redW wd) (redW wd).length : Nat)) := Lib.hid (by unfold wlenF; rw [if_pos ⟨Hv.out, by omega⟩])
      go_enter Try.func30, Try.ntmps30
      go_wp2_with fail
      refine (specIsWd A n c wd w HX.out lx hn).mono ?_
      rintro e w' ⟨rfl, rfl⟩
      rw [Hv.out]
      go_wp2_with fail
      refine (inR_true m _ _ _ (by omega) (by omega)).mono ?_
      rintro e w' ⟨rfl, rfl⟩
      go_wp2_with fail
      refine (specFreeR A n c wd w HX.out lx hn2 Hl).mono ?_
      rintro e w1 ⟨A1, n1, c1, rfl, s1, hn1, b1⟩
      obtain ⟨r, er⟩ : ∃ r, redW wd = r := ⟨_, rfl⟩
      have Sl : Hid (∀ i, i < n1 → -8 ≤ r.getD i 0 ∧ r.getD i 0 ≤ 8) := Lib.hid (by
        have := (small_of (vW_red Hv.out) (s1.1)).2
        rw [← er]; exact this)
      rw [er] at s1 Fin
      have S1 := Lib.hid s1
      have B1 := Lib.hid b1
      have Lr : Hid (r.length = n1) := Lib.hid s1.1
      clear s1 b1 er
      go_wp2_with fail
      go_loopw [6, 7] (fun lv iv wr => ∃ k : Nat, k ≤ n1 ∧ iv = .int .i64 (k : Nat) ∧ lv = .int .i64 (lenW m r k : Nat) ∧ ∃ q, wr = w1.drewN q) (fun _ iv _ => n1 - (intOf iv).toNat)
      case atStart => exact ⟨0, Nat.zero_le _, rfl, by rw [lenW_zero]; rfl, 0, rfl⟩
      case round =>
        obtain ⟨k, hk, rfl, rfl, q, rfl⟩ := hrel
        have hle := lenW_le m r k
        obtain ⟨L, eL⟩ : ∃ L, lenW m r k = L := ⟨_, rfl⟩
        rw [eL] at hle ⊢
        have EL := Lib.hid eL
        clear eL
        by_cases hlt : k < n1
        · obtain ⟨b, off, rfl, _, hc⟩ := S1.out.ri_ (by rw [Lr.out]; omega)
          have c1 := hc k (by rw [Lr.out]; exact hlt)
          obtain ⟨x, ex⟩ : ∃ x, r.getD k 0 = x := ⟨_, rfl⟩
          have hxx := Sl.out k hlt
          rw [ex] at c1 hxx
          have p0 : (0 : Int) ≤ k := by omega
          have p1 : (k : Int) < n1 := by omega
          have wL : IntKind.i64.wrap ((L : Int) + 1) = (L : Int) + 1 := by rw [IntKind.wrap_i64]; omega
          by_cases hk0 : k = 0
          · subst hk0
            have New : Hid (lenW m r 1 = L + 1) := Lib.hid (by
              rw [← EL.out]; unfold lenW
              split
              · rfl
              · exact runW_new (by simp [newR]))
            have Ex := Lib.hid ex
            clear hc ex
            have d0 : decide ((0 : Int) < ((0 : Nat) : Int)) = false := by simp
            by_cases hm1 : m = 1
            · subst hm1
              go_wp2_with fail
              go_quiet (fail)
              go_wp2_with fail
              go_roundw
              case rel => exact ⟨1, by omega, by go_num, by rw [New.out]; go_num, _, rfl⟩
              case measure => simp [intOf]; omega
            · obtain rfl : m = 2 := by omega
              go_wp2_with fail
              go_quiet (fail)
              go_wp2_with fail
              go_roundw
              case rel => exact ⟨1, by omega, by go_num, by rw [New.out]; go_num, _, rfl⟩
              case measure => simp [intOf]; omega
          · have hkp : 0 < k := by omega
            have d0 : decide (0 < k) = true := decide_eq_true hkp
            obtain ⟨K, hK⟩ : ∃ K, k - 1 = K := ⟨_, rfl⟩
            have c2 := hc K (by rw [Lr.out]; omega)
            obtain ⟨y, ey⟩ : ∃ y, r.getD K 0 = y := ⟨_, rfl⟩
            have hyy := Sl.out K (by omega)
            rw [ey] at c2 hyy
            have wK : IntKind.i64.wrap ((k : Int) - 1) = (K : Int) := by rw [IntKind.wrap_i64]; omega
            have wy : IntKind.i64.wrap (-y) = -y := by rw [IntKind.wrap_i64]; omega
            have r0 : (0 : Int) ≤ K := by omega
            have r1 : (K : Int) < n1 := by omega
            have Nw : Hid (newR r k = decide (x ≠ y ∧ x ≠ -y)) := Lib.hid (by
              unfold newR
              rw [hK, ex, ey]
              simp [hk0])
            clear hc ex ey
            by_cases hxy : x = y
            · have de : (x == y) = true := by simpa using hxy
              have Old : Hid (newR r k = false) := Lib.hid (by rw [Nw.out]; simp [hxy])
              clear hxy
              by_cases hm1 : m = 1
              · subst hm1
                have New : Hid (lenW 1 r (k + 1) = L + 1) := Lib.hid (by rw [← EL.out]; simp [lenW])
                go_wp2_with fail
                go_quiet (fail)
                go_wp2_with fail
                go_roundw
                case rel => exact ⟨k + 1, by omega, by go_num, by rw [New.out]; go_num, _, rfl⟩
                case measure => simp [intOf]; omega
              · obtain rfl : m = 2 := by omega
                have New : Hid (lenW 2 r (k + 1) = L) := Lib.hid (by rw [← EL.out, lenW_two, lenW_two]; exact runW_old Old.out)
                go_wp2_with fail
                go_quiet (fail)
                go_wp2_with fail
                go_roundw
                case rel => exact ⟨k + 1, by omega, by go_num, by rw [New.out], _, rfl⟩
                case measure => simp [intOf]; omega
            · have de : (x == y) = false := by simpa using hxy
              by_cases hxz : x = -y
              · have dz : (x == -y) = true := by simpa using hxz
                have Old : Hid (newR r k = false) := Lib.hid (by rw [Nw.out]; simp [hxz])
                clear hxy hxz
                by_cases hm1 : m = 1
                · subst hm1
                  have New : Hid (lenW 1 r (k + 1) = L + 1) := Lib.hid (by rw [← EL.out]; simp [lenW])
                  go_wp2_with fail
                  go_quiet (fail)
                  go_wp2_with fail
                  go_roundw
                  case rel => exact ⟨k + 1, by omega, by go_num, by rw [New.out]; go_num, _, rfl⟩
                  case measure => simp [intOf]; omega
                · obtain rfl : m = 2 := by omega
                  have New : Hid (lenW 2 r (k + 1) = L) := Lib.hid (by rw [← EL.out, lenW_two, lenW_two]; exact runW_old Old.out)
                  go_wp2_with fail
                  go_quiet (fail)
                  go_wp2_with fail
                  go_roundw
                  case rel => exact ⟨k + 1, by omega, by go_num, by rw [New.out], _, rfl⟩
                  case measure => simp [intOf]; omega
              · have dz : (x == -y) = false := by simpa using hxz
                have New : Hid (lenW m r (k + 1) = L + 1) := Lib.hid (by
                  rw [← EL.out]; unfold lenW
                  split
                  · rfl
                  · exact runW_new (by rw [Nw.out]; exact decide_eq_true ⟨hxy, hxz⟩))
                clear hxy hxz
                by_cases hm1 : m = 1
                · subst hm1
                  go_wp2_with fail
                  go_quiet (fail)
                  go_wp2_with fail
                  go_roundw
                  case rel => exact ⟨k + 1, by omega, by go_num, by rw [New.out]; go_num, _, rfl⟩
                  case measure => simp [intOf]; omega
                · obtain rfl : m = 2 := by omega
                  go_wp2_with fail
                  go_quiet (fail)
                  go_wp2_with fail
                  go_roundw
                  case rel => exact ⟨k + 1, by omega, by go_num, by rw [New.out]; go_num, _, rfl⟩
                  case measure => simp [intOf]; omega
        · obtain rfl : k = n1 := by omega
          have Be : Hid (Below w.heap.size w (w1.drewN q)) := Lib.hid (below_drewN B1.out q)
          have Fin2 : Hid (wlenF wd m = (L : Nat)) := Lib.hid (by rw [Fin.out, Lr.out, EL.out])
          go_wp2_with fail
          go_ret
          exact ⟨by rw [Fin2.out]; try rfl, Be.out⟩
    · have Fin : Hid (wlenF wd m = -1) := Lib.hid (by unfold wlenF; rw [if_neg (by omega)])
      go_enter Try.func30, Try.ntmps30
      go_wp2_with fail
      refine (specIsWd A n c wd w HX.out lx hn).mono ?_
      rintro e w' ⟨rfl, rfl⟩
      rw [Hv.out]
      go_wp2_with fail
      refine (inR_false m _ _ _ (by omega)).mono ?_
      rintro e w' ⟨rfl, rfl⟩
      go_wp2_with fail
      go_ret
      exact ⟨by rw [Fin.out]; try rfl, Below.refl _ _⟩
end Go.Proofs.Ytoaaoikmkomofaa

/- The library's contracts laid at this program: tables of numbers, and facts that the kernel compares. No condition. -/
namespace Go.Proofs.Ytoaaoikmkomofaa
open Go.Proofs Go.Shelf
def laySCp_ren : Go.Shelf.Ren := ⟨fun | 43 => 72 | n => n, fun | 22 => 25 | 23 => 2 | 3 => 3 | 4 => 4 | 0 => 0 | n => n, fun | n => n⟩
theorem laySCp : Go.Proofs.SlLaysE.n43 Try.prog laySCp_ren := {
  mixed := by kernel_rfl
  f43 := ⟨Try.f72.name, by decide, Try.func72.trans (congrArg some (by kernel_rfl))⟩
  t0 := Try.underlying0
  a0 := Try.isAgg0
  z0 := Try.sizeOf0
  v0 := Try.zeroValue0
  t3 := Try.underlying3
  a3 := Try.isAgg3
  z3 := Try.sizeOf3
  v3 := Try.zeroValue3
  t4 := Try.underlying4
  a4 := Try.isAgg4
  z4 := Try.sizeOf4
  v4 := Try.zeroValue4
  t22 := Try.underlying25
  a22 := Try.isAgg25
  z22 := Try.sizeOf25
  v22 := Try.zeroValue25
  a23 := Try.isAgg2
  z23 := Try.sizeOf2 }
end Go.Proofs.Ytoaaoikmkomofaa

/- Rows of the call's own that the library has written over. No condition. -/
namespace Go.Proofs.Ytoaaoikmkomofaa
open Go.RowKit Go.Sort

theorem heap_put {α : Type} [Inhabited α] (enc : α → Value) (w : World) (k g : Nat) (d : Array α) (os : Array Obj) {cur : Array Value} {e : TypeId} {fr : Nat × Nat} (hb : w.heap[g]? = some (.cells cur e fr)) :
    (grow (putRow enc (Sort.ahead w k) g 0 d) os).heap[g]? = some (.cells (putCells enc 0 d cur) e fr) := by
  have hlt : g < w.heap.size := (Array.getElem?_eq_some_iff.1 hb).1
  rw [heap_grow_old _ _ (by simpa using hlt)]
  unfold putRow mapBlock
  simp [Array.getElem?_modify, hb, onCells]
theorem put_take {α : Type} [Inhabited α] (enc : α → Value) (ts : List α) (cur : Array Value) (n : Nat) (hn : n ≤ ts.length) (hc : ts.length ≤ cur.size) : (putCells enc 0 ts.toArray cur).toList.take n = (ts.take n).map enc := by
  apply List.ext_getElem
  · simp [putCells]; omega
  · intro i h1 h2
    simp [putCells] at h1 h2 ⊢
    rw [if_pos (by omega)]
    rw [List.getElem?_eq_getElem (by omega)]; rfl
theorem grown_put {α : Type} [Inhabited α] (enc : α → Value) (w : World) (k g : Nat) (d : Array α) (os : Array Obj) : w.grownBy (grow (putRow enc (Sort.ahead w k) g 0 d) os) (some g) := by
  refine ⟨rfl, rfl, rfl, by simp, fun i hi hne => ?_⟩
  rw [heap_grow_old _ _ (by simpa using hi)]
  unfold putRow mapBlock
  have : ¬ g = i := fun e => hne (by rw [e])
  simp [Array.getElem?_modify, this]
theorem own_put {α : Type} [Inhabited α] (enc : α → Value) {w : World} {base g cap n : Nat} {e : TypeId} {xs : List α} {ts : List α} (h : w.ownsRow base e 1 (.slice (some ⟨g, 0, none⟩) xs.length cap) xs.length (xs.map enc))
    (hl : ts.length = xs.length) (hn : n ≤ xs.length) (k : Nat) (os : Array Obj) :
    (grow (putRow enc (Sort.ahead w k) g 0 ts.toArray) os).ownsRow base e 1 (.slice (some ⟨g, 0, none⟩) n cap) n ((ts.take n).map enc) := by
  refine ⟨by simp; omega, .inr ?_⟩
  rcases h.2 with ⟨e1, _⟩ | ⟨g', cap', cur, e1, hb, hg, h1, h2, h3, h4⟩
  · cases e1
  · injection e1 with e1 e2 e3
    injection e1 with e1
    injection e1 with e1
    subst e1; subst e3
    refine ⟨g, cap, _, rfl, hb, heap_put enc w k g _ os hg, by omega, h2, by simp [putCells]; omega, ?_⟩
    rw [Nat.mul_one]
    exact put_take enc ts cur n (by omega) (by omega)
theorem holds_own {α : Type} [Inhabited α] (enc : α → Value) {w : World} {base g cap : Nat} {e : TypeId} {xs : List α} (h : w.ownsRow base e 1 (.slice (some ⟨g, 0, none⟩) xs.length cap) xs.length (xs.map enc)) :
    Holds enc w g 0 xs.toArray := by
  intro j hj
  simp at hj
  rw [Nat.zero_add]
  refine ⟨?_, h.frozenAt j⟩
  rw [h.cellAt j (by omega), List.getElem?_map, List.getElem?_eq_getElem hj, getElem!_pos _ j (by simpa using hj)]
  simp

end Go.Proofs.Ytoaaoikmkomofaa

/- The program's WordLength; slices.Compact of a reduced word. Condition: at most 2097152 letters, numbers of 64 bits. -/
namespace Go.Proofs.Ytoaaoikmkomofaa
open Go.RowKit

theorem arr_at (xs : List Int) (j : Nat) : xs.toArray[j]! = xs.getD j 0 := by simp [List.getD]
theorem keeps_new {xs : List Int} (h : Rdc xs) {m : Nat} (hm : m < xs.length) : Lib.keeps xs.toArray m = newR xs m := by
  unfold Lib.keeps newR
  rw [arr_at, arr_at, decide_eq_decide]
  by_cases h0 : m = 0
  · simp [h0]
  · have h1 := h (m - 1) (by omega)
    rw [show m - 1 + 1 = m by omega] at h1
    constructor
    · rintro (h2 | h2)
      · exact absurd h2 h0
      · exact .inr ⟨h2, fun e => h1 (by rw [e, Int.neg_neg])⟩
    · rintro (h2 | h2)
      · exact absurd h2 h0
      · exact .inr h2.1
theorem compact_len {xs : List Int} (h : Rdc xs) : ∀ m, m ≤ xs.length → (Lib.compactUpTo xs.toArray m).length = runW xs m
  | 0, _ => by simp [Lib.compactUpTo, runW]
  | m + 1, hm => by
    rw [Lib.compactUpTo_succ, List.length_append, compact_len h m (by omega), keeps_new h (by omega)]
    simp only [runW]
    split <;> simp

set_option maxHeartbeats 800000 in
/-- slices.Compact at a reduced word of the call's own: how many numbers are left. -/
theorem compT (base : Nat) (A : Option Addr) (n c : Nat) (xs : List Int) (w : World) (h : Slc w base A n c xs) (hr : Rdc xs) (hn : n ≤ 2097152) :
    Calls Try.prog 72 #[.slice A n c] w fun e w' => ∃ A' c', e = .returned (.slice A' (runW xs n) c') ∧ w.grownBy w' (Value.slice A n c).ownBlock := by
  by_cases h0 : n = 0
  · subst h0
    go_enter Try.func72, Try.ntmps72
    go_wp2_with fail
    go_ret
    exact ⟨A, c, rfl, grown_refl _ _⟩
  · have hle := h.le.1
    obtain ⟨hl, ho⟩ := h
    subst hl
    rcases Slc.at_ ⟨rfl, ho⟩ with ⟨_, _, e0, _⟩ | ⟨g, rfl, hb, hg⟩
    · omega
    have hho : w.ownsRow base 2 1 (.slice (some ⟨g, 0, none⟩) xs.length c) xs.length (xs.map (Value.int .i64)) := ho
    have K := AnyE.slices_Compact laySCp (Value.int .i64) (fun _ => rfl) (EqlAt.intD _ _ _) (NeqAt.intD _ _ _) 0 (fun w => Try.zeroValue2 w) g 0 c xs.toArray w (holds_own _ hho) (by simp; omega) (by simpa using hle)
    have e1 : (Lib.compactUpTo xs.toArray xs.toArray.size).length = runW xs xs.length := by
      rw [List.size_toArray]; exact compact_len hr _ (Nat.le_refl _)
    rw [e1, List.size_toArray] at K
    refine K.mono ?_
    rintro e w' ⟨rfl, q, rfl⟩
    refine ⟨_, _, rfl, ?_⟩
    show w.grownBy _ (some g)
    have := grown_put (Value.int .i64) w q g (Lib.compactUpTo xs.toArray xs.length ++ List.replicate (xs.length - runW xs xs.length) (0 : Int)).toArray #[]
    simpa using this

set_option maxHeartbeats 1600000 in
/-- WordLength. -/
theorem implWordLength (A : Option Addr) (n c : Nat) (wd : List Int) (m : Int) (w : World) (hx : RI w w.heap.size A wd) (lx : Hid (wd.length = n)) (hn : n ≤ 2097152) (vi : Hid (VI wd)) :
    Calls Try.prog 29 #[.slice A n c, .int .i64 m] w fun e w' => e = .returned (.int .i64 (wlenF wd m)) ∧ Below w.heap.size w w' := by
  have HX := Lib.hid hx
  clear hx
  rcases hv : vW 8 wd with _ | _
  · have Hv := Lib.hid hv
    have Fin : Hid (wlenF wd m = -1) := Lib.hid (by unfold wlenF; rw [if_neg (by rw [hv]; simp)])
    clear hv
    go_enter Try.func29, Try.ntmps29
    go_wp2_with fail
    refine (implIsWord A n c wd w HX.out lx hn vi).mono ?_
    rintro e w' ⟨rfl, rfl⟩
    rw [Hv.out]
    go_wp2_with fail
    go_ret
    exact ⟨by rw [Fin.out]; try rfl, Below.refl _ _⟩
  · have Hv := Lib.hid hv
    have Rd : Hid (redF wd = redW wd) := Lib.hid (by unfold redF; rw [if_pos hv])
    clear hv
    go_enter Try.func29, Try.ntmps29
    go_wp2_with fail
    refine (implIsWord A n c wd w HX.out lx hn vi).mono ?_
    rintro e w' ⟨rfl, rfl⟩
    rw [Hv.out]
    go_wp2_with fail
    refine (implFreeReduce A n c wd w HX.out lx hn vi).mono ?_
    rintro e w1 ⟨A1, n1, c1, rfl, s1, hn1, b1⟩
    rw [Rd.out] at s1
    have S1 := Lib.hid s1
    have B1 := Lib.hid b1
    have L1 : Hid ((redW wd).length = n1) := Lib.hid s1.1
    clear s1 b1
    by_cases hm1 : m = 1
    · have d1 : (m == 1) = true := by simpa using hm1
      have Fin : Hid (wlenF wd m = (n1 : Int)) := Lib.hid (by unfold wlenF; rw [if_pos ⟨Hv.out, .inl hm1⟩, hm1, lenW_one, L1.out])
      subst hm1
      go_wp2_with fail
      go_ret
      exact ⟨by rw [Fin.out]; try rfl, B1.out⟩
    · have d1 : (m == 1) = false := by simpa using hm1
      by_cases hm2 : m = 2
      · have Fin : Hid (wlenF wd m = ((runW (redW wd) n1 : Nat) : Int)) := Lib.hid (by unfold wlenF; rw [if_pos ⟨Hv.out, .inr hm2⟩, hm2, lenW_two, L1.out])
        subst hm2
        clear hm1 d1
        go_wp2_with fail
        refine (compT w.heap.size A1 n1 c1 (redW wd) w1 S1.out redW_rdc (by omega)).mono ?_
        rintro e w2 ⟨A2, c2, rfl, g2⟩
        have B2 : Hid (Below w.heap.size w w2) := Lib.hid (B1.out.grown g2 B1.out.size (fun j hj => (S1.out.lt_ j hj).1))
        clear g2
        obtain ⟨R, eR⟩ : ∃ R, runW (redW wd) n1 = R := ⟨_, rfl⟩
        rw [eR] at Fin ⊢
        clear eR
        go_wp2_with fail
        go_ret
        exact ⟨by rw [Fin.out]; try rfl, B2.out⟩
      · have d2 : (m == 2) = false := by simpa using hm2
        have Fin : Hid (wlenF wd m = -1) := Lib.hid (by unfold wlenF; rw [if_neg (by omega)])
        clear hm1 hm2
        go_wp2_with fail
        go_ret
        exact ⟨by rw [Fin.out]; try rfl, B1.out⟩
end Go.Proofs.Ytoaaoikmkomofaa

/- The walk of the law FnExactWordLength: it returns true at every input, and writes nothing that was there. No condition. -/
namespace Go.Proofs.Ytoaaoikmkomofaa
open Go.RowKit

set_option maxHeartbeats 4000000 in
set_option maxRecDepth 100000 in
/-- The law FnExactWordLength. -/
theorem lawWordLength (s0A : Option Addr) (s0n s0c : Nat) (s0x : List Int) (i1 : Int) (w : World) (hs0 : RI w w.heap.size s0A s0x) (ls0 : Hid (s0x.length = s0n)) (vs0 : Hid (VI s0x)) (wfi1 : -9223372036854775808 ≤ i1 ∧ i1 ≤ 9223372036854775807) :
    Calls Try.prog 15 #[.slice s0A s0n s0c, .int .i64 i1] w fun e w' => e = .returned (.bool true) ∧ Below w.heap.size w w' := by
  have Hs0 := Lib.hid hs0
  clear hs0
  by_cases hns0 : s0n ≤ 1048576
  · skip
    go_enter Try.func15, Try.ntmps15
    go_wp2_with fail
    refine (toS_any s0A s0c s0n s0x w Hs0.out ls0 (by omega)).mono ?_
    rintro e w1 ⟨A1, c1, rfl, s1, b1⟩
    have B1 : Hid (Below w.heap.size w w1) := Lib.hid b1
    have Fts0_1 := Lib.hid s1
    have Lts0 := Lib.hid s1.lies
    have lets0 := s1.le.1
    clear s1 b1
    go_wp2_with fail
    refine (specWordLength _ _ _ s0x i1 w1 Fts0_1.out.ri_ ls0 (by omega)).mono ?_
    rintro e w2 ⟨rfl, b2⟩
    have B1_2 : Hid (Below w1.heap.size w1 w2) := Lib.hid b2
    have B2 : Hid (Below w.heap.size w w2) := Lib.hid (btr B1.out b2)
    have Fts0_2 := Lib.hid (Fts0_1.out.up b2)
    clear Fts0_1
    clear b2
    clear Fts0_2
    go_wp2_with fail
    refine (toS_any s0A s0c s0n s0x w2 (Hs0.out.up B2.out) ls0 (by omega)).mono ?_
    rintro e w3 ⟨A3, c3, rfl, s3, b3⟩
    have B1_3 : Hid (Below w1.heap.size w1 w3) := Lib.hid (btr B1_2.out b3)
    have B2_3 : Hid (Below w2.heap.size w2 w3) := Lib.hid b3
    have B3 : Hid (Below w.heap.size w w3) := Lib.hid (btr B2.out b3)
    have Fxs0_3 := Lib.hid s3
    have Lxs0 := Lib.hid s3.lies
    have lexs0 := s3.le.1
    clear s3 b3
    go_wp2_with fail
    refine (implWordLength _ _ _ s0x i1 w3 Fxs0_3.out.ri_ ls0 (by omega) vs0).mono ?_
    rintro e w4 ⟨rfl, b4⟩
    have B1_4 : Hid (Below w1.heap.size w1 w4) := Lib.hid (btr B1_3.out b4)
    have B2_4 : Hid (Below w2.heap.size w2 w4) := Lib.hid (btr B2_3.out b4)
    have B3_4 : Hid (Below w3.heap.size w3 w4) := Lib.hid b4
    have B4 : Hid (Below w.heap.size w w4) := Lib.hid (btr B3.out b4)
    have Fxs0_4 := Lib.hid (Fxs0_3.out.up b4)
    clear Fxs0_3
    clear b4
    go_wp2_with fail
    refine (toS_any s0A s0c s0n s0x w4 (Hs0.out.up B4.out) ls0 (by omega)).mono ?_
    rintro e w5 ⟨A5, c5, rfl, s5, b5⟩
    have B1_5 : Hid (Below w1.heap.size w1 w5) := Lib.hid (btr B1_4.out b5)
    have B2_5 : Hid (Below w2.heap.size w2 w5) := Lib.hid (btr B2_4.out b5)
    have B3_5 : Hid (Below w3.heap.size w3 w5) := Lib.hid (btr B3_4.out b5)
    have B4_5 : Hid (Below w4.heap.size w4 w5) := Lib.hid b5
    have B5 : Hid (Below w.heap.size w w5) := Lib.hid (btr B4.out b5)
    have Fxs0_5 := Lib.hid (Fxs0_4.out.up b5)
    clear Fxs0_4
    have Fys0_5 := Lib.hid s5
    have Lys0 := Lib.hid s5.lies
    have leys0 := s5.le.1
    clear s5 b5
    go_wp2_with fail
    refine (eqS_same _ _ A3 A5 s0n c3 s0n c5 w5 Fxs0_5.out Fys0_5.out (by omega)).mono ?_
    rintro e w6 ⟨rfl, b6⟩
    have B1_6 : Hid (Below w1.heap.size w1 w6) := Lib.hid (btr B1_5.out b6)
    have B2_6 : Hid (Below w2.heap.size w2 w6) := Lib.hid (btr B2_5.out b6)
    have B3_6 : Hid (Below w3.heap.size w3 w6) := Lib.hid (btr B3_5.out b6)
    have B4_6 : Hid (Below w4.heap.size w4 w6) := Lib.hid (btr B4_5.out b6)
    have B5_6 : Hid (Below w5.heap.size w5 w6) := Lib.hid b6
    have B6 : Hid (Below w.heap.size w w6) := Lib.hid (btr B5.out b6)
    have Fxs0_6 := Lib.hid (Fxs0_5.out.up b6)
    clear Fxs0_5
    have Fys0_6 := Lib.hid (Fys0_5.out.up b6)
    clear Fys0_5
    clear b6
    clear Fys0_6
    go_wp2_with fail
    go_ret
    exact ⟨rfl, B6.out⟩
  · have d1 : decide ((1048576 : Int) < s0n) = true := by simp; omega
    go_enter Try.func15, Try.ntmps15
    go_wp2
    go_ret
    exact ⟨rfl, Below.refl _ _⟩
end Go.Proofs.Ytoaaoikmkomofaa

/- slices.Repeat of one word, bits.Mul at small numbers. Condition: at most 201 times. -/
namespace Go.Proofs.Ytoaaoikmkomofaa
open Go.RowKit

theorem mask1 : bits .and .u64 1 4294967295 = 1 := by
  have h := bits_and_u64_nat 1 4294967295 (by omega) (by omega)
  exact h
theorem mask0 : bits .and .u64 0 4294967295 = 0 := by
  have h := bits_and_u64_nat 0 4294967295 (by omega) (by omega)
  exact h
theorem maskK (K : Nat) (hK : K ≤ 1000) : bits .and .u64 (K : Int) 4294967295 = (K : Int) := by
  have h := bits_and_u64_nat K 4294967295 (by omega) (by omega)
  have e : K &&& 4294967295 = K % 4294967296 := Nat.and_two_pow_sub_one_eq_mod K 32
  rw [e, Nat.mod_eq_of_lt (by omega)] at h
  exact h

set_option maxHeartbeats 1600000 in
/-- bits.Mul64 of 1 and a small number. -/
theorem implMul64 (K : Nat) (w : World) (hK : K ≤ 1000) :
    Calls Try.prog 103 #[.int .u64 1, .int .u64 (K : Nat)] w fun e w' => e = .returned (.tuple #[.int .u64 0, .int .u64 (K : Nat)]) ∧ w = w' := by
  have b1 := mask1
  have b0 := mask0
  have bK := maskK K hK
  have dK : (K : Int) / 4294967296 = 0 := by omega
  have wK : IntKind.u64.wrap (K : Int) = (K : Int) := by rw [IntKind.wrap_u64]; omega
  go_enter Try.func103, Try.ntmps103
  go_wp2_with fail
  go_ret2
  exact ⟨rfl, rfl⟩

set_option maxHeartbeats 1600000 in
/-- bits.Mul of 1 and a small number. -/
theorem implMul (K : Nat) (w : World) (hK : K ≤ 1000) :
    Calls Try.prog 92 #[.int .u64 1, .int .u64 (K : Nat)] w fun e w' => e = .returned (.tuple #[.int .u64 0, .int .u64 (K : Nat)]) ∧ w = w' := by
  go_enter Try.func92, Try.ntmps92
  go_wp2_with fail
  refine (implMul64 K w hK).mono ?_
  rintro e w' ⟨rfl, rfl⟩
  go_wp2_with fail
  go_ret2
  exact ⟨rfl, rfl⟩

/-- m copies of a slice, then nil slices, K in all. -/
def rpD (K m : Nat) (v : Value) : List Value := List.replicate m v ++ List.replicate (K - m) (.slice none 0 0)
theorem rpD_len (K m : Nat) (v : Value) (h : m ≤ K) : (rpD K m v).length = K := by simp [rpD]; omega
theorem rpD_at {K m : Nat} {v : Value} {j : Nat} (h : j < m) : (rpD K m v)[j]? = some v := by
  unfold rpD
  rw [List.getElem?_append_left (by simpa using h), List.getElem?_replicate, if_pos h]
theorem rpD_splice {K m t : Nat} {v : Value} (h : m + t ≤ K) : splice (rpD K m v) m (List.replicate t v) = rpD K (m + t) v := by
  unfold splice rpD
  rw [List.take_left' (by simp), List.length_replicate, List.drop_append, List.length_replicate, List.drop_of_length_le (by simp), List.nil_append, List.drop_replicate, ← List.append_assoc, List.replicate_append_replicate]
  congr 2; omega
theorem rpD_row {K m t : Nat} {v : Value} (h : m + t ≤ K) : ((rpD K m v).toArray.toList.take m ++ List.replicate t v ++ (rpD K m v).toArray.toList.drop (m + (List.replicate t v).length)).toArray = (rpD K (m + t) v).toArray := by
  rw [← rpD_splice h, List.append_assoc]; rfl
theorem rpD_blk {w : World} {g K m : Nat} {v : Value} (h : Blk w g 25 (rpD K m v).toArray) {j : Nat} (hj : j < m) : w.cell? ⟨g, j, none⟩ = some v := by
  have := h.cell j
  rw [this]
  simpa using rpD_at hj
theorem made_sl {w : World} {base g n : Nat} (h : w.ownsRow base 25 1 (.slice (some ⟨g, 0, none⟩) n n) n (madeCells (Value.slice none 0 0).cells (n * 1)).toList) (v : Value) : Blk w g 25 (rpD n 0 v).toArray := by
  rcases h.2 with ⟨e, _⟩ | ⟨g', cap, cur, e, _, hg, _, _, hsz, htk⟩
  · cases e
  · injection e with e1 e2 e3
    subst e3
    have eg : g = g' := by simpa using e1
    subst eg
    have hm : (madeCells (Value.slice none 0 0).cells (n * 1)).toList = List.replicate n (Value.slice none 0 0) := by
      show (madeCells #[Value.slice none 0 0] (n * 1)).toList = _
      rw [toList_madeCells_one]; simp
    rw [hm, Nat.mul_one, List.take_of_length_le (by simp [hsz])] at htk
    have : cur = (rpD n 0 v).toArray := by
      rw [← Array.toArray_toList (xs := cur), htk]
      simp [rpD]
    rw [← this]; exact hg

set_option maxHeartbeats 4000000 in
set_option maxRecDepth 100000 in
/-- slices.Repeat of one slice. -/
theorem implRepeat (gl K : Nat) (A : Option Addr) (l c : Nat) (w : World) (hb : Blk w gl 25 #[.slice A l c]) (hK : K ≤ 201) :
    Calls Try.prog 78 #[.slice (some ⟨gl, 0, none⟩) 1 1, .int .i64 (K : Nat)] w fun e w' => ∃ g, e = .returned (.slice (some ⟨g, 0, none⟩) K K) ∧ g < w'.heap.size ∧ (∀ j, j < K → w'.cell? ⟨g, j, none⟩ = some (.slice A l c)) ∧ Below w.heap.size w w' := by
  obtain ⟨i0, hi, hz0, hz1, hz2⟩ := info_parts infoS
  have hsz : (Try.prog.info? 25).map (·.size) = some 1 := by rw [hi]; exact congrArg some hz1
  have HB := Lib.hid hb
  have d0 : decide ((K : Int) < 0) = false := by simp
  have wK : IntKind.u64.wrap (K : Int) = (K : Int) := by rw [IntKind.wrap_u64]; omega
  have wK2 : IntKind.i64.wrap (K : Int) = (K : Int) := by rw [IntKind.wrap_i64]; omega
  have w1 : IntKind.u64.wrap 1 = 1 := by rw [IntKind.wrap_u64]; omega
  have d1 : decide ((9223372036854775807 : Int) < (K : Int)) = false := by simp; omega
  obtain ⟨v, hv⟩ : ∃ v, Value.slice A l c = v := ⟨_, rfl⟩
  have Hv := Lib.hid hv
  rw [hv] at HB
  clear hb hv
  go_enter Try.func78, Try.ntmps78
  go_wp2_with fail
  refine (implMul K w (by omega)).mono ?_
  rintro e w' ⟨rfl, rfl⟩
  go_wp2_with (first
    | (at_make; refine wpList_make_full _ rfl _ _ 24 rfl w.heap.size 25 i0 (.slice none 0 0) 1 Try.underlying24 hi hz0 hz1 .i64 .i64 _ _ K rfl rfl rfl rfl (by rw [hz2]; omega) (by unfold maxLen; omega) (Nat.le_refl _) ?_; intro w1 hown1 hgrow1
       have K1 : Hid (Blk w1 w.heap.size 25 (rpD K 0 v).toArray) := Lib.hid (made_sl hown1 v)
       have B1 : Hid (Below w.heap.size w w1) := Lib.hid ((Below.refl _ _).grown hgrow1 (Nat.le_refl _) (fun j hj => by cases hj))
       clear hown1 hgrow1))
  obtain ⟨m0, hm0, hmin⟩ : ∃ m0, Nat.min 1 K = m0 ∧ m0 ≤ 1 ∧ m0 ≤ K ∧ (0 < K → m0 = 1) := ⟨_, rfl, Nat.min_le_left 1 K, Nat.min_le_right 1 K, fun h => Nat.min_eq_left h⟩
  have hlt1 : gl < w.heap.size := HB.out.lt
  have hg1 : Blk w1 gl 25 #[v] := HB.out.below B1.out hlt1
  have hrun := run_copy_row (P := Try.prog) w1 24 24 3 25 w.heap.size 0 K K ⟨gl, 0, none⟩ 1 1 (rpD K 0 v).toArray 25 (List.replicate m0 v) Try.underlying24 hsz K1.out (by rw [List.length_replicate]; exact hm0.symm) (fun j u hj => by
    rw [List.getElem?_replicate] at hj
    split at hj
    · injection hj with hj
      subst hj
      have e : j = 0 := by omega
      subst e
      exact hg1.cell 0
    · cases hj) (by rw [List.size_toArray, rpD_len _ _ _ (Nat.zero_le _), List.length_replicate]; omega) (fun u hu => by rw [List.eq_of_mem_replicate hu, ← Hv.out]; rfl)
  have e1 := rpD_row (K := K) (m := 0) (t := m0) (v := v) (by omega)
  rw [e1, List.length_replicate, Nat.zero_add] at hrun
  rw [hrun]
  obtain ⟨w2, hw2⟩ : ∃ w2, w1.setRow w.heap.size (rpD K m0 v).toArray = w2 := ⟨_, rfl⟩
  have K2 : Hid (Blk w2 w.heap.size 25 (rpD K m0 v).toArray) := Lib.hid (by rw [← hw2]; exact setRow_heap w1 _ _ _ _ _ K1.out)
  have B2 : Hid (Below w.heap.size w w2) := Lib.hid (by rw [← hw2]; exact below_setRow B1.out (Nat.le_refl _) _)
  rw [hw2]
  clear hw2 hrun e1 K1 B1 hg1
  go_wp2_with fail
  go_loopw [8] (fun nv wr => ∃ m : Nat, m0 ≤ m ∧ m ≤ K ∧ nv = .int .i64 (m : Nat) ∧ Blk wr w.heap.size 25 (rpD K m v).toArray ∧ Below w.heap.size w wr) (fun nv _ => K - (intOf nv).toNat)
  case atStart => exact ⟨m0, Nat.le_refl _, hmin.2.1, rfl, K2.out, B2.out⟩
  case round =>
    clear K2 B2
    obtain ⟨m, hm1, hm2, rfl, hb, bel⟩ := hrel
    have Hb := Lib.hid hb
    have Be := Lib.hid bel
    clear hb bel
    by_cases hlt : m < K
    · have hmp : 1 ≤ m := by have := hmin.2.2 (by omega); omega
      obtain ⟨t, ht1, ht2, ht3⟩ : ∃ t, Nat.min m (K - m) = t ∧ 1 ≤ t ∧ m + t ≤ K := ⟨_, rfl, Nat.le_min.2 ⟨hmp, by omega⟩, Nat.le_trans (Nat.add_le_add_left (Nat.min_le_right m (K - m)) m) (by omega)⟩
      have p0 : (0 : Int) ≤ m := by omega
      have p1 : (m : Int) ≤ K := by omega
      have wt : IntKind.i64.wrap ((m : Int) + (t : Int)) = ((m + t : Nat) : Int) := by rw [IntKind.wrap_i64]; omega
      have hne : ¬ K = m := by omega
      have hrun := run_copy_row (P := Try.prog) wr.drew 24 24 3 25 w.heap.size m (K - m) (K - m) ⟨w.heap.size, 0, none⟩ m K (rpD K m v).toArray 25 (List.replicate t v) Try.underlying24 hsz Hb.out (by rw [List.length_replicate]; exact ht1.symm) (fun j u hj => by
        rw [List.getElem?_replicate] at hj
        split at hj
        · rename_i hjt
          injection hj with hj
          subst hj
          have e : (⟨w.heap.size, 0, none⟩ : Addr).add j = ⟨w.heap.size, j, none⟩ := by unfold Addr.add; split <;> simp_all
          rw [e]
          exact rpD_blk Hb.out (j := j) (by have : Nat.min m (K - m) ≤ m := Nat.min_le_left m (K - m); rw [ht1] at this; omega)
        · cases hj) (by rw [List.size_toArray, rpD_len _ _ _ hm2, List.length_replicate]; exact ht3) (fun u hu => by rw [List.eq_of_mem_replicate hu, ← Hv.out]; rfl)
      rw [rpD_row ht3, List.length_replicate] at hrun
      obtain ⟨w2, hw2⟩ : ∃ w2, wr.drew.setRow w.heap.size (rpD K (m + t) v).toArray = w2 := ⟨_, rfl⟩
      have K2 : Hid (Blk w2 w.heap.size 25 (rpD K (m + t) v).toArray) := Lib.hid (by rw [← hw2]; exact setRow_heap wr.drew _ _ _ _ _ Hb.out)
      have B2 : Hid (Below w.heap.size w w2) := Lib.hid (by rw [← hw2]; exact below_setRow (show Below w.heap.size w wr.drew from ⟨Be.out.os, Be.out.tape, Be.out.output, Be.out.size, Be.out.block⟩) (Nat.le_refl _) _)
      rw [hw2] at hrun
      clear hw2
      go_wp2_with fail
      go_region_law (fail)
      all_goals
        go_wp2_with fail
        try simp [Act.put]
        go_roundw
        case rel => exact ⟨m + t, by omega, ht3, by go_num, K2.out, B2.out⟩
        case measure => simp [intOf]; omega
    · obtain rfl : m = K := by omega
      have Bf := Lib.hid (Hb.out.lt)
      have Fin : Hid (∀ j, j < m → wr.cell? ⟨w.heap.size, j, none⟩ = some (.slice A l c)) := Lib.hid fun j hj => by rw [Hv.out]; exact rpD_blk Hb.out hj
      go_wp2_with fail
      go_ret
      exact ⟨w.heap.size, rfl, Bf.out, Fin.out, Be.out⟩
end Go.Proofs.Ytoaaoikmkomofaa

/- The model's RepeatWord. Condition: at most 2097152 letters in the word. -/
namespace Go.Proofs.Ytoaaoikmkomofaa
open Go.RowKit

def repB (wd : List Int) (k : Int) : Bool := vW 8 wd && (decide (wd.length = 0) || (decide (-200 ≤ k ∧ k ≤ 200) && decide (k.natAbs * wd.length ≤ 200)))
def repL (wd : List Int) (i : Nat) : List Int := (List.replicate i wd).flatten
def repF (wd : List Int) (k : Int) : List Int := if repB wd k = true then repL (if k < 0 then ivW wd else wd) k.natAbs else []
theorem repL_succ (wd : List Int) (i : Nat) : repL wd (i + 1) = repL wd i ++ wd := by
  unfold repL
  rw [List.replicate_succ', List.flatten_append]; simp
theorem repL_nil (i : Nat) : repL [] i = [] := by
  induction i with
  | zero => rfl
  | succ i ih => rw [repL_succ, ih]; rfl
theorem repL_len (wd : List Int) (i : Nat) : (repL wd i).length = i * wd.length := by
  induction i with
  | zero => simp [repL]
  | succ i ih => rw [repL_succ, List.length_append, ih, Nat.succ_mul]
theorem repF_no {wd : List Int} {k : Int} (h : repB wd k = false) : repF wd k = [] := by unfold repF; rw [h]; rfl

/-- append of what can be read, and where the new slice lies. -/
theorem wpList_appN_at {w : World} {ops : Array Oper} {rest : List Oper} {o : Oper} {a : Act} {Q : Exit → Act → World → Prop} (hgd : o.guard = none) (s x : Operand)
    (ho : o.op = .call { callee := .builtin .append, args := #[s, x], argTypes := #[25, 25] })
    (base : Nat) (A : Option Addr) (n c : Nat) (xs : List Int) (hs : a.eval s = .slice A n c) (hown : Slc w base A n c xs) (g off m c2 : Nat) (ys : List Int) (hx : a.eval x = .slice (some ⟨g, off, none⟩) m c2)
    (hy : RI w w.heap.size (some ⟨g, off, none⟩) ys) (ly : ys.length = m) (hn : n + m ≤ 1000000000000) (hbase : base ≤ w.heap.size)
    (h : ∀ A' c' w', Slc w' base A' (n + m) c' (xs ++ ys) → w.grownBy w' (Value.slice A n c).ownBlock → ((Value.slice A' (n + m) c').ownBlock = (Value.slice A n c).ownBlock ∨ (Value.slice A' (n + m) c').ownBlock = some w.heap.size) → wpList Try.prog ops Q rest (a.put o.dst (.slice A' (n + m) c')) w') : wpList Try.prog ops Q (o :: rest) a w := by
  obtain ⟨i0, hi, hz0, hz1, hz2⟩ := info_parts infoI
  obtain ⟨hl, ho'⟩ := hown
  subst hl
  refine wpList_append_own_at w hgd s x 25 ho base 2 i0 (.int .i64 0) 1 8 Try.underlying25 hi hz0 hz1 hz2 rfl (by decide) _ xs.length _ hs ho' ⟨g, off, none⟩ m c2 (ys.map (Value.int .i64)) hx (by simp [ly]) ?_ ?_ ?_ (by omega) hbase ?_
  · intro j v hj
    have hjl : j < ys.length := by
      have := (List.getElem?_eq_some_iff.1 hj).1
      simpa using this
    have e : (⟨g, off, none⟩ : Addr).add j = ⟨g, off + j, none⟩ := by unfold Addr.add; split <;> simp_all
    rw [e, (hy.cellAt hjl).2]
    rw [List.getElem?_map, List.getElem?_eq_getElem hjl] at hj
    rw [← Option.some.inj hj, List.getD_eq_getElem?_getD, List.getElem?_eq_getElem hjl]; rfl
  · intro v hv; rw [List.mem_map] at hv; obtain ⟨u, _, rfl⟩ := hv; rfl
  · unfold maxLen; omega
  · intro v' w' hown' hg _ hat
    have hO : Own w' base v' (xs ++ ys) := by
      unfold Own
      rw [List.length_append, List.map_append, ly]
      exact hown'
    obtain ⟨A', c', rfl, hS⟩ := Slc.of_own (n := xs.length + m) hO (by simp [ly])
    exact h A' c' w' hS hg hat

set_option maxHeartbeats 4000000 in
set_option maxRecDepth 100000 in
theorem specRepeatWord (A : Option Addr) (c n : Nat) (wd : List Int) (k : Int) (w : World) (hx : RI w w.heap.size A wd) (lx : Hid (wd.length = n)) (hn : n ≤ 2097152) (wf1 : -9223372036854775808 ≤ k) (wf2 : k ≤ 9223372036854775807) :
    Calls Try.prog 40 #[.slice A n c, .int .i64 k] w fun e w' => ∃ A' n' c', e = .returned (.tuple #[.slice A' n' c', .bool (repB wd k)]) ∧ Slc w' w.heap.size A' n' c' (repF wd k) ∧ n' ≤ 200 ∧ Below w.heap.size w w' := by
  have HX := Lib.hid hx
  clear hx
  have S0 : Hid (Slc (w.alloc (.cells #[] 2)) w.heap.size (some ⟨w.heap.size, 0, none⟩) 0 0 []) := Lib.hid (Slc.lit0 w _ (Nat.le_refl _))
  have B0 : Hid (Below w.heap.size w (w.alloc (.cells #[] 2))) := Lib.hid ((Below.refl _ _).alloc (Nat.le_refl _) _)
  rcases hv : vW 8 wd with _ | _
  · have Hv := Lib.hid hv
    have Bad : Hid (repB wd k = false) := Lib.hid (by unfold repB; rw [hv]; rfl)
    have Fin := Lib.hid (repF_no Bad.out)
    clear hv
    go_enter Try.func40, Try.ntmps40
    go_wp2_with fail
    refine (specIsWd A n c wd w HX.out lx hn).mono ?_
    rintro e w' ⟨rfl, rfl⟩
    rw [Hv.out]
    go_wp2_with fail
    go_ret2
    exact ⟨_, 0, _, by rw [Bad.out]; try rfl, by rw [Fin.out]; exact S0.out, by omega, B0.out⟩
  · have Hv := Lib.hid hv
    have hs := small_of hv lx.out
    have hn2 := hs.1
    have Hl := Lib.hid hs.2
    clear hv hs
    by_cases hn0 : n = 0
    · subst hn0
      have hw0 : wd = [] := List.eq_nil_of_length_eq_zero lx.out
      have Ok : Hid (repB wd k = true) := Lib.hid (by unfold repB; rw [Hv.out, lx.out]; rfl)
      have Fin : Hid (repF wd k = []) := Lib.hid (by
        unfold repF
        rw [if_pos Ok.out, hw0]
        have : (if k < 0 then ivW ([] : List Int) else []) = [] := by split <;> rfl
        rw [this, repL_nil])
      clear hw0
      go_enter Try.func40, Try.ntmps40
      go_wp2_with fail
      refine (specIsWd A 0 c wd w HX.out lx hn).mono ?_
      rintro e w' ⟨rfl, rfl⟩
      rw [Hv.out]
      go_wp2_with fail
      go_ret2
      exact ⟨_, 0, _, by rw [Ok.out]; try rfl, by rw [Fin.out]; exact S0.out, by omega, B0.out⟩
    · have dn : ((n : Int) == 0) = false := by rw [beq_eq_false_iff_ne]; omega
      by_cases hk : -200 ≤ k ∧ k ≤ 200
      · obtain ⟨M, hM⟩ : ∃ M, k.natAbs * n = M := ⟨_, rfl⟩
        have hM4 : M ≤ 40000 := by rw [← hM]; exact Nat.le_trans (Nat.mul_le_mul (show k.natAbs ≤ 200 by omega) hn2) (by decide)
        have EB : Hid (repB wd k = decide (M ≤ 200)) := Lib.hid (by
          unfold repB
          rw [Hv.out, lx.out, hM, decide_eq_true hk, decide_eq_false hn0]; rfl)
        have HM := Lib.hid hM
        clear hM
        by_cases hneg : k < 0
        · have dneg : decide (k < 0) = true := by simpa using hneg
          obtain ⟨K, hK, hK2⟩ : ∃ K : Nat, IntKind.i64.wrap (-k) = (K : Int) ∧ k.natAbs = K := ⟨k.natAbs, by rw [IntKind.wrap_i64]; omega, rfl⟩
          obtain ⟨W, hW⟩ : ∃ W, ivW wd = W := ⟨_, rfl⟩
          have EF : Hid (repB wd k = true → repF wd k = repL W K) := Lib.hid fun h => by unfold repF; rw [if_pos h, if_pos hneg, hW, hK2]
          have LW : Hid (W.length = n) := Lib.hid (by rw [← hW, ivW_len]; exact lx.out)
          have EM : Hid (K * n = M) := Lib.hid (by rw [← hK2]; exact HM.out)
          have wm : IntKind.i64.wrap ((K : Int) * (n : Int)) = (M : Int) := by
            rw [IntKind.wrap_i64, ← Int.natCast_mul, EM.out]; omega
          have hK200 : K ≤ 200 := by omega
          have HW := Lib.hid hW
          clear hK2 hW hneg
          go_enter Try.func40, Try.ntmps40
          go_wp2_with fail
          refine (specIsWd A n c wd w HX.out lx hn).mono ?_
          rintro e w' ⟨rfl, rfl⟩
          rw [Hv.out]
          go_wp2_with fail
          refine (inR_true k _ _ _ (by omega) (by omega)).mono ?_
          rintro e w' ⟨rfl, rfl⟩
          go_wp2_with fail
          refine (specInvW A n c wd _ (HX.out.up B0.out) lx hn2 Hl).mono ?_
          rintro e w1 ⟨A1, c1, rfl, s1, b1⟩
          have R1 : Hid (∃ b off, A1 = some ⟨b, off, none⟩ ∧ b < w1.heap.size ∧ b ≠ w.heap.size ∧ ∀ j, j < W.length → w1.cell? ⟨b, off + j, none⟩ = some (.int .i64 (W.getD j 0))) := Lib.hid (by
            obtain ⟨b, off, e, hb, hc⟩ := s1.ri_ (by rw [HW.out, LW.out]; omega)
            refine ⟨b, off, e, hb, ?_, by rw [← HW.out]; exact hc⟩
            have := (s1.lt_ b (by rw [e]; rfl)).1
            simp at this
            omega)
          have S1 := Lib.hid (S0.out.up b1)
          have B1 : Hid (Below w.heap.size w w1) := Lib.hid (btr B0.out b1)
          clear s1 b1
          have hz1 : w.heap.size < w1.heap.size := by have := (S1.out.lt_ w.heap.size rfl).2; exact this
          obtain ⟨b, off, rfl, hb1, hbn, hc1⟩ := R1.out
          have C1 := Lib.hid hc1
          clear hc1 R1
          by_cases h200 : M ≤ 200
          · have Ok : Hid (repB wd k = true) := Lib.hid (by rw [EB.out]; exact decide_eq_true h200)
            have d2 : decide ((200 : Int) < (M : Int)) = false := by simp; omega
            go_wp2_with fail
            go_loopw [6, 7] (fun ov iv wr => ∃ (i m cP : Nat) (P : Option Addr), i ≤ K ∧ iv = .int .i64 (i : Nat) ∧ ov = .slice P m cP ∧ Hid (i * n = m) ∧ Slc wr w.heap.size P m cP (repL W i) ∧ (∀ q, (Value.slice P m cP).ownBlock = some q → q = w.heap.size ∨ w1.heap.size ≤ q) ∧ w1.heap.size ≤ wr.heap.size ∧ (∀ j, j < W.length → wr.cell? ⟨b, off + j, none⟩ = some (.int .i64 (W.getD j 0))) ∧ Below w.heap.size w wr) (fun _ iv _ => K - (intOf iv).toNat)
            case atStart => exact ⟨0, 0, 0, _, Nat.zero_le _, rfl, rfl, Lib.hid (Nat.zero_mul n), S1.out, fun q e => .inl (by injection e with e; exact e.symm), Nat.le_refl _, C1.out, B1.out⟩
            case round =>
              clear S0 S1 B0 B1 wm
              obtain ⟨i, m, cP, P, hi, rfl, rfl, hm, hs, hq, hzw, hcw, bel⟩ := hrel
              have Sp := Lib.hid hs
              have Hq := Lib.hid hq
              have Cw := Lib.hid hcw
              have Be := Lib.hid bel
              have hz := bel.size
              have hmM : m ≤ M := by rw [← hm.out, ← EM.out]; exact Nat.mul_le_mul_right _ hi
              clear hs bel hq hcw
              by_cases hlt : i < K
              · have R2 : Hid (RI wr wr.heap.size (some ⟨b, off, none⟩) W) := Lib.hid fun _ => ⟨b, off, rfl, by omega, Cw.out⟩
                have hm2 : Hid ((i + 1) * n = m + n) := Lib.hid (by rw [Nat.succ_mul, hm.out])
                go_wp2_with (first | (at_builtin; refine wpList_appN_at rfl _ _ rfl w.heap.size P m cP _ rfl Sp.out b off n c1 W rfl R2.out LW.out (by omega) hz ?_; intro P6 c6 w6 s6 g6 h6) | go_in)
                have S6 : Hid (Slc w6 w.heap.size P6 (m + n) c6 (repL W (i + 1))) := Lib.hid (by rw [repL_succ]; exact s6)
                have B6 : Hid (Below w.heap.size w w6) := Lib.hid (Be.out.grown g6 hz (fun j hj => (Sp.out.lt_ j hj).1))
                have Z6 : Hid (w1.heap.size ≤ w6.heap.size) := Lib.hid (by have := g6.size; omega)
                have C6 : Hid (∀ j, j < W.length → w6.cell? ⟨b, off + j, none⟩ = some (.int .i64 (W.getD j 0))) := Lib.hid fun j hj => (World.cell?_of_block (a := ⟨b, off + j, none⟩) (g6.block b (by omega) (fun e => by rcases Hq.out b e.symm with h | h <;> omega))).trans (Cw.out j hj)
                have Q6 : Hid (∀ q, (Value.slice P6 (m + n) c6).ownBlock = some q → q = w.heap.size ∨ w1.heap.size ≤ q) := Lib.hid fun q e => by
                  rcases h6 with h | h
                  · exact Hq.out q (h.symm.trans e)
                  · rw [h] at e; injection e with e; exact .inr (by omega)
                clear s6 g6 h6
                go_wp2_with fail
                go_roundw
                case rel => exact ⟨i + 1, m + n, c6, P6, by omega, by go_num, rfl, hm2, S6.out, Q6.out, Z6.out, C6.out, B6.out⟩
                case measure => simp [intOf]; omega
              · have hiK : i = K := by omega
                have dlt : decide ((i : Int) < (K : Int)) = false := by simp; omega
                have HiK := Lib.hid hiK
                clear hiK
                have Fin : Hid (Slc wr w.heap.size P m cP (repF wd k)) := Lib.hid (by rw [EF.out Ok.out, ← HiK.out]; exact Sp.out)
                go_wp2_with fail
                go_ret2
                exact ⟨P, m, cP, by rw [Ok.out]; try rfl, Fin.out, by omega, Be.out⟩
          · have Bad : Hid (repB wd k = false) := Lib.hid (by rw [EB.out]; exact decide_eq_false h200)
            have Fin := Lib.hid (repF_no Bad.out)
            have d2 : decide ((200 : Int) < (M : Int)) = true := by simp; omega
            go_wp2_with fail
            go_ret2
            exact ⟨_, 0, _, by rw [Bad.out]; try rfl, by rw [Fin.out]; exact S1.out, by omega, B1.out⟩
        · have dneg : decide (k < 0) = false := by simpa using hneg
          obtain ⟨K, rfl⟩ : ∃ K : Nat, k = (K : Int) := ⟨k.natAbs, by omega⟩
          have hK2 : ((K : Int)).natAbs = K := by omega
          obtain ⟨W, hW⟩ : ∃ W, wd = W := ⟨_, rfl⟩
          have EF : Hid (repB wd K = true → repF wd K = repL W K) := Lib.hid fun h => by unfold repF; rw [if_pos h, if_neg hneg, hW, hK2]
          have LW : Hid (W.length = n) := Lib.hid (by rw [← hW]; exact lx.out)
          have EM : Hid (K * n = M) := Lib.hid (by rw [← hK2]; exact HM.out)
          have wm : IntKind.i64.wrap ((K : Int) * (n : Int)) = (M : Int) := by
            rw [IntKind.wrap_i64, ← Int.natCast_mul, EM.out]; omega
          have hK200 : K ≤ 200 := by omega
          have HW := Lib.hid hW
          clear hK2 hW hneg
          go_enter Try.func40, Try.ntmps40
          go_wp2_with fail
          refine (specIsWd A n c wd w HX.out lx hn).mono ?_
          rintro e w' ⟨rfl, rfl⟩
          rw [Hv.out]
          go_wp2_with fail
          refine (inR_true (K : Int) _ _ _ (by omega) (by omega)).mono ?_
          rintro e w' ⟨rfl, rfl⟩
          obtain ⟨w1, hw1⟩ : ∃ w1, w.alloc (.cells #[] 2) = w1 := ⟨_, rfl⟩
          have R1 : Hid (∃ b off, A = some ⟨b, off, none⟩ ∧ b < w1.heap.size ∧ b ≠ w.heap.size ∧ ∀ j, j < W.length → w1.cell? ⟨b, off + j, none⟩ = some (.int .i64 (W.getD j 0))) := Lib.hid (by
            obtain ⟨b, off, e, hb, hc⟩ := HX.out (by rw [HW.out, LW.out]; omega)
            refine ⟨b, off, e, by rw [← hw1]; simp; omega, by omega, fun j hj => ?_⟩
            rw [← hw1]
            exact (B0.out.cell (p := ⟨b, off + j, none⟩) hb).trans (by rw [← HW.out]; exact hc j (by rw [HW.out]; exact hj)))
          have S1 : Hid (Slc w1 w.heap.size (some ⟨w.heap.size, 0, none⟩) 0 0 []) := Lib.hid (by rw [← hw1]; exact S0.out)
          have B1 : Hid (Below w.heap.size w w1) := Lib.hid (by rw [← hw1]; exact B0.out)
          rw [hw1]
          clear hw1
          have hz1 : w.heap.size < w1.heap.size := by have := (S1.out.lt_ w.heap.size rfl).2; exact this
          obtain ⟨b, off, rfl, hb1, hbn, hc1⟩ := R1.out
          have C1 := Lib.hid hc1
          clear hc1 R1
          by_cases h200 : M ≤ 200
          · have Ok : Hid (repB wd K = true) := Lib.hid (by rw [EB.out]; exact decide_eq_true h200)
            have d2 : decide ((200 : Int) < (M : Int)) = false := by simp; omega
            go_wp2_with fail
            go_loopw [6, 7] (fun ov iv wr => ∃ (i m cP : Nat) (P : Option Addr), i ≤ K ∧ iv = .int .i64 (i : Nat) ∧ ov = .slice P m cP ∧ Hid (i * n = m) ∧ Slc wr w.heap.size P m cP (repL W i) ∧ (∀ q, (Value.slice P m cP).ownBlock = some q → q = w.heap.size ∨ w1.heap.size ≤ q) ∧ w1.heap.size ≤ wr.heap.size ∧ (∀ j, j < W.length → wr.cell? ⟨b, off + j, none⟩ = some (.int .i64 (W.getD j 0))) ∧ Below w.heap.size w wr) (fun _ iv _ => K - (intOf iv).toNat)
            case atStart => exact ⟨0, 0, 0, _, Nat.zero_le _, rfl, rfl, Lib.hid (Nat.zero_mul n), S1.out, fun q e => .inl (by injection e with e; exact e.symm), Nat.le_refl _, C1.out, B1.out⟩
            case round =>
              clear S0 S1 B0 B1 wm
              obtain ⟨i, m, cP, P, hi, rfl, rfl, hm, hs, hq, hzw, hcw, bel⟩ := hrel
              have Sp := Lib.hid hs
              have Hq := Lib.hid hq
              have Cw := Lib.hid hcw
              have Be := Lib.hid bel
              have hz := bel.size
              have hmM : m ≤ M := by rw [← hm.out, ← EM.out]; exact Nat.mul_le_mul_right _ hi
              clear hs bel hq hcw
              by_cases hlt : i < K
              · have R2 : Hid (RI wr wr.heap.size (some ⟨b, off, none⟩) W) := Lib.hid fun _ => ⟨b, off, rfl, by omega, Cw.out⟩
                have hm2 : Hid ((i + 1) * n = m + n) := Lib.hid (by rw [Nat.succ_mul, hm.out])
                go_wp2_with (first | (at_builtin; refine wpList_appN_at rfl _ _ rfl w.heap.size P m cP _ rfl Sp.out b off n c W rfl R2.out LW.out (by omega) hz ?_; intro P6 c6 w6 s6 g6 h6) | go_in)
                have S6 : Hid (Slc w6 w.heap.size P6 (m + n) c6 (repL W (i + 1))) := Lib.hid (by rw [repL_succ]; exact s6)
                have B6 : Hid (Below w.heap.size w w6) := Lib.hid (Be.out.grown g6 hz (fun j hj => (Sp.out.lt_ j hj).1))
                have Z6 : Hid (w1.heap.size ≤ w6.heap.size) := Lib.hid (by have := g6.size; omega)
                have C6 : Hid (∀ j, j < W.length → w6.cell? ⟨b, off + j, none⟩ = some (.int .i64 (W.getD j 0))) := Lib.hid fun j hj => (World.cell?_of_block (a := ⟨b, off + j, none⟩) (g6.block b (by omega) (fun e => by rcases Hq.out b e.symm with h | h <;> omega))).trans (Cw.out j hj)
                have Q6 : Hid (∀ q, (Value.slice P6 (m + n) c6).ownBlock = some q → q = w.heap.size ∨ w1.heap.size ≤ q) := Lib.hid fun q e => by
                  rcases h6 with h | h
                  · exact Hq.out q (h.symm.trans e)
                  · rw [h] at e; injection e with e; exact .inr (by omega)
                clear s6 g6 h6
                go_wp2_with fail
                go_roundw
                case rel => exact ⟨i + 1, m + n, c6, P6, by omega, by go_num, rfl, hm2, S6.out, Q6.out, Z6.out, C6.out, B6.out⟩
                case measure => simp [intOf]; omega
              · have hiK : i = K := by omega
                have dlt : decide ((i : Int) < (K : Int)) = false := by simp; omega
                have HiK := Lib.hid hiK
                clear hiK
                have Fin : Hid (Slc wr w.heap.size P m cP (repF wd K)) := Lib.hid (by rw [EF.out Ok.out, ← HiK.out]; exact Sp.out)
                go_wp2_with fail
                go_ret2
                exact ⟨P, m, cP, by rw [Ok.out]; try rfl, Fin.out, by omega, Be.out⟩
          · have Bad : Hid (repB wd K = false) := Lib.hid (by rw [EB.out]; exact decide_eq_false h200)
            have Fin := Lib.hid (repF_no Bad.out)
            have d2 : decide ((200 : Int) < (M : Int)) = true := by simp; omega
            go_wp2_with fail
            go_ret2
            exact ⟨_, 0, _, by rw [Bad.out]; try rfl, by rw [Fin.out]; exact S1.out, by omega, B1.out⟩
      · have Bad : Hid (repB wd k = false) := Lib.hid (by unfold repB; rw [decide_eq_false hk, lx.out, decide_eq_false hn0]; simp)
        have Fin := Lib.hid (repF_no Bad.out)
        go_enter Try.func40, Try.ntmps40
        go_wp2_with fail
        refine (specIsWd A n c wd w HX.out lx hn).mono ?_
        rintro e w' ⟨rfl, rfl⟩
        rw [Hv.out]
        go_wp2_with fail
        refine (inR_false k _ _ _ (by omega)).mono ?_
        rintro e w' ⟨rfl, rfl⟩
        go_wp2_with fail
        go_ret2
        exact ⟨_, 0, _, by rw [Bad.out]; try rfl, by rw [Fin.out]; exact S0.out, by omega, B0.out⟩
end Go.Proofs.Ytoaaoikmkomofaa

/- The program's RepeatWord. Condition: at most 2097152 letters, numbers of 64 bits. -/
namespace Go.Proofs.Ytoaaoikmkomofaa
open Go.RowKit

theorem rrRep {w : World} {g T l c : Nat} {A : Option Addr} {W : List Int} (hg : g < w.heap.size) (hc : ∀ j, j < T → w.cell? ⟨g, j, none⟩ = some (.slice A l c)) (hr : RI w w.heap.size A W) (hl : W.length = l) (hcap : l ≤ c) :
    RR w w.heap.size (some ⟨g, 0, none⟩) T (List.replicate T (A, l, c)) (List.replicate T W) := by
  have e1 : ∀ j, j < T → (List.replicate T ((A, l, c) : SV)).getD j sd0 = (A, l, c) := fun j hj => by
    rw [List.getD_eq_getElem?_getD, List.getElem?_replicate, if_pos hj]; rfl
  have e2 : ∀ j, j < T → (List.replicate T W).getD j [] = W := fun j hj => by
    rw [List.getD_eq_getElem?_getD, List.getElem?_replicate, if_pos hj]; rfl
  refine ⟨by simp, by simp, fun _ => ⟨g, 0, rfl, hg, fun j hj => ?_⟩, fun j hj => ?_, fun j hj => ?_, fun j hj => ?_⟩
  · rw [Nat.zero_add, e1 j hj]; exact hc j hj
  · rw [e1 j hj, e2 j hj]; exact hr
  · rw [e1 j hj, e2 j hj]; exact hl
  · rw [e1 j hj]; exact hcap
theorem rep_ok {W : List Int} {T : Nat} (hv : vW 8 W = true) : okF (List.replicate T W) = decide (T * W.length ≤ 200) := by
  rw [okF_all fun i hi => by
    rw [List.length_replicate] at hi
    rw [List.getD_eq_getElem?_getD, List.getElem?_replicate, if_pos hi]; exact hv]
  rw [← repL_len]; rfl
theorem repB_T {wd : List Int} {k : Int} {T : Nat} (hv : vW 8 wd = true) (hT : T = min k.natAbs 201) : repB wd k = decide (T * wd.length ≤ 200) := by
  unfold repB
  rw [hv, Bool.true_and]
  by_cases h0 : wd.length = 0
  · rw [h0]; simp
  · rw [decide_eq_false h0, Bool.false_or]
    by_cases h1 : k.natAbs ≤ 200
    · have e : T = k.natAbs := by omega
      rw [e, decide_eq_true (show -200 ≤ k ∧ k ≤ 200 by omega), Bool.true_and]
    · have e : T = 201 := by omega
      rw [decide_eq_false (show ¬ (-200 ≤ k ∧ k ≤ 200) by omega), Bool.false_and]
      exact (decide_eq_false (by rw [e]; omega)).symm
theorem repF_T {wd W : List Int} {k : Int} {T : Nat} (hv : vW 8 wd = true) (hT : T = min k.natAbs 201) (hW : W = if k < 0 then ivW wd else wd) : catF (List.replicate T W) = repF wd k := by
  have hvW : vW 8 W = true := by rw [hW]; split; exact vW_iv hv; exact hv
  have hl : W.length = wd.length := by rw [hW]; split; exact ivW_len; rfl
  have e : okF (List.replicate T W) = repB wd k := by rw [rep_ok hvW, hl, repB_T hv hT]
  unfold catF repF
  rw [e, ← hW]
  by_cases h : repB wd k = true
  · rw [if_pos h, if_pos h]
    show repL W T = repL W k.natAbs
    by_cases h1 : k.natAbs ≤ 201
    · rw [hT, Nat.min_eq_left h1]
    · rw [repB_T hv hT, decide_eq_true_eq, show T = 201 by omega] at h
      have : W = [] := List.eq_nil_of_length_eq_zero (by omega)
      rw [this, repL_nil, repL_nil]
  · rw [if_neg h, if_neg h]

theorem implRepeatZ (gl K : Nat) (z : Int) (A : Option Addr) (l c : Nat) (w : World) (hb : Blk w gl 25 #[.slice A l c]) (hK : K ≤ 201) (hz : z = (K : Int)) :
    Calls Try.prog 78 #[.slice (some ⟨gl, 0, none⟩) 1 1, .int .i64 z] w fun e w' => ∃ g, e = .returned (.slice (some ⟨g, 0, none⟩) K K) ∧ g < w'.heap.size ∧ (∀ j, j < K → w'.cell? ⟨g, j, none⟩ = some (.slice A l c)) ∧ Below w.heap.size w w' := by
  subst hz; exact implRepeat gl K A l c w hb hK

set_option maxHeartbeats 4000000 in
set_option maxRecDepth 100000 in
/-- RepeatWord. -/
theorem implRepeatWord (A : Option Addr) (n c : Nat) (wd : List Int) (k : Int) (w : World) (hx : RI w w.heap.size A wd) (lx : Hid (wd.length = n)) (hn : n ≤ 2097152) (hc : n ≤ c) (vi : Hid (VI wd)) (wfk : -9223372036854775808 ≤ k ∧ k ≤ 9223372036854775807) :
    Calls Try.prog 39 #[.slice A n c, .int .i64 k] w fun e w' => ∃ A' n' c', e = .returned (.tuple #[.slice A' n' c', .bool (repB wd k)]) ∧ Slc w' w.heap.size A' n' c' (repF wd k) ∧ n' ≤ 200 ∧ Below w.heap.size w w' := by
  have HX := Lib.hid hx
  clear hx
  rcases hv : vW 8 wd with _ | _
  · have Hv := Lib.hid hv
    have Bad : Hid (repB wd k = false) := Lib.hid (by unfold repB; rw [hv]; rfl)
    have Fin := Lib.hid (repF_no Bad.out)
    clear hv
    go_enter Try.func39, Try.ntmps39
    go_wp2_with fail
    refine (implIsWord A n c wd w HX.out lx hn vi).mono ?_
    rintro e w' ⟨rfl, rfl⟩
    rw [Hv.out]
    go_wp2_with fail
    go_ret2
    exact ⟨none, 0, 0, by rw [Bad.out]; try rfl, by rw [Fin.out]; exact Slc.nil_, by omega, Below.refl _ _⟩
  · have Hv := Lib.hid hv
    have hn2 : n ≤ 200 := (small_of hv lx.out).1
    have VW : Hid (VI (ivW wd)) := Lib.hid (VI.of_vW (vW_iv hv))
    have IF : Hid (invF wd = ivW wd) := Lib.hid (by unfold invF; rw [if_pos hv])
    clear hv
    by_cases k1 : k < -201
    · skip
      have hT : (201 : Nat) = min k.natAbs 201 := by omega
      have OK : Hid (okF (List.replicate ((201 : Nat)) (ivW wd)) = repB wd k) := Lib.hid (by rw [rep_ok (vW_iv Hv.out), ivW_len, repB_T Hv.out hT])
      have FF : Hid (catF (List.replicate ((201 : Nat)) (ivW wd)) = repF wd k) := Lib.hid (repF_T Hv.out hT (by rw [if_pos (by omega)]))
      obtain ⟨T, eT⟩ : ∃ T : Nat, (201 : Nat) = T := ⟨_, rfl⟩
      have hT2 : T ≤ 201 := by omega
      rw [eT] at OK FF
      have ET : Hid ((201 : Int) = (T : Int)) := Lib.hid (by omega)
      have t1 : IntKind.i64.wrap 201 = 201 := by rw [IntKind.wrap_i64]; omega
      clear eT
      clear hT
      go_enter Try.func39, Try.ntmps39
      go_wp2_with fail
      refine (implIsWord A n c wd w HX.out lx hn vi).mono ?_
      rintro e w' ⟨rfl, rfl⟩
      rw [Hv.out]
      go_wp2_with fail
      refine (implInvertWord A n c wd w HX.out lx hn vi).mono ?_
      rintro e w1 ⟨A1, n1, c1, rfl, s1, h1, b1⟩
      rw [IF.out] at s1
      have S1 := Lib.hid s1
      have le1 := s1.le.1
      have B1 := Lib.hid b1
      clear s1 b1
      go_wp2_with fail
      have BA : Hid (Below w.heap.size w (w1.alloc (.cells #[.slice A1 n1 c1] 25))) := Lib.hid (B1.out.alloc B1.out.size _)
      have RA : Hid (RI (w1.alloc (.cells #[.slice A1 n1 c1] 25)) (w1.alloc (.cells #[.slice A1 n1 c1] 25)).heap.size A1 (ivW wd)) := Lib.hid (RI.up S1.out.ri_ ((Below.refl _ _).alloc (Nat.le_refl _) _))
      have hza := BA.out.size
      refine (implRepeatZ w1.heap.size T _ A1 n1 c1 _ (Blk.new w1 _ _) hT2 (by have := ET.out; omega)).mono ?_
      rintro e w2 ⟨g, rfl, hg, hcc, b2⟩
      have RL : Hid (RR w2 w2.heap.size (some ⟨g, 0, none⟩) T (List.replicate T (A1, n1, c1)) (List.replicate T (ivW wd))) := Lib.hid (rrRep hg hcc (RA.out.up b2) S1.out.1 le1)
      have B2 : Hid (Below w.heap.size w w2) := Lib.hid (btr BA.out b2)
      have Ll : Hid (∀ i, i < T → ((List.replicate T ((A1, n1, c1) : SV)).getD i sd0).2.1 ≤ 2097152) := Lib.hid fun i hi => by rw [List.getD_eq_getElem?_getD, List.getElem?_replicate, if_pos hi]; show n1 ≤ 2097152; omega
      have Lv : Hid (∀ i, i < T → VI ((List.replicate T (ivW wd)).getD i [])) := Lib.hid fun i hi => by rw [List.getD_eq_getElem?_getD, List.getElem?_replicate, if_pos hi]; exact VW.out
      clear hg hcc b2
      have hz2 := B2.out.size
      go_wp2_with fail
      refine (implCat _ T T _ _ _ RL.out (by omega) Ll Lv).mono ?_
      rintro e w3 ⟨A3, n3, c3, rfl, s3, h3, b3⟩
      rw [FF.out] at s3
      have S3 : Hid (Slc w3 w.heap.size A3 n3 c3 (repF wd k)) := Lib.hid (s3.mono (by omega))
      have B3 : Hid (Below w.heap.size w w3) := Lib.hid (btr B2.out b3)
      clear s3 b3
      rw [OK.out]
      go_wp2_with fail
      go_ret2
      exact ⟨A3, n3, c3, rfl, S3.out, h3, B3.out⟩
    · by_cases k2 : k < 0
      · skip
        have k3 : ¬ 201 < k := by omega
        have hT : (-k).toNat = min k.natAbs 201 := by omega
        have OK : Hid (okF (List.replicate ((-k).toNat) (ivW wd)) = repB wd k) := Lib.hid (by rw [rep_ok (vW_iv Hv.out), ivW_len, repB_T Hv.out hT])
        have FF : Hid (catF (List.replicate ((-k).toNat) (ivW wd)) = repF wd k) := Lib.hid (repF_T Hv.out hT (by rw [if_pos (by omega)]))
        obtain ⟨T, eT⟩ : ∃ T : Nat, (-k).toNat = T := ⟨_, rfl⟩
        have hT2 : T ≤ 201 := by omega
        rw [eT] at OK FF
        have d0 : decide (k < 0) = true := decide_eq_true k2
        have ET : Hid ((T : Int) = -k) := Lib.hid (by omega)
        have t1 : IntKind.i64.wrap (-k) = (T : Int) := by rw [IntKind.wrap_i64]; omega
        clear eT
        clear hT
        go_enter Try.func39, Try.ntmps39
        go_wp2_with fail
        refine (implIsWord A n c wd w HX.out lx hn vi).mono ?_
        rintro e w' ⟨rfl, rfl⟩
        rw [Hv.out]
        go_wp2_with fail
        refine (implInvertWord A n c wd w HX.out lx hn vi).mono ?_
        rintro e w1 ⟨A1, n1, c1, rfl, s1, h1, b1⟩
        rw [IF.out] at s1
        have S1 := Lib.hid s1
        have le1 := s1.le.1
        have B1 := Lib.hid b1
        clear s1 b1
        go_wp2_with fail
        have BA : Hid (Below w.heap.size w (w1.alloc (.cells #[.slice A1 n1 c1] 25))) := Lib.hid (B1.out.alloc B1.out.size _)
        have RA : Hid (RI (w1.alloc (.cells #[.slice A1 n1 c1] 25)) (w1.alloc (.cells #[.slice A1 n1 c1] 25)).heap.size A1 (ivW wd)) := Lib.hid (RI.up S1.out.ri_ ((Below.refl _ _).alloc (Nat.le_refl _) _))
        have hza := BA.out.size
        refine (implRepeatZ w1.heap.size T _ A1 n1 c1 _ (Blk.new w1 _ _) hT2 (by have := ET.out; omega)).mono ?_
        rintro e w2 ⟨g, rfl, hg, hcc, b2⟩
        have RL : Hid (RR w2 w2.heap.size (some ⟨g, 0, none⟩) T (List.replicate T (A1, n1, c1)) (List.replicate T (ivW wd))) := Lib.hid (rrRep hg hcc (RA.out.up b2) S1.out.1 le1)
        have B2 : Hid (Below w.heap.size w w2) := Lib.hid (btr BA.out b2)
        have Ll : Hid (∀ i, i < T → ((List.replicate T ((A1, n1, c1) : SV)).getD i sd0).2.1 ≤ 2097152) := Lib.hid fun i hi => by rw [List.getD_eq_getElem?_getD, List.getElem?_replicate, if_pos hi]; show n1 ≤ 2097152; omega
        have Lv : Hid (∀ i, i < T → VI ((List.replicate T (ivW wd)).getD i [])) := Lib.hid fun i hi => by rw [List.getD_eq_getElem?_getD, List.getElem?_replicate, if_pos hi]; exact VW.out
        clear hg hcc b2
        have hz2 := B2.out.size
        go_wp2_with fail
        refine (implCat _ T T _ _ _ RL.out (by omega) Ll Lv).mono ?_
        rintro e w3 ⟨A3, n3, c3, rfl, s3, h3, b3⟩
        rw [FF.out] at s3
        have S3 : Hid (Slc w3 w.heap.size A3 n3 c3 (repF wd k)) := Lib.hid (s3.mono (by omega))
        have B3 : Hid (Below w.heap.size w w3) := Lib.hid (btr B2.out b3)
        clear s3 b3
        rw [OK.out]
        go_wp2_with fail
        go_ret2
        exact ⟨A3, n3, c3, rfl, S3.out, h3, B3.out⟩
      · by_cases k3 : 201 < k
        · skip
          have hT : (201 : Nat) = min k.natAbs 201 := by omega
          have OK : Hid (okF (List.replicate ((201 : Nat)) wd) = repB wd k) := Lib.hid (by rw [rep_ok Hv.out, repB_T Hv.out hT])
          have FF : Hid (catF (List.replicate ((201 : Nat)) wd) = repF wd k) := Lib.hid (repF_T Hv.out hT (by rw [if_neg (by omega)]))
          obtain ⟨T, eT⟩ : ∃ T : Nat, (201 : Nat) = T := ⟨_, rfl⟩
          have hT2 : T ≤ 201 := by omega
          rw [eT] at OK FF
          have ET : Hid ((201 : Int) = (T : Int)) := Lib.hid (by omega)
          clear eT
          clear hT
          go_enter Try.func39, Try.ntmps39
          go_wp2_with fail
          refine (implIsWord A n c wd w HX.out lx hn vi).mono ?_
          rintro e w' ⟨rfl, rfl⟩
          rw [Hv.out]
          go_wp2_with fail
          have BA : Hid (Below w.heap.size w (w.alloc (.cells #[.slice A n c] 25))) := Lib.hid ((Below.refl w.heap.size w).alloc (Nat.le_refl _) _)
          have RA : Hid (RI (w.alloc (.cells #[.slice A n c] 25)) (w.alloc (.cells #[.slice A n c] 25)).heap.size A wd) := Lib.hid (RI.up HX.out ((Below.refl _ _).alloc (Nat.le_refl _) _))
          have hza := BA.out.size
          refine (implRepeatZ w.heap.size T _ A n c _ (Blk.new w _ _) hT2 (by have := ET.out; omega)).mono ?_
          rintro e w2 ⟨g, rfl, hg, hcc, b2⟩
          have RL : Hid (RR w2 w2.heap.size (some ⟨g, 0, none⟩) T (List.replicate T (A, n, c)) (List.replicate T wd)) := Lib.hid (rrRep hg hcc (RA.out.up b2) lx.out hc)
          have B2 : Hid (Below w.heap.size w w2) := Lib.hid (btr BA.out b2)
          have Ll : Hid (∀ i, i < T → ((List.replicate T ((A, n, c) : SV)).getD i sd0).2.1 ≤ 2097152) := Lib.hid fun i hi => by rw [List.getD_eq_getElem?_getD, List.getElem?_replicate, if_pos hi]; show n ≤ 2097152; omega
          have Lv : Hid (∀ i, i < T → VI ((List.replicate T wd).getD i [])) := Lib.hid fun i hi => by rw [List.getD_eq_getElem?_getD, List.getElem?_replicate, if_pos hi]; exact vi.out
          clear hg hcc b2
          have hz2 := B2.out.size
          go_wp2_with fail
          refine (implCat _ T T _ _ _ RL.out (by omega) Ll Lv).mono ?_
          rintro e w3 ⟨A3, n3, c3, rfl, s3, h3, b3⟩
          rw [FF.out] at s3
          have S3 : Hid (Slc w3 w.heap.size A3 n3 c3 (repF wd k)) := Lib.hid (s3.mono (by omega))
          have B3 : Hid (Below w.heap.size w w3) := Lib.hid (btr B2.out b3)
          clear s3 b3
          rw [OK.out]
          go_wp2_with fail
          go_ret2
          exact ⟨A3, n3, c3, rfl, S3.out, h3, B3.out⟩
        · skip
          have d0 : decide (k < 0) = false := decide_eq_false k2
          have hT : k.toNat = min k.natAbs 201 := by omega
          have OK : Hid (okF (List.replicate (k.toNat) wd) = repB wd k) := Lib.hid (by rw [rep_ok Hv.out, repB_T Hv.out hT])
          have FF : Hid (catF (List.replicate (k.toNat) wd) = repF wd k) := Lib.hid (repF_T Hv.out hT (by rw [if_neg (by omega)]))
          obtain ⟨T, eT⟩ : ∃ T : Nat, k.toNat = T := ⟨_, rfl⟩
          have hT2 : T ≤ 201 := by omega
          rw [eT] at OK FF
          have ET : Hid (k = (T : Int)) := Lib.hid (by omega)
          clear eT
          clear hT
          go_enter Try.func39, Try.ntmps39
          go_wp2_with fail
          refine (implIsWord A n c wd w HX.out lx hn vi).mono ?_
          rintro e w' ⟨rfl, rfl⟩
          rw [Hv.out]
          go_wp2_with fail
          have BA : Hid (Below w.heap.size w (w.alloc (.cells #[.slice A n c] 25))) := Lib.hid ((Below.refl w.heap.size w).alloc (Nat.le_refl _) _)
          have RA : Hid (RI (w.alloc (.cells #[.slice A n c] 25)) (w.alloc (.cells #[.slice A n c] 25)).heap.size A wd) := Lib.hid (RI.up HX.out ((Below.refl _ _).alloc (Nat.le_refl _) _))
          have hza := BA.out.size
          refine (implRepeatZ w.heap.size T _ A n c _ (Blk.new w _ _) hT2 (by have := ET.out; omega)).mono ?_
          rintro e w2 ⟨g, rfl, hg, hcc, b2⟩
          have RL : Hid (RR w2 w2.heap.size (some ⟨g, 0, none⟩) T (List.replicate T (A, n, c)) (List.replicate T wd)) := Lib.hid (rrRep hg hcc (RA.out.up b2) lx.out hc)
          have B2 : Hid (Below w.heap.size w w2) := Lib.hid (btr BA.out b2)
          have Ll : Hid (∀ i, i < T → ((List.replicate T ((A, n, c) : SV)).getD i sd0).2.1 ≤ 2097152) := Lib.hid fun i hi => by rw [List.getD_eq_getElem?_getD, List.getElem?_replicate, if_pos hi]; show n ≤ 2097152; omega
          have Lv : Hid (∀ i, i < T → VI ((List.replicate T wd).getD i [])) := Lib.hid fun i hi => by rw [List.getD_eq_getElem?_getD, List.getElem?_replicate, if_pos hi]; exact vi.out
          clear hg hcc b2
          have hz2 := B2.out.size
          go_wp2_with fail
          refine (implCat _ T T _ _ _ RL.out (by omega) Ll Lv).mono ?_
          rintro e w3 ⟨A3, n3, c3, rfl, s3, h3, b3⟩
          rw [FF.out] at s3
          have S3 : Hid (Slc w3 w.heap.size A3 n3 c3 (repF wd k)) := Lib.hid (s3.mono (by omega))
          have B3 : Hid (Below w.heap.size w w3) := Lib.hid (btr B2.out b3)
          clear s3 b3
          rw [OK.out]
          go_wp2_with fail
          go_ret2
          exact ⟨A3, n3, c3, rfl, S3.out, h3, B3.out⟩
end Go.Proofs.Ytoaaoikmkomofaa

/- The walk of the law FnExactRepeatWord: it returns true at every input, and writes nothing that was there. No condition. -/
namespace Go.Proofs.Ytoaaoikmkomofaa
open Go.RowKit

set_option maxHeartbeats 4000000 in
set_option maxRecDepth 100000 in
/-- The law FnExactRepeatWord. -/
theorem lawRepeatWord (s0A : Option Addr) (s0n s0c : Nat) (s0x : List Int) (i1 : Int) (w : World) (hs0 : RI w w.heap.size s0A s0x) (ls0 : Hid (s0x.length = s0n)) (vs0 : Hid (VI s0x)) (wfi1 : -9223372036854775808 ≤ i1 ∧ i1 ≤ 9223372036854775807) :
    Calls Try.prog 11 #[.slice s0A s0n s0c, .int .i64 i1] w fun e w' => e = .returned (.bool true) ∧ Below w.heap.size w w' := by
  have Hs0 := Lib.hid hs0
  clear hs0
  by_cases hns0 : s0n ≤ 1048576
  · skip
    go_enter Try.func11, Try.ntmps11
    go_wp2_with fail
    refine (toS_any s0A s0c s0n s0x w Hs0.out ls0 (by omega)).mono ?_
    rintro e w1 ⟨A1, c1, rfl, s1, b1⟩
    have B1 : Hid (Below w.heap.size w w1) := Lib.hid b1
    have Fts0_1 := Lib.hid s1
    have Lts0 := Lib.hid s1.lies
    have lets0 := s1.le.1
    clear s1 b1
    go_wp2_with fail
    refine (specRepeatWord _ _ _ s0x i1 w1 Fts0_1.out.ri_ ls0 (by omega) wfi1.1 wfi1.2).mono ?_
    rintro e w2 ⟨A2, n2, c2, rfl, s2, m2, b2⟩
    have B1_2 : Hid (Below w1.heap.size w1 w2) := Lib.hid b2
    have B2 : Hid (Below w.heap.size w w2) := Lib.hid (btr B1.out b2)
    have Fts0_2 := Lib.hid (Fts0_1.out.up b2)
    clear Fts0_1
    have FW_2 := Lib.hid s2
    have LW := Lib.hid s2.lies
    clear s2 b2
    clear Fts0_2
    go_wp2_with fail
    refine (toS_any s0A s0c s0n s0x w2 (Hs0.out.up B2.out) ls0 (by omega)).mono ?_
    rintro e w3 ⟨A3, c3, rfl, s3, b3⟩
    have B1_3 : Hid (Below w1.heap.size w1 w3) := Lib.hid (btr B1_2.out b3)
    have B2_3 : Hid (Below w2.heap.size w2 w3) := Lib.hid b3
    have B3 : Hid (Below w.heap.size w w3) := Lib.hid (btr B2.out b3)
    have FW_3 := Lib.hid (FW_2.out.up b3)
    clear FW_2
    have Fxs0_3 := Lib.hid s3
    have Lxs0 := Lib.hid s3.lies
    have lexs0 := s3.le.1
    clear s3 b3
    go_wp2_with fail
    refine (implRepeatWord _ _ _ s0x i1 w3 Fxs0_3.out.ri_ ls0 (by omega) lexs0 vs0 wfi1).mono ?_
    rintro e w4 ⟨A4, n4, c4, rfl, s4, m4, b4⟩
    have B1_4 : Hid (Below w1.heap.size w1 w4) := Lib.hid (btr B1_3.out b4)
    have B2_4 : Hid (Below w2.heap.size w2 w4) := Lib.hid (btr B2_3.out b4)
    have B3_4 : Hid (Below w3.heap.size w3 w4) := Lib.hid b4
    have B4 : Hid (Below w.heap.size w w4) := Lib.hid (btr B3.out b4)
    have FW_4 := Lib.hid (FW_3.out.up b4)
    clear FW_3
    have Fxs0_4 := Lib.hid (Fxs0_3.out.up b4)
    clear Fxs0_3
    have FG_4 := Lib.hid s4
    have LG := Lib.hid s4.lies
    clear s4 b4
    go_wp2_with fail
    refine (eqS_same _ _ A4 A2 n4 c4 n2 c2 w4 FG_4.out FW_4.out (by omega)).mono ?_
    rintro e w5 ⟨rfl, b5⟩
    have B1_5 : Hid (Below w1.heap.size w1 w5) := Lib.hid (btr B1_4.out b5)
    have B2_5 : Hid (Below w2.heap.size w2 w5) := Lib.hid (btr B2_4.out b5)
    have B3_5 : Hid (Below w3.heap.size w3 w5) := Lib.hid (btr B3_4.out b5)
    have B4_5 : Hid (Below w4.heap.size w4 w5) := Lib.hid b5
    have B5 : Hid (Below w.heap.size w w5) := Lib.hid (btr B4.out b5)
    have FW_5 := Lib.hid (FW_4.out.up b5)
    clear FW_4
    have Fxs0_5 := Lib.hid (Fxs0_4.out.up b5)
    clear Fxs0_4
    have FG_5 := Lib.hid (FG_4.out.up b5)
    clear FG_4
    clear b5
    go_wp2_with fail
    refine (toS_any s0A s0c s0n s0x w5 (Hs0.out.up B5.out) ls0 (by omega)).mono ?_
    rintro e w6 ⟨A6, c6, rfl, s6, b6⟩
    have B1_6 : Hid (Below w1.heap.size w1 w6) := Lib.hid (btr B1_5.out b6)
    have B2_6 : Hid (Below w2.heap.size w2 w6) := Lib.hid (btr B2_5.out b6)
    have B3_6 : Hid (Below w3.heap.size w3 w6) := Lib.hid (btr B3_5.out b6)
    have B4_6 : Hid (Below w4.heap.size w4 w6) := Lib.hid (btr B4_5.out b6)
    have B5_6 : Hid (Below w5.heap.size w5 w6) := Lib.hid b6
    have B6 : Hid (Below w.heap.size w w6) := Lib.hid (btr B5.out b6)
    have FW_6 := Lib.hid (FW_5.out.up b6)
    clear FW_5
    have Fxs0_6 := Lib.hid (Fxs0_5.out.up b6)
    clear Fxs0_5
    have FG_6 := Lib.hid (FG_5.out.up b6)
    clear FG_5
    have Fys0_6 := Lib.hid s6
    have Lys0 := Lib.hid s6.lies
    have leys0 := s6.le.1
    clear s6 b6
    go_wp2_with fail
    refine (eqS_same _ _ A3 A6 s0n c3 s0n c6 w6 Fxs0_6.out Fys0_6.out (by omega)).mono ?_
    rintro e w7 ⟨rfl, b7⟩
    have B1_7 : Hid (Below w1.heap.size w1 w7) := Lib.hid (btr B1_6.out b7)
    have B2_7 : Hid (Below w2.heap.size w2 w7) := Lib.hid (btr B2_6.out b7)
    have B3_7 : Hid (Below w3.heap.size w3 w7) := Lib.hid (btr B3_6.out b7)
    have B4_7 : Hid (Below w4.heap.size w4 w7) := Lib.hid (btr B4_6.out b7)
    have B5_7 : Hid (Below w5.heap.size w5 w7) := Lib.hid (btr B5_6.out b7)
    have B6_7 : Hid (Below w6.heap.size w6 w7) := Lib.hid b7
    have B7 : Hid (Below w.heap.size w w7) := Lib.hid (btr B6.out b7)
    have FW_7 := Lib.hid (FW_6.out.up b7)
    clear FW_6
    have Fxs0_7 := Lib.hid (Fxs0_6.out.up b7)
    clear Fxs0_6
    have FG_7 := Lib.hid (FG_6.out.up b7)
    clear FG_6
    have Fys0_7 := Lib.hid (Fys0_6.out.up b7)
    clear Fys0_6
    clear b7
    clear Fys0_7
    go_wp2_with fail
    refine (markK _ (1) _ A3 s0n c3 _ w7 Fxs0_7.out (by omega) (by omega) (by omega)).mono ?_
    rintro e w8 ⟨rfl, s8, g8⟩
    have B8 : Hid (Below w.heap.size w w8) := Lib.hid (B7.out.trans (below_mark g8 Lxs0.out B2.out.size B7.out.size))
    have FW_8 := Lib.hid (FW_7.out.far g8 LW.out Lxs0.out (.inl (Nat.le_refl _)))
    clear FW_7
    have Fxs0_8 := Lib.hid s8
    clear Fxs0_7
    have FG_8 := Lib.hid (FG_7.out.far g8 LG.out Lxs0.out (.inr (Nat.le_refl _)))
    clear FG_7
    clear s8 g8
    go_wp2_with fail
    refine (eqS_same _ _ A4 A2 n4 c4 n2 c2 w8 FG_8.out FW_8.out (by omega)).mono ?_
    rintro e w9 ⟨rfl, b9⟩
    have B9 : Hid (Below w.heap.size w w9) := Lib.hid (btr B8.out b9)
    have FW_9 := Lib.hid (FW_8.out.up b9)
    clear FW_8
    have Fxs0_9 := Lib.hid (Fxs0_8.out.up b9)
    clear Fxs0_8
    have FG_9 := Lib.hid (FG_8.out.up b9)
    clear FG_8
    clear b9
    clear Fxs0_9
    go_wp2_with fail
    refine (markK _ (1) _ A4 n4 c4 _ w9 FG_9.out (by omega) (by omega) (by omega)).mono ?_
    rintro e w10 ⟨rfl, s10, g10⟩
    have B10 : Hid (Below w.heap.size w w10) := Lib.hid (B9.out.trans (below_mark g10 LG.out B3.out.size B9.out.size))
    have FW_10 := Lib.hid (FW_9.out.far g10 LW.out LG.out (.inl (B2_3.out.size)))
    clear FW_9
    have FG_10 := Lib.hid s10
    clear FG_9
    clear s10 g10
    go_wp2_with fail
    refine (held1 _ A4 n4 c4 w10 FG_10.out (by omega)).mono ?_
    rintro e w' ⟨rfl, rfl⟩
    go_wp2_with fail
    refine (toS_any s0A s0c s0n s0x w10 (Hs0.out.up B10.out) ls0 (by omega)).mono ?_
    rintro e w11 ⟨A11, c11, rfl, s11, b11⟩
    have B11 : Hid (Below w.heap.size w w11) := Lib.hid (btr B10.out b11)
    have FW_11 := Lib.hid (FW_10.out.up b11)
    clear FW_10
    have FG_11 := Lib.hid (FG_10.out.up b11)
    clear FG_10
    have Fzs0_11 := Lib.hid s11
    have Lzs0 := Lib.hid s11.lies
    have lezs0 := s11.le.1
    clear s11 b11
    go_wp2_with fail
    refine (implRepeatWord _ _ _ s0x i1 w11 Fzs0_11.out.ri_ ls0 (by omega) lezs0 vs0 wfi1).mono ?_
    rintro e w12 ⟨A12, n12, c12, rfl, s12, m12, b12⟩
    have B11_12 : Hid (Below w11.heap.size w11 w12) := Lib.hid b12
    have B12 : Hid (Below w.heap.size w w12) := Lib.hid (btr B11.out b12)
    have FW_12 := Lib.hid (FW_11.out.up b12)
    clear FW_11
    have FG_12 := Lib.hid (FG_11.out.up b12)
    clear FG_11
    have Fzs0_12 := Lib.hid (Fzs0_11.out.up b12)
    clear Fzs0_11
    have FH_12 := Lib.hid s12
    have LH := Lib.hid s12.lies
    clear s12 b12
    clear Fzs0_12
    go_wp2_with fail
    refine (eqS_same _ _ A12 A2 n12 c12 n2 c2 w12 FH_12.out FW_12.out (by omega)).mono ?_
    rintro e w13 ⟨rfl, b13⟩
    have B11_13 : Hid (Below w11.heap.size w11 w13) := Lib.hid (btr B11_12.out b13)
    have B12_13 : Hid (Below w12.heap.size w12 w13) := Lib.hid b13
    have B13 : Hid (Below w.heap.size w w13) := Lib.hid (btr B12.out b13)
    have FW_13 := Lib.hid (FW_12.out.up b13)
    clear FW_12
    have FG_13 := Lib.hid (FG_12.out.up b13)
    clear FG_12
    have FH_13 := Lib.hid (FH_12.out.up b13)
    clear FH_12
    clear b13
    go_wp2_with fail
    refine (held1 _ A4 n4 c4 w13 FG_13.out (by omega)).mono ?_
    rintro e w' ⟨rfl, rfl⟩
    go_wp2_with fail
    go_ret
    exact ⟨rfl, B13.out⟩
  · have d1 : decide ((1048576 : Int) < s0n) = true := by simp; omega
    go_enter Try.func11, Try.ntmps11
    go_wp2
    go_ret
    exact ⟨rfl, Below.refl _ _⟩
end Go.Proofs.Ytoaaoikmkomofaa
