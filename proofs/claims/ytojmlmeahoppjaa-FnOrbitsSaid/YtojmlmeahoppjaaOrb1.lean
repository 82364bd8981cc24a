/- Orbit, of the program and of the model. Conditions: at most 1048576 lists of at most 1048576 numbers. -/
import Derived.Test.YtojmlmeahoppjaaOrS
namespace Go.Proofs.Ytojmlmeahoppjaa
open Go.RowKit

/-- isPoint of the program. -/
theorem implPt (n x : Int) (w : World) : Calls Try.prog 54 #[.int .i64 n, .int .i64 x] w fun e w' => e = .returned (.bool (decide (0 ≤ x ∧ x < n))) ∧ w = w' := by
  by_cases h1 : 0 ≤ x
  · by_cases h2 : x < n
    · have e1 : decide (0 ≤ x ∧ x < n) = true := decide_eq_true ⟨h1, h2⟩
      rw [e1]
      clear e1
      go_enter Try.func54, Try.ntmps54
      go_wp2
      go_ret
      exact ⟨rfl, rfl⟩
    · have e1 : decide (0 ≤ x ∧ x < n) = false := decide_eq_false fun h => h2 h.2
      have d2 : decide (x < n) = false := decide_eq_false h2
      rw [e1]
      clear e1
      go_enter Try.func54, Try.ntmps54
      go_wp2
      go_ret
      exact ⟨rfl, rfl⟩
  · have e1 : decide (0 ≤ x ∧ x < n) = false := decide_eq_false fun h => h1 h.1
    have d2 : decide (0 ≤ x) = false := decide_eq_false h1
    rw [e1]
    clear e1
    go_enter Try.func54, Try.ntmps54
    go_wp2
    go_ret
    exact ⟨rfl, rfl⟩
/-- isPoint of the model. -/
theorem specPt (n x : Int) (w : World) (h1 : 1 ≤ n) (h2 : n ≤ 1000) : Calls Try.prog 56 #[.int .i64 n, .int .i64 x] w fun e w' => e = .returned (.bool (decide (0 ≤ x ∧ x < n))) ∧ w = w' := by
  by_cases h : 0 ≤ x ∧ x < n
  · rw [decide_eq_true h]
    go_enter Try.func56, Try.ntmps56
    go_wp2_with fail
    refine (inR_true _ _ _ _ (by omega) (by omega)).mono ?_
    rintro e w' ⟨rfl, rfl⟩
    go_wp2
    go_ret
    exact ⟨rfl, rfl⟩
  · rw [decide_eq_false h]
    go_enter Try.func56, Try.ntmps56
    go_wp2_with fail
    refine (inR_false _ _ _ _ (by omega)).mono ?_
    rintro e w' ⟨rfl, rfl⟩
    go_wp2
    go_ret
    exact ⟨rfl, rfl⟩

/-- What Orbit answers. -/
def orbitL (n : Int) (gs : List (List Int)) (x : Int) : List Int := if gB n gs = true ∧ 0 ≤ x ∧ x < n then oS gs n.toNat x.toNat else []

/-- 'make([]bool, n)'. -/
theorem infoB : (Try.prog.info? 4).map (fun i => (i.zero, i.size, i.bytes)) = some (some (.bool false), 1, 1) := by kernel_rfl
theorem made_bits {w : World} {base g n : Nat} (h : w.ownsRow base 4 1 (.slice (some ⟨g, 0, none⟩) n n) n (madeCells (Value.bool false).cells (n * 1)).toList) : ∃ cs, Blk w g 4 cs ∧ Bits n (fun _ => false) cs := by
  rcases h.2 with ⟨e, _⟩ | ⟨g', cap, cur, e, _, hg, _, _, hsz, htk⟩
  · cases e
  · injection e with e1 e2 e3
    subst e3
    have eg : g = g' := by simpa using e1
    subst eg
    refine ⟨cur, hg, by rw [hsz]; omega, fun y hy => ?_⟩
    have hm : (madeCells (Value.bool false).cells (n * 1)).toList = List.replicate n (Value.bool false) := by
      show (madeCells #[Value.bool false] (n * 1)).toList = _
      rw [toList_madeCells_one]; simp
    rw [hm, Nat.mul_one, List.take_of_length_le (by simp [hsz])] at htk
    rw [← Array.getElem?_toList, htk, List.getElem?_replicate, if_pos hy]

set_option maxHeartbeats 1600000 in
set_option maxRecDepth 100000 in
/-- The program's Orbit. -/
theorem implOrbit (a : Int) (A : Option Addr) (n c : Nat) (x : Int) (vs : List SV) (xss : List (List Int)) (w : World) (hx : RR w w.heap.size A n vs xss) (hn : n ≤ 1048576) (hl : Hid (∀ i, i < n → (vs.getD i sd0).2.1 ≤ 1048576)) :
    Calls Try.prog 23 #[.int .i64 a, .slice A n c, .int .i64 x] w fun e w' => ∃ A' m c', e = .returned (.slice A' m c') ∧ Slc w' w.heap.size A' m c' (orbitL a xss x) ∧ m ≤ 20 ∧ Below w.heap.size w w' := by
  rcases hs : gB a xss with _ | _
  · have Fin : Hid (orbitL a xss x = []) := Lib.hid (if_neg (by rw [hs]; simp))
    go_enter Try.func23, Try.ntmps23
    go_wp2_with fail
    have K0 := implGS a A n c vs xss w hx hn hl
    refine K0.mono ?_
    rintro e w1 ⟨rfl, b1⟩
    have B1 := Lib.hid b1
    clear b1 K0
    rw [hs]
    go_wp2_with fail
    go_ret
    exact ⟨_, _, _, rfl, by rw [Fin.out]; exact Slc.nil_, by omega, B1.out⟩
  · by_cases hpt : 0 ≤ x ∧ x < a
    · have Fin : Hid (orbitL a xss x = oS xss a.toNat x.toNat) := Lib.hid (if_pos ⟨hs, hpt⟩)
      obtain ⟨N, hN, hN1, hN2, hg8, hpm, hok⟩ := gB_pm hs
      obtain ⟨y, rfl⟩ := Int.eq_ofNat_of_zero_le hpt.1
      subst hN
      have Pm := Lib.hid hpm
      have HX := Lib.hid hx
      have hlx := hx.lx
      have Pt : Hid (decide (0 ≤ (y : Int) ∧ (y : Int) < N) = true) := Lib.hid (decide_eq_true hpt)
      have hyN : y < N := by omega
      obtain ⟨i0, hi, hz0, hz1, hz2⟩ := info_parts infoB
      clear hok hpm hpt
      go_enter Try.func23, Try.ntmps23
      go_wp2_with fail
      have K0 := implGS N A n c vs xss w hx hn hl
      refine K0.mono ?_
      rintro e w1 ⟨rfl, b1⟩
      have B1 := Lib.hid b1
      clear b1 hx K0
      rw [hs]
      clear hs
      go_wp2_with fail
      refine (implPt N y w1).mono ?_
      rintro e w1' ⟨rfl, rfl⟩
      rw [Pt.out]
      go_wp2_with (first | (at_make; refine wpList_make_full _ rfl _ _ 61 rfl w1.heap.size 4 i0 (.bool false) 1 Try.underlying61 hi hz0 hz1 .i64 .i64 _ _ N rfl rfl rfl rfl (by rw [hz2]; omega) (by unfold maxLen; omega) (Nat.le_refl _) ?_; intro w2 hown2 hgrow2))
      obtain ⟨cs, blk, bits⟩ := made_bits hown2
      have Blk2 := Lib.hid blk
      have Bits2 := Lib.hid bits
      have B2 : Hid (Below w.heap.size w w2) := Lib.hid (B1.out.grown hgrow2 B1.out.size (fun k e => nomatch e))
      have X2 : Hid (RR w2 w1.heap.size A n vs xss) := Lib.hid ((HX.out.up B1.out).grown hgrow2 (Nat.le_refl _) (fun k e => nomatch e))
      clear hown2 hgrow2 blk bits
      go_wp2_with fail
      refine (implFrom y A n c N w1.heap.size w1.heap.size vs xss (fun _ => false) cs w2 X2.out (Nat.le_refl _) Pm hyN (by omega) (by omega) Blk2.out Bits2 (Lib.hid rfl) (Lib.hid fun _ _ _ _ _ => rfl)).mono ?_
      rintro e w3 ⟨A3, m3, c3, rfl, s3, -, g3⟩
      have S3 := Lib.hid (s3.mono B2.out.size)
      have hm3 : m3 ≤ 20 := by
        rw [← s3.1, oS, List.length_map, oN_len Pm.out hyN]
        have := (orb_fd Pm.out hyN).len
        omega
      have B3 : Hid (Below w.heap.size w w3) := Lib.hid (B2.out.grown g3 B2.out.size (fun k e => by cases e; exact B1.out.size))
      clear s3 g3
      go_wp2
      go_ret
      exact ⟨_, _, _, rfl, by rw [Fin.out]; exact S3.out, hm3, B3.out⟩
    · have Fin : Hid (orbitL a xss x = []) := Lib.hid (if_neg (by rw [hs]; simpa using hpt))
      have Pt : Hid (decide (0 ≤ x ∧ x < a) = false) := Lib.hid (decide_eq_false hpt)
      clear hpt
      go_enter Try.func23, Try.ntmps23
      go_wp2_with fail
      have K0 := implGS a A n c vs xss w hx hn hl
      refine K0.mono ?_
      rintro e w1 ⟨rfl, b1⟩
      have B1 := Lib.hid b1
      clear b1 K0
      rw [hs]
      go_wp2_with fail
      refine (implPt a x w1).mono ?_
      rintro e w1' ⟨rfl, rfl⟩
      rw [Pt.out]
      go_wp2_with fail
      go_ret
      exact ⟨_, _, _, rfl, by rw [Fin.out]; exact Slc.nil_, by omega, B1.out⟩

set_option maxHeartbeats 1600000 in
set_option maxRecDepth 100000 in
/-- The model's Orbit. -/
theorem specOrbit (a : Int) (A : Option Addr) (n c : Nat) (x : Int) (vs : List SV) (xss : List (List Int)) (w : World) (hx : RR w w.heap.size A n vs xss) (hn : n ≤ 1048576) (hl : Hid (∀ i, i < n → (vs.getD i sd0).2.1 ≤ 1048576)) (ha : -9223372036854775808 ≤ a ∧ a ≤ 9223372036854775807) :
    Calls Try.prog 25 #[.int .i64 a, .slice A n c, .int .i64 x] w fun e w' => ∃ A' m c', e = .returned (.slice A' m c') ∧ Slc w' w.heap.size A' m c' (orbitL a xss x) ∧ m ≤ 20 ∧ Below w.heap.size w w' := by
  rcases hs : gB a xss with _ | _
  · have Fin : Hid (orbitL a xss x = []) := Lib.hid (if_neg (by rw [hs]; simp))
    go_enter Try.func25, Try.ntmps25
    go_wp2_with fail
    have K0 := specGS a A n c vs xss w hx hn hl ha
    refine K0.mono ?_
    rintro e w1 ⟨rfl, b1⟩
    have B1 := Lib.hid b1
    clear b1 K0
    rw [hs]
    go_wp2_with fail
    go_ret
    exact ⟨_, _, _, rfl, by rw [Fin.out]; exact Slc.lit0 w1 _ B1.out.size, by omega, B1.out.alloc B1.out.size _⟩
  · by_cases hpt : 0 ≤ x ∧ x < a
    · have Fin : Hid (orbitL a xss x = oS xss a.toNat x.toNat) := Lib.hid (if_pos ⟨hs, hpt⟩)
      obtain ⟨N, hN, hN1, hN2, hg8, hpm, hok⟩ := gB_pm hs
      obtain ⟨y, rfl⟩ := Int.eq_ofNat_of_zero_le hpt.1
      subst hN
      have Pm := Lib.hid hpm
      have HX := Lib.hid hx
      have hlx := hx.lx
      have Pt : Hid (decide (0 ≤ (y : Int) ∧ (y : Int) < N) = true) := Lib.hid (decide_eq_true hpt)
      have hyN : y < N := by omega
      clear hok hpm hpt
      go_enter Try.func25, Try.ntmps25
      go_wp2_with fail
      have K0 := specGS N A n c vs xss w hx hn hl ha
      refine K0.mono ?_
      rintro e w1 ⟨rfl, b1⟩
      have B1 := Lib.hid b1
      clear b1 hx K0
      rw [hs]
      clear hs
      go_wp2_with fail
      refine (specPt N y w1 (by omega) (by omega)).mono ?_
      rintro e w1' ⟨rfl, rfl⟩
      rw [Pt.out]
      go_wp2_with fail
      refine (specOrbOf y A n c N vs xss w1 (HX.out.up B1.out) Pm hyN (by omega) (by omega)).mono ?_
      rintro e w2 ⟨g2, c2, rfl, s2, b2⟩
      have S2 := Lib.hid s2
      have B2 : Hid (Below w.heap.size w w2) := Lib.hid (btr B1.out b2)
      obtain ⟨M, hM⟩ : ∃ M, (orb xss N y).length = M := ⟨_, rfl⟩
      have hM20 : M ≤ 20 := by rw [← hM]; have := (orb_fd Pm.out hyN).len; omega
      rw [hM] at S2 ⊢
      have HM := Lib.hid hM
      clear s2 b2 hM
      go_wp2_with fail
      refine (specSorted (some ⟨g2, 0, none⟩) M c2 ((orb xss N y).map Int.ofNat) w2 S2.out.ri_ S2.out.hid (Lib.hid ?_) (by omega)).mono ?_
      · exact ((orb_fd Pm.out hyN).nd).map Int.ofNat (fun a b hab e => hab (Int.ofNat.inj e))
      rintro e w3 ⟨g3, c3, zs, rfl, s3, p3, st3, b3⟩
      have S3 : Hid (Slc w3 w.heap.size (some ⟨g3, 0, none⟩) M c3 (oS xss N y)) := Lib.hid (by rw [← oS_of Pm.out hyN p3 st3]; exact s3.mono B2.out.size)
      have B3 : Hid (Below w.heap.size w w3) := Lib.hid (btr B2.out b3)
      clear s3 p3 st3 b3
      go_wp2
      go_ret
      exact ⟨_, _, _, rfl, by rw [Fin.out]; exact S3.out, hM20, B3.out⟩
    · have Fin : Hid (orbitL a xss x = []) := Lib.hid (if_neg (by rw [hs]; simpa using hpt))
      have Pt : Hid (decide (0 ≤ x ∧ x < a) = false) := Lib.hid (decide_eq_false hpt)
      have hab := gB_iff.1 hs
      have ha1 := hab.1
      have ha2 := hab.2.1
      clear hpt hab
      go_enter Try.func25, Try.ntmps25
      go_wp2_with fail
      have K0 := specGS a A n c vs xss w hx hn hl ha
      refine K0.mono ?_
      rintro e w1 ⟨rfl, b1⟩
      have B1 := Lib.hid b1
      clear b1 K0
      rw [hs]
      go_wp2_with fail
      refine (specPt a x w1 ha1 (by omega)).mono ?_
      rintro e w1' ⟨rfl, rfl⟩
      rw [Pt.out]
      go_wp2_with fail
      go_ret
      exact ⟨_, _, _, rfl, by rw [Fin.out]; exact Slc.lit0 w1 _ B1.out.size, by omega, B1.out.alloc B1.out.size _⟩
end Go.Proofs.Ytojmlmeahoppjaa
