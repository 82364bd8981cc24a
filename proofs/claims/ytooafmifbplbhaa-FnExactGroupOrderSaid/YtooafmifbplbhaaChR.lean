/- Members with given entries, by the model's chain. Conditions: at most 20 points, 8 generators. -/
import Derived.Test.YtooafmifbplbhaaChQ
import Derived.Test.YtooafmifbplbhaaIns
namespace Go.Proofs.Ytooafmifbplbhaa
open Go.RowKit

/-- The entries that level i allows behind p, among the first m points. -/
def chL (c : Ch) (i : Nat) (p : List Int) (m : Nat) : List Int := ((List.range m).filter fun y => !(c.rep i y).isEmpty).map fun y => (nx p y : Int)
theorem chL_yes {c : Ch} {i m : Nat} {p : List Int} (h : c.rep i m ≠ []) : chL c i p (m + 1) = chL c i p m ++ [(nx p m : Int)] := by
  unfold chL; rw [List.range_succ, List.filter_append]; simp [List.isEmpty_eq_false_iff.2 h]
theorem chL_no {c : Ch} {i m : Nat} {p : List Int} (h : c.rep i m = []) : chL c i p (m + 1) = chL c i p m := by
  unfold chL; rw [List.range_succ, List.filter_append]; simp [h]
theorem chL_mem {c : Ch} {i m : Nat} {p : List Int} {v : Int} : v ∈ chL c i p m ↔ ∃ y, y < m ∧ c.rep i y ≠ [] ∧ (nx p y : Int) = v := by
  simp only [chL, List.mem_map, List.mem_filter, List.mem_range, Bool.not_eq_true', List.isEmpty_eq_false_iff, and_assoc]
theorem chL_len (c : Ch) (i : Nat) (p : List Int) (m : Nat) : (chL c i p m).length ≤ m := by
  unfold chL; rw [List.length_map]
  have := List.length_filter_le (fun y => !(c.rep i y).isEmpty) (List.range m)
  simpa using this

set_option maxHeartbeats 2000000 in
set_option maxRecDepth 100000 in
theorem specChoices (base g N i cp : Nat) (A : Option Addr) (c : Ch) (L : LY) (gs : List (List Int)) (p : List Int) (w : World) (hc : Cn w base g N c L) (hw : Whole N gs c) (hp : RI w w.heap.size A p) (hP : Hid (Pn N p)) (hi : i < N) :
    Calls Try.prog 58 #[.pointer (some ⟨g, 0, none⟩), .int .i64 (i : Nat), .slice A N cp] w fun e w' => ∃ g' m cc zs, e = .returned (.slice (some ⟨g', 0, none⟩) m cc) ∧ Slc w' w.heap.size (some ⟨g', 0, none⟩) m cc zs ∧ zs.Perm (chL c i p N) ∧ zs.Pairwise (· ≤ ·) ∧ Below w.heap.size w w' := by
  have HC := Lib.hid hc
  have HW := Lib.hid hw
  have HP := Lib.hid hp
  have hN := hP.out.pos
  have S0 := Lib.hid (Slc.lit0 w w.heap.size (Nat.le_refl _))
  clear hc hw hp
  go_enter Try.func58, Try.ntmps58
  go_wp2_with fail
  go_loopw [7, 8] (fun v j wr => ∃ (k m cc q : Nat) (zs : List Int), k ≤ N ∧ m ≤ k ∧ j = .int .i64 (k : Nat) ∧ v = .slice (some ⟨q, 0, none⟩) m cc ∧ Slc wr w.heap.size (some ⟨q, 0, none⟩) m cc zs ∧ zs.Perm (chL c i p k) ∧ zs.Pairwise (· ≤ ·) ∧ Below w.heap.size w wr) (fun _ j _ => N - (intOf j).toNat)
  case atStart => exact ⟨0, 0, _, _, [], Nat.zero_le _, Nat.le_refl _, rfl, rfl, S0.out, .refl _, .nil, (Below.refl _ _).alloc (Nat.le_refl _) _⟩
  case round =>
    clear S0
    obtain ⟨k, m, cc, q, zs, hk, hmk, rfl, rfl, hs, hpm, hso, bel⟩ := hrel
    have Ss := Lib.hid hs
    have Be := Lib.hid bel
    have Pm1 := Lib.hid hpm
    have So := Lib.hid hso
    have C1 := Lib.hid (HC.out.up bel)
    have x0 := C1.out.c0
    clear hs hpm hso
    by_cases hlt : k < N
    · have x1 := C1.out.c1
      have x2 := C1.out.cR hi
      have x3 := C1.out.cro hi hlt
      have en := C1.out.enn hi hlt
      rcases hd : (L.en i).getD k sd0 with ⟨dA, dn, dc⟩
      rw [hd] at x3 en
      simp only [sval] at x3
      have q0 : (0 : Int) ≤ k := by omega
      have q1 : (k : Int) < N := by omega
      have q2 : (0 : Int) ≤ i := by omega
      have q3 : (i : Int) < N := by omega
      have en2 : dn = (c.rep i k).length := en
      by_cases hz : c.rep i k = []
      · obtain rfl : dn = 0 := by rw [en2, hz]; rfl
        have d0 : decide ((0 : Int) < 0) = false := by decide
        have Kn := Lib.hid (chL_no (p := p) hz)
        clear hd en en2 bel
        go_wp2_with fail
        go_roundw
        case rel => exact ⟨k + 1, m, cc, q, zs, by omega, by omega, by go_num, rfl, Ss.out, by rw [Kn.out]; exact Pm1.out, So.out, Be.out⟩
        case measure => simp [intOf]; omega
      · obtain rfl : dn = N := by
          have h2 := rep_ne_pos (HW.out.up.rep i (Nat.zero_le _) hi) hz
          omega
        have d0 : decide ((0 : Int) < (dn : Int)) = true := by simp; omega
        have Kn := Lib.hid (chL_yes (p := p) hz)
        obtain ⟨b, off, rfl, hb, hcell⟩ := (HP.out.up bel) (by rw [hP.out.2]; omega)
        have x4 := hcell k (by rw [hP.out.2]; exact hlt)
        rw [nx_val hP.out.1 (by rw [hP.out.2]; exact hlt)] at x4
        have hv : Hid (((nx p k : Nat) : Int) ∉ zs) := Lib.hid fun hm => by
          obtain ⟨y, hy, _, e⟩ := chL_mem.1 (Pm1.out.mem_iff.1 hm)
          have := hP.out.inj (x := y) (y := k) (by omega) hlt (by omega)
          omega
        obtain ⟨v, ev⟩ : ∃ v, nx p k = v := ⟨_, rfl⟩
        rw [ev] at x4 hv Kn
        clear hd en en2 bel hb hcell ev
        go_wp2_with fail
        refine (specIns q m cc w.heap.size zs (v : Int) wr Ss.out hv (by omega)).mono ?_
        rintro e w2 ⟨g2, c2, zs2, rfl, s2, p2, o2, b2⟩
        have S2 : Hid (Slc w2 w.heap.size (some ⟨g2, 0, none⟩) (m + 1) c2 zs2) := Lib.hid (s2.mono Be.out.size)
        have P2 : Hid (zs2.Perm (chL c i p (k + 1))) := Lib.hid (by
          rw [Kn.out]
          exact (p2.trans (Pm1.out.cons _)).trans (by simpa using (List.perm_append_comm (l₁ := [(v : Int)]) (l₂ := chL c i p k))))
        have O2 := Lib.hid (o2 So.out)
        have Be2 : Hid (Below w.heap.size w w2) := Lib.hid (btr Be.out b2)
        clear s2 p2 o2 b2
        go_wp2_with fail
        go_roundw
        case rel => exact ⟨k + 1, m + 1, c2, g2, zs2, by omega, by omega, by go_num, rfl, S2.out, P2.out, O2.out, Be2.out⟩
        case measure => simp [intOf]; omega
    · obtain rfl : k = N := by omega
      clear bel
      go_wp2_with fail
      go_ret
      exact ⟨q, m, cc, zs, rfl, Ss.out, Pm1.out, So.out, Be.out⟩

set_option maxHeartbeats 2000000 in
set_option maxRecDepth 100000 in
theorem specWithEntry (base g N i v y cp : Nat) (A : Option Addr) (c : Ch) (L : LY) (p : List Int) (w : World) (hc : Cn w base g N c L) (hp : RI w w.heap.size A p) (hP : Hid (Pn N p)) (hi : i < N) (hy : y < N) (hv : Hid (nx p y = v)) (hz : Hid (Pn N (c.rep i y))) :
    Calls Try.prog 59 #[.pointer (some ⟨g, 0, none⟩), .int .i64 (i : Nat), .slice A N cp, .int .i64 (v : Nat)] w fun e w' => ∃ A' c', e = .returned (.slice A' N c') ∧ Slc w' w.heap.size A' N c' (compL (c.rep i y) p) ∧ Below w.heap.size w w' := by
  have HC := Lib.hid hc
  have HP := Lib.hid hp
  have hN := hP.out.pos
  have x1 := hc.c1
  have x2 := hc.cR hi
  have q0 : (0 : Int) ≤ v := by omega
  have hvN : v < N := by rw [← hv.out]; exact hP.out.lt hy
  have q1 : (v : Int) < N := by omega
  have q2 : (0 : Int) ≤ i := by omega
  have q3 : (i : Int) < N := by omega
  have q4 : (0 : Int) ≤ y := by omega
  have q5 : (y : Int) < N := by omega
  have x3 := hc.cro hi hy
  have en := hc.enn hi hy
  rcases hd : (L.en i).getD y sd0 with ⟨dA, dn, dc⟩
  rw [hd] at x3 en
  simp only [sval] at x3
  obtain rfl : dn = N := by
    have h1 : dn = (c.rep i y).length := en
    rw [h1, hz.out.2]
  have Hd := Lib.hid hd
  clear hc hp hd en
  go_enter Try.func59, Try.ntmps59
  go_wp2_with fail
  have Iv : Hid ((invL p dn).getD v 0 = (y : Int)) := Lib.hid (by
    have e1 : invL p dn = iv p := by unfold iv; rw [hP.out.2]
    have e2 := hP.out.nxi hy
    rw [hv.out] at e2
    have h3 := hP.out.iv
    rw [e1, nx_val h3.1 (by rw [h3.2]; exact hvN), e2])
  go_region_law ((go_simp; go_wp2_with (first
    | (go_at_call 73; refine (specInv A cp dn p w.drew HP.out (Lib.hid hP.out.2) (Lib.hid hP.out.1) hN.2).mono ?_; rintro e w1 ⟨A1, c1, rfl, s1, b1⟩
       have b1' : Below w.heap.size w w1 := ⟨b1.os, b1.tape, b1.output, b1.size, b1.block⟩
       have C1 := HC.out.up b1'
       have z1 := C1.c1
       have z2 := C1.cR hi
       have z3 := C1.cro hi hy
       rw [Hd.out] at z3
       simp only [sval] at z3
       obtain ⟨bb, off, hA1, hb1, hc1⟩ := s1.ri_ (by rw [s1.1]; omega)
       subst hA1
       have z4 := hc1 v (by rw [s1.1]; exact hvN)
       rw [Iv.out] at z4
       have E0 := C1.ent1 i hi y hy
       rw [Hd.out] at E0
       have E1 := Lib.hid E0
       have M1 := Lib.hid (HP.out.up b1')
       have B1 := Lib.hid b1'
       clear hb1 hc1 s1 b1 b1' C1 E0)
    | (go_at_call 62; (first | refine (specComp dA A dc cp dn (c.rep i y) p w1 E1.out.ri_ M1.out (Lib.hid hz.out.2) (Lib.hid hP.out.2) (Lib.hid hz.out.1) hN.2).mono ?_ | refine (specComp dA A dc cp dn (c.rep i y) p w1.drew E1.out.ri_ M1.out (Lib.hid hz.out.2) (Lib.hid hP.out.2) (Lib.hid hz.out.1) hN.2).mono ?_); rintro e w2 ⟨A2, c2, rfl, s2, b2⟩))))
  all_goals (go_wp2_with fail; go_ret; exact ⟨A2, c2, rfl, s2.mono B1.out.size, btr B1.out b2⟩)
end Go.Proofs.Ytooafmifbplbhaa
