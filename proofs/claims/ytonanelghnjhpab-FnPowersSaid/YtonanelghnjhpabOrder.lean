/- ElementOrder, of the program and of the model. Condition: at most 2097152 entries. -/
import Derived.Test.YtonanelghnjhpabAll
namespace Go.Proofs.Ytonanelghnjhpab
open Go.RowKit

theorem gcd_step {a b : Nat} (hb : b ≠ 0) : Nat.gcd b (a % b) = Nat.gcd a b := by
  rw [Nat.gcd_comm a b, Nat.gcd_rec b a, Nat.gcd_comm]

set_option maxHeartbeats 400000 in
theorem implGcd (a b : Nat) (w : World) (ha : a ≤ 1000000000000) (hb : b ≤ 1000000000000) :
    Calls Try.prog 29 #[.int .i64 a, .int .i64 b] w fun e w' => e = .returned (.int .i64 (Nat.gcd a b : Nat)) ∧ Below w.heap.size w w' := by
  refine quiet_below ?_
  go_enter Try.func29, Try.ntmps29
  go_wp2
  go_loopw [0, 1] (fun u v wr => ∃ x y : Nat, u = .int .i64 x ∧ v = .int .i64 y ∧ x ≤ 1000000000000 ∧ y ≤ 1000000000000 ∧ Hid (Nat.gcd x y = Nat.gcd a b) ∧ ∃ q, wr = w.drewN q) (fun _ v _ => (intOf v).toNat)
  case atStart => exact ⟨a, b, rfl, rfl, ha, hb, Lib.hid rfl, 0, rfl⟩
  case round =>
    obtain ⟨x, y, rfl, rfl, hx, hy, hg, q, rfl⟩ := hrel
    by_cases h0 : y = 0
    · have hd : ((y : Int) != 0) = false := by simp [h0]
      have Fin : Hid (Nat.gcd a b = x) := Lib.hid (by rw [← hg.out, h0, Nat.gcd_zero_right])
      clear h0
      go_wp2
      go_ret
      exact ⟨ret_int (by rw [Fin.out]), _, rfl⟩
    · have hd : ((y : Int) != 0) = true := by simp [h0]
      have hy1 : (1 : Int) ≤ y := by omega
      have hx0 : (0 : Int) ≤ x := by omega
      have Hm : Hid (x % y < y) := Lib.hid (Nat.mod_lt _ (by omega))
      have Hg : Hid (Nat.gcd y (x % y) = Nat.gcd a b) := Lib.hid (by rw [gcd_step h0]; exact hg.out)
      have hmod : ((x : Int) % (y : Int)) = ((x % y : Nat) : Int) := by omega
      obtain ⟨z, ez⟩ : ∃ z, x % y = z := ⟨_, rfl⟩
      rw [ez] at Hm Hg hmod
      clear ez h0
      go_wp2
      go_quiet (fail)
      go_wp2
      go_roundw
      case rel => exact ⟨y, z, rfl, congrArg (Value.int .i64) hmod, hy, by have := Hm.out; omega, Hg, _, World.drewN_drewN _ _ _⟩
      case measure => have := Hm.out; simp [intOf]; omega
set_option maxHeartbeats 400000 in
theorem specGcd (a b : Nat) (w : World) (ha : a ≤ 1000000000000) (hb : b ≤ 1000000000000) :
    Calls Try.prog 30 #[.int .i64 a, .int .i64 b] w fun e w' => e = .returned (.int .i64 (Nat.gcd a b : Nat)) ∧ Below w.heap.size w w' := by
  refine quiet_below ?_
  go_enter Try.func30, Try.ntmps30
  go_wp2
  go_loopw [0, 1, 5] (fun u v _ wr => ∃ x y : Nat, u = .int .i64 x ∧ v = .int .i64 y ∧ x ≤ 1000000000000 ∧ y ≤ 1000000000000 ∧ Hid (Nat.gcd x y = Nat.gcd a b) ∧ ∃ q, wr = w.drewN q) (fun _ v _ _ => (intOf v).toNat)
  case atStart => exact ⟨a, b, rfl, rfl, ha, hb, Lib.hid rfl, 0, rfl⟩
  case round =>
    obtain ⟨x, y, rfl, rfl, hx, hy, hg, q, rfl⟩ := hrel
    by_cases h0 : y = 0
    · have hd : ((y : Int) != 0) = false := by simp [h0]
      have Fin : Hid (Nat.gcd a b = x) := Lib.hid (by rw [← hg.out, h0, Nat.gcd_zero_right])
      clear h0
      go_wp2
      go_ret
      exact ⟨ret_int (by rw [Fin.out]), _, rfl⟩
    · have hd : ((y : Int) != 0) = true := by simp [h0]
      have hy1 : (1 : Int) ≤ y := by omega
      have hx0 : (0 : Int) ≤ x := by omega
      have Hm : Hid (x % y < y) := Lib.hid (Nat.mod_lt _ (by omega))
      have Hg : Hid (Nat.gcd y (x % y) = Nat.gcd a b) := Lib.hid (by rw [gcd_step h0]; exact hg.out)
      have hmod : ((x : Int) % (y : Int)) = ((x % y : Nat) : Int) := by omega
      obtain ⟨z, ez⟩ : ∃ z, x % y = z := ⟨_, rfl⟩
      rw [ez] at Hm Hg hmod
      clear ez h0
      go_wp2
      go_roundw
      case rel => exact ⟨y, z, rfl, congrArg (Value.int .i64) hmod, hy, by have := Hm.out; omega, Hg, _, rfl⟩
      case measure => have := Hm.out; simp [intOf]; omega

/-- What ElementOrder answers. -/
def orderL (p : List Int) : Int := if isP p = true then (ordL p : Int) else 0
theorem lcm_step {o l : Nat} : o / Nat.gcd o l * l = Nat.lcm o l := by
  unfold Nat.lcm
  rw [Nat.div_mul_right_comm (Nat.gcd_dvd_left o l)]
theorem lens_ok {p : List Int} (ip : IsP p) : ∀ a ∈ (cycs p).map List.length, 1 ≤ a ∧ a ≤ 20 := by
  intro a ha
  rw [List.mem_map] at ha
  obtain ⟨c, hc, rfl⟩ := ha
  unfold cycs at hc
  rw [List.mem_map] at hc
  obtain ⟨x, hx, rfl⟩ := hc
  have hx' := List.mem_range.1 (List.mem_filter.1 hx).1
  have := per_spec ip hx'
  have := ip.le
  rw [cyc_length]
  omega
theorem pers_ok {p : List Int} (ip : IsP p) : ∀ a ∈ (List.range p.length).map (per p), 1 ≤ a ∧ a ≤ 20 := by
  intro a ha
  rw [List.mem_map] at ha
  obtain ⟨x, hx, rfl⟩ := ha
  have := per_spec ip (List.mem_range.1 hx)
  have := ip.le
  omega
theorem take_ok {l : List Nat} (h : ∀ a ∈ l, 1 ≤ a ∧ a ≤ 20) (k : Nat) : 1 ≤ lcmL (l.take k) ∧ lcmL (l.take k) ≤ 232792560 := lcmL_pos fun a ha => h a (List.mem_of_mem_take ha)
theorem lcm_take {l : List Nat} {k x : Nat} (hk : k < l.length) (e : l.getD k 0 = x) : lcmL (l.take (k + 1)) = Nat.lcm (lcmL (l.take k)) x := by
  rw [List.take_succ_eq_append_getElem hk, lcmL_snoc]
  rw [List.getD_eq_getElem?_getD, List.getElem?_eq_getElem hk] at e
  have e' : l[k] = x := e
  rw [e']

set_option maxHeartbeats 800000 in
/-- The program's ElementOrder. -/
theorem implElementOrder (A : Option Addr) (c n : Nat) (p : List Int) (w : World) (hp : RI w w.heap.size A p) (lp : Hid (p.length = n)) (hn : n ≤ 2097152) :
    Calls Try.prog 16 #[.slice A n c] w fun e w' => e = .returned (.int .i64 (orderL p)) ∧ Below w.heap.size w w' := by
  rcases hs : isP p with _ | _
  · have Fin : Hid (orderL p = 0) := Lib.hid (if_neg (by rw [hs]; decide))
    go_enter Try.func16, Try.ntmps16
    go_wp2_with fail
    refine (implIsP A c n p w hp lp hn).mono ?_
    rintro e w1 ⟨rfl, b1⟩
    have B1 := Lib.hid b1
    clear b1
    go_wp2_with fail
    go_ret
    exact ⟨ret_int Fin.out.symm, B1.out⟩
  · have Ip := Lib.hid (isP_iff.1 hs)
    have Fin : Hid (orderL p = (lcmL ((cycs p).map List.length) : Nat)) := Lib.hid (by unfold orderL; rw [if_pos hs, mem_cycs_per Ip.out])
    have hn20 : n ≤ 20 := by rw [← lp.out]; exact Ip.out.le
    have LO := Lib.hid (lens_ok Ip.out)
    go_enter Try.func16, Try.ntmps16
    go_wp2_with fail
    refine (implIsP A c n p w hp lp hn).mono ?_
    rintro e w0 ⟨rfl, b0⟩
    have B0 := Lib.hid b0
    clear b0
    go_wp2_with fail
    refine (implAll A c n p w0 (hp.up B0.out) lp Ip hn20).mono ?_
    rintro e w1 ⟨A1, m, c1, vs, rfl, s1, hm, b1⟩
    have S1 := Lib.hid s1
    have B1 : Hid (Below w.heap.size w w1) := Lib.hid (btr B0.out b1)
    have lm : Hid (((cycs p).map List.length).length = m) := Lib.hid (by rw [List.length_map, s1.lx])
    clear s1 b1 hs
    go_wp2_with fail
    go_loopw [3, 5, 6, 13] (fun o _ _ i wr => ∃ k q : Nat, k ≤ m ∧ i = .int .i64 (k : Nat) ∧ o = .int .i64 (q : Nat) ∧ Hid (lcmL (((cycs p).map List.length).take k) = q) ∧ Below w1.heap.size w1 wr) (fun _ _ _ i _ => m - (intOf i).toNat)
    case atStart => exact ⟨0, 1, Nat.zero_le _, rfl, rfl, Lib.hid rfl, Below.refl _ _⟩
    case round =>
      obtain ⟨k, q, hk, rfl, rfl, hq, bel⟩ := hrel
      have Bel := Lib.hid bel
      have Bw : Hid (Below w.heap.size w wr) := Lib.hid (btr B1.out bel)
      clear bel
      by_cases hlt : k < m
      · obtain ⟨g, rfl, hg1, hg2, hc⟩ := S1.out.at_ (by omega)
        have c0 := (Bel.out.cell (p := ⟨g, k, none⟩) hg2).trans (hc k hlt)
        have hrow := S1.out.row k hlt
        have hxl : ((cycs p).map List.length).getD k 0 = (vs.getD k sd0).2.1 := by
          rw [← hrow.1, List.getD_eq_getElem?_getD, List.getElem?_map, List.getD_eq_getElem?_getD, List.getElem?_eq_getElem (by rw [S1.out.lx]; exact hlt)]; rfl
        obtain ⟨l, el⟩ : ∃ l, (vs.getD k sd0).2.1 = l := ⟨_, rfl⟩
        rw [el] at hxl c0
        obtain ⟨A5, e5⟩ : ∃ A5, (vs.getD k sd0).1 = A5 := ⟨_, rfl⟩
        obtain ⟨c5, ec5⟩ : ∃ c5, (vs.getD k sd0).2.2 = c5 := ⟨_, rfl⟩
        rw [e5, ec5] at c0
        have hl : 1 ≤ l ∧ l ≤ 20 := LO.out l (by rw [← hxl, List.getD_eq_getElem?_getD, List.getElem?_eq_getElem (by rw [lm.out]; exact hlt)]; exact List.getElem_mem _)
        have hqb := take_ok LO.out k
        rw [hq.out] at hqb
        have hqb' := take_ok LO.out (k + 1)
        rw [lcm_take (by rw [lm.out]; exact hlt) hxl, hq.out] at hqb'
        have Hn : Hid (lcmL (((cycs p).map List.length).take (k + 1)) = Nat.lcm q l) := Lib.hid (by rw [lcm_take (by rw [lm.out]; exact hlt) hxl, hq.out])
        have gpos : 1 ≤ Nat.gcd q l := Nat.gcd_pos_of_pos_left _ (by omega)
        obtain ⟨d, ed⟩ : ∃ d, Nat.gcd q l = d := ⟨_, rfl⟩
        obtain ⟨r, er⟩ : ∃ r, Nat.lcm q l = r := ⟨_, rfl⟩
        obtain ⟨t, et⟩ : ∃ t, q / d = t := ⟨_, rfl⟩
        have ht : t ≤ q := by rw [← et]; exact Nat.div_le_self _ _
        have e1 : ((q : Int) / (d : Int)) = (t : Int) := by rw [← et]; rfl
        have e2 : ((t : Int) * (l : Int)) = (r : Int) := by rw [← er, ← lcm_step, ed, et]; rfl
        rw [er] at hqb' Hn
        rw [ed] at gpos
        have Ed := Lib.hid ed
        clear hrow hxl el e5 ec5 hc ed er et
        go_wp2_with fail
        refine (implGcd q l wr (by omega) (by omega)).mono ?_
        rintro e w2 ⟨rfl, b2⟩
        have Bel2 : Hid (Below w1.heap.size w1 w2) := Lib.hid (btr Bel.out b2)
        rw [Ed.out]
        clear b2
        have i1 : (0 : Int) ≤ q := by omega
        have i0 : (0 : Int) ≤ t := by omega
        have i5 : (t : Int) ≤ q := by omega
        have i6 : (0 : Int) ≤ (t : Int) * l := by rw [e2]; omega
        have i7 : (t : Int) * l ≤ 232792560 := by rw [e2]; omega
        have i2 : (1 : Int) ≤ d := by omega
        have i3 : (0 : Int) ≤ r := by omega
        have i4 : (r : Int) ≤ 232792560 := by omega
        go_wp2_with fail
        go_roundw
        case rel => exact ⟨k + 1, r, by omega, by go_num, rfl, Hn, Bel2.out⟩
        case measure => simp [intOf]; omega
      · have hkm : k = m := by omega
        subst hkm
        have Fq : Hid (orderL p = (q : Int)) := Lib.hid (by rw [Fin.out, ← hq.out, List.take_of_length_le (by rw [lm.out]; exact Nat.le_refl _)])
        go_wp2
        go_ret
        exact ⟨ret_int Fq.out.symm, Bw.out⟩

theorem per_getD {p : List Int} {k n : Nat} (hk : k < n) : ((List.range n).map (per p)).getD k 0 = per p k := by
  rw [List.getD_eq_getElem?_getD, List.getElem?_eq_getElem (by simp [hk])]; simp

set_option maxHeartbeats 800000 in
/-- The model's ElementOrder. -/
theorem specElementOrder (A : Option Addr) (c n : Nat) (p : List Int) (w : World) (hp : RI w w.heap.size A p) (lp : Hid (p.length = n)) (hn : n ≤ 2097152) (hc : n ≤ c) :
    Calls Try.prog 18 #[.slice A n c] w fun e w' => e = .returned (.int .i64 (orderL p)) ∧ Below w.heap.size w w' := by
  rcases hs : isP p with _ | _
  · have Fin : Hid (orderL p = 0) := Lib.hid (if_neg (by rw [hs]; decide))
    go_enter Try.func18, Try.ntmps18
    go_wp2_with fail
    refine (quiet_below (specIsP A c n p w hp lp hn hc)).mono ?_
    rintro e w1 ⟨rfl, b1⟩
    have B1 := Lib.hid b1
    clear b1
    go_wp2_with fail
    go_ret
    exact ⟨ret_int Fin.out.symm, B1.out⟩
  · have Ip := Lib.hid (isP_iff.1 hs)
    have Fin : Hid (orderL p = (lcmL ((List.range n).map (per p)) : Nat)) := Lib.hid (by unfold orderL ordL; rw [if_pos hs, lp.out])
    have hn20 : n ≤ 20 := by rw [← lp.out]; exact Ip.out.le
    have LO := Lib.hid (pers_ok Ip.out)
    rw [lp.out] at LO
    have ll : Hid (((List.range n).map (per p)).length = n) := Lib.hid (by simp)
    go_enter Try.func18, Try.ntmps18
    go_wp2_with fail
    refine (quiet_below (specIsP A c n p w hp lp hn hc)).mono ?_
    rintro e w1 ⟨rfl, b1⟩
    have B1 := Lib.hid b1
    clear b1
    go_wp2_with fail
    clear hs
    go_loopw [3, 4, 5] (fun o i _ wr => ∃ k q : Nat, k ≤ n ∧ i = .int .i64 (k : Nat) ∧ o = .int .i64 (q : Nat) ∧ Hid (lcmL (((List.range n).map (per p)).take k) = q) ∧ Below w.heap.size w wr) (fun _ i _ _ => n - (intOf i).toNat)
    case atStart => exact ⟨0, 1, Nat.zero_le _, rfl, rfl, Lib.hid rfl, B1.out⟩
    case round =>
      obtain ⟨k, q, hk, rfl, rfl, hq, bel⟩ := hrel
      have Bel := Lib.hid bel
      clear bel
      by_cases hlt : k < n
      · obtain ⟨l, el⟩ : ∃ l, per p k = l := ⟨_, rfl⟩
        have hxl : ((List.range n).map (per p)).getD k 0 = l := by rw [per_getD hlt, el]
        have El := Lib.hid el
        have hl : 1 ≤ l ∧ l ≤ 20 := LO.out l (by rw [← hxl, List.getD_eq_getElem?_getD, List.getElem?_eq_getElem (by rw [ll.out]; exact hlt)]; exact List.getElem_mem _)
        have hqb := take_ok LO.out k
        rw [hq.out] at hqb
        have hqb' := take_ok LO.out (k + 1)
        rw [lcm_take (by rw [ll.out]; exact hlt) hxl, hq.out] at hqb'
        have Hn : Hid (lcmL (((List.range n).map (per p)).take (k + 1)) = Nat.lcm q l) := Lib.hid (by rw [lcm_take (by rw [ll.out]; exact hlt) hxl, hq.out])
        have gpos : 1 ≤ Nat.gcd q l := Nat.gcd_pos_of_pos_left _ (by omega)
        obtain ⟨d, ed⟩ : ∃ d, Nat.gcd q l = d := ⟨_, rfl⟩
        obtain ⟨r, er⟩ : ∃ r, Nat.lcm q l = r := ⟨_, rfl⟩
        obtain ⟨t, et⟩ : ∃ t, q / d = t := ⟨_, rfl⟩
        have ht : t ≤ q := by rw [← et]; exact Nat.div_le_self _ _
        have e1 : ((q : Int) / (d : Int)) = (t : Int) := by rw [← et]; rfl
        have e2 : ((t : Int) * (l : Int)) = (r : Int) := by rw [← er, ← lcm_step, ed, et]; rfl
        rw [er] at hqb' Hn
        rw [ed] at gpos
        have Ed := Lib.hid ed
        have E1 := Lib.hid e1
        have E2 := Lib.hid e2
        clear hxl el ed er et e1 e2
        go_wp2_with fail
        refine (specCycleOf A c n k p wr (hp.up Bel.out) lp Ip hlt hn20).mono ?_
        rintro e w2 ⟨A2, m2, c2, rfl, s2, hm2, b2⟩
        have Bel2 : Hid (Below w.heap.size w w2) := Lib.hid (btr Bel.out b2)
        have hm2l : m2 = l := by rw [← s2.1, cyc_length, El.out]
        clear s2 b2
        subst hm2l
        go_wp2_with fail
        refine (specGcd q m2 w2 (by omega) (by omega)).mono ?_
        rintro e w3 ⟨rfl, b3⟩
        have Bel3 : Hid (Below w.heap.size w w3) := Lib.hid (btr Bel2.out b3)
        rw [Ed.out]
        clear b3
        have e1 := E1.out
        have e2 := E2.out
        have i1 : (0 : Int) ≤ q := by omega
        have i0 : (0 : Int) ≤ t := by omega
        have i5 : (t : Int) ≤ q := by omega
        have i2 : (1 : Int) ≤ d := by omega
        have i3 : (0 : Int) ≤ r := by omega
        have i4 : (r : Int) ≤ 232792560 := by omega
        have i6 : (0 : Int) ≤ (t : Int) * m2 := by rw [e2]; omega
        have i7 : (t : Int) * m2 ≤ 232792560 := by rw [e2]; omega
        go_wp2_with fail
        go_roundw
        case rel => exact ⟨k + 1, r, by omega, by go_num, rfl, Hn, Bel3.out⟩
        case measure => simp [intOf]; omega
      · have hkn : k = n := by omega
        subst hkn
        have Fq : Hid (orderL p = (q : Int)) := Lib.hid (by rw [Fin.out, ← hq.out, List.take_of_length_le (by rw [ll.out]; exact Nat.le_refl _)])
        go_wp2
        go_ret
        exact ⟨ret_int Fq.out.symm, Bel.out⟩
end Go.Proofs.Ytonanelghnjhpab
