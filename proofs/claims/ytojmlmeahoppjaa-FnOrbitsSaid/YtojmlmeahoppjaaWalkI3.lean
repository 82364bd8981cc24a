/- The walk of the law FnPairOrbits: it returns true at every input, and writes nothing that was there. No condition. -/
import Derived.Test.YtojmlmeahoppjaaDrawG
import Derived.Test.YtojmlmeahoppjaaPairS
import Derived.Test.YtojmlmeahoppjaaColl
import Derived.Test.YtojmlmeahoppjaaInvG
import Derived.Test.YtojmlmeahoppjaaGrpM
namespace Go.Proofs.Ytojmlmeahoppjaa
open Go.RowKit

theorem bigF3 (A : Option Addr) (len cap : Nat) (w : World) (hl : len ≤ 4096) : Calls Try.prog 13 #[.slice A len cap] w fun e w' => e = .returned (.bool false) ∧ w = w' := by
  have d1 : decide ((4096 : Int) < len) = false := by simp; omega
  go_enter Try.func13, Try.ntmps13
  go_wp2
  go_ret
  exact ⟨rfl, rfl⟩
theorem bigT3 (A : Option Addr) (len cap : Nat) (w : World) (hl : 4096 < len) : Calls Try.prog 13 #[.slice A len cap] w fun e w' => e = .returned (.bool true) ∧ w = w' := by
  have d1 : decide ((4096 : Int) < len) = true := by simp; omega
  go_enter Try.func13, Try.ntmps13
  go_wp2
  go_ret
  exact ⟨rfl, rfl⟩
theorem SB.of_row3 {w : World} {a : Option Addr} {len cap : Nat} {zs : List Int}
    (h : (a = none ∧ len = 0 ∧ cap = 0 ∧ zs = []) ∨ ∃ x, a = some x ∧ len ≤ cap ∧ cap ≤ maxLen ∧ zs.length = cap ∧ (∀ i, i < zs.length → w.cell? (x.add i) = some (.int .u8 (zs.getD i 0))) ∧ ∀ n ∈ zs, (Lit.int .u8 n).wf = true)
    (hw : ∀ n : Int, (Lit.int .u8 n).wf = true → 0 ≤ n ∧ n ≤ 255) : SB w w.heap.size a len := by
  rcases h with ⟨rfl, rfl, rfl, rfl⟩ | ⟨⟨b, off, spot⟩, rfl, hl, hm, hz, hc, hwf⟩
  · exact fun h => absurd h (by omega)
  · intro hp
    have h0 := hc 0 (by omega)
    have hspot : spot = none := by simpa [Addr.add] using World.cell?_spot h0
    subst hspot
    refine ⟨b, off, rfl, ?_, fun j hj => ?_⟩
    · have := World.block_lt_of_cell? w _ h0
      simpa [Addr.add] using this
    · have hjz : j < zs.length := by omega
      have hr := hw (zs.getD j 0) (hwf _ (by rw [List.getD_eq_getElem?_getD, List.getElem?_eq_getElem hjz]; exact List.getElem_mem _))
      refine ⟨(zs.getD j 0).toNat, by omega, ?_⟩
      rw [Int.toNat_of_nonneg hr.1, ← hc j hjz]
      unfold Addr.add
      split <;> simp_all
theorem below_gro3 {w0 w w' : World} {g : Nat} (h : Below w0.heap.size w0 w) (hg : w.grownBy w' (some g)) (hB : w0.heap.size ≤ g) : Below w0.heap.size w0 w' := h.grown hg h.size (fun k e => by injection e with e; omega)

set_option maxHeartbeats 1000000 in
theorem drawPC (len cap : Nat) (A : Option Addr) (w : World) (hb : SB w w.heap.size A len) (hl : len ≤ 4096) :
    Calls Try.prog 30 #[.slice A len cap] w fun e w' => ∃ (z : Int) (A : Option Addr) (m c : Nat) (vs : List SV) (xss : List (List Int)), e = .returned (.tuple #[.int .i64 z, .slice A m c]) ∧ B64 z ∧ RR w' w'.heap.size A m vs xss ∧ m ≤ 9 ∧ (∀ i, i < m → (vs.getD i sd0).2.1 ≤ 21) ∧ Below w.heap.size w w' := by
  go_enter Try.func30, Try.ntmps30
  go_wp2_with fail
  refine (newSrc len cap A w hb hl).mono ?_
  rintro e w1 ⟨rfl, s1, b1⟩
  have S1 := Lib.hid s1
  have B1 := Lib.hid b1
  clear s1 b1
  go_wp2_with fail
  refine (drawGroupT w.heap.size w1 S1.out).mono ?_
  rintro e w2 ⟨z, A2, m, c, vs, xss, rfl, hB, rr, hm, hln, s2, g2⟩
  have HB := Lib.hid hB
  have Rr := Lib.hid rr
  have Ln := Lib.hid hln
  have B2 : Hid (Below w.heap.size w w2) := Lib.hid (below_gro3 B1.out g2 (Nat.le_refl _))
  clear hB rr hln s2 g2
  go_wp2_with fail
  go_ret2
  exact ⟨_, _, _, _, vs, xss, rfl, HB.out, Rr.out, hm, Ln.out, B2.out⟩

/-! ### the inverse generators -/
theorem idL_nx {n k : Nat} (h : k < n) : nx (idL n) k = k := by unfold nx; rw [idL_getD h]; rfl
theorem und_inv {gs : List (List Int)} {N : Nat} (ok : ∀ g ∈ gs, IsP g ∧ g.length = N) : Und N gs (invG gs) ∧ Und N (invG gs) gs := by
  refine ⟨fun g' hg' => ?_, fun g hg => ?_⟩
  · obtain ⟨g, hg, rfl⟩ := List.mem_map.1 hg'
    refine ⟨g, hg, fun u hu => ?_⟩
    have h := ok g hg
    rw [← nx_comp (by rw [invL_length]; omega), inv_comp h.1, idL_nx (by omega)]
  · refine ⟨invL g g.length, List.mem_map.2 ⟨g, hg, rfl⟩, fun u hu => ?_⟩
    have h := ok g hg
    rw [← nx_comp (by omega), comp_inv h.1, idL_nx (by omega)]
theorem gB_inv {n : Int} {gs : List (List Int)} (h : gB n gs = true) : gB n (invG gs) = true := by
  obtain ⟨h1, h2, h3, h4⟩ := gB_iff.1 h
  refine gB_iff.2 ⟨h1, h2, by rw [invG, List.length_map]; exact h3, fun g' hg' => ?_⟩
  obtain ⟨g, hg, rfl⟩ := List.mem_map.1 hg'
  have := h4 g hg
  exact ⟨by rw [invL_length]; exact this.1, isP_iff.2 (isP_inv (isP_iff.1 this.2))⟩
theorem inv_facts {n : Int} {gs : List (List Int)} (h : gB n gs = true) : pairC n (invsL n gs) = pairC n gs ∧ orbitsL n (invsL n gs) = orbitsL n gs ∧ (n = 1 ∨ 0 < pairC n gs) := by
  have hi := gB_inv h
  have e : invsL n gs = invG gs := if_pos h
  obtain ⟨N, hN, hN1, hN2, hg8, hpm, hok⟩ := gB_pm h
  obtain ⟨N', hN', _, _, _, hpm', _⟩ := gB_pm hi
  obtain rfl : N' = N := by omega
  have hu := und_inv hok
  have hp := und_offs hpm hpm' hu.1 hu.2
  have ho := und_orbs hpm hpm' hu.1 hu.2
  subst hN
  refine ⟨?_, ?_, ?_⟩
  · unfold pairC
    rw [e, if_pos hi, if_pos h]
    simp only [Int.toNat_natCast]
    rw [hp]
  · unfold orbitsL
    rw [e, if_pos hi, if_pos h]
    simp only [Int.toNat_natCast]
    exact ho
  · by_cases h1 : N' = 1
    · left; omega
    · right
      unfold pairC
      rw [if_pos h]
      simp only [Int.toNat_natCast]
      have := offs_pos hpm (by omega)
      omega
theorem pairC_no {n : Int} {gs : List (List Int)} (h : gB n gs = false) : pairC n gs = 0 := if_neg (by rw [h]; simp)
theorem invsL_ok (n : Int) (gs : List (List Int)) : (invsL n gs).length ≤ 8 ∧ ∀ y ∈ invsL n gs, y.length ≤ 20 := by
  unfold invsL
  split
  · rename_i h
    obtain ⟨N, _, _, hN2, hg8, _, hok⟩ := gB_pm h
    refine ⟨by rw [invG, List.length_map]; exact hg8, fun y hy => ?_⟩
    obtain ⟨g, hg, rfl⟩ := List.mem_map.1 hy
    rw [invL_len]; have := (hok g hg).2; omega
  · exact ⟨Nat.zero_le _, fun y hy => by cases hy⟩
theorem len_of {l : List (List Int)} {k : Nat} (h : ∀ y ∈ l, y.length ≤ k) (i : Nat) (hi : i < l.length) : (l.getD i []).length ≤ k := h _ (by rw [List.getD_eq_getElem?_getD, List.getElem?_eq_getElem hi]; exact List.getElem_mem _)

set_option maxHeartbeats 4000000 in
set_option maxRecDepth 100000 in
theorem lawPairOrbits (A : Option Addr) (cap len : Nat) (w : World) (hb : SB w w.heap.size A len) :
    Calls Try.prog 4 #[.slice A len cap] w fun e w' => e = .returned (.bool true) ∧ Below w.heap.size w w' := by
  by_cases hl : len ≤ 4096
  · go_enter Try.func4, Try.ntmps4
    go_wp2_with fail
    refine (bigF3 A len cap w hl).mono ?_
    rintro e w0 ⟨rfl, rfl⟩
    go_wp2_with fail
    refine (drawPC len cap A w hb hl).mono ?_
    rintro e w1 ⟨z, A1, m, c, vs, xss, rfl, hB, rr, hm, hln, b1⟩
    have Rr1 := Lib.hid rr
    have B1 := Lib.hid b1
    have Ln : Hid (∀ i, i < m → (vs.getD i sd0).2.1 ≤ 1048576) := Lib.hid fun i hi => by have := hln i hi; omega
    have HB : Hid (-9223372036854775808 ≤ z ∧ z ≤ 9223372036854775807) := Lib.hid hB
    have hm1 : m ≤ 1048576 := by omega
    obtain ⟨C, hC⟩ : ∃ C, pairC z xss = C := ⟨_, rfl⟩
    have HC := Lib.hid hC
    clear rr b1 hln hB hC
    go_wp2_with fail
    refine (implPairOrbitCount z A1 m c vs xss w1 Rr1.out hm1 Ln).mono ?_
    rintro e w2 ⟨rfl, b2⟩
    have Rr2 := Lib.hid (Rr1.out.up b2)
    have B2 : Hid (Below w.heap.size w w2) := Lib.hid (btr B1.out b2)
    rw [HC.out]
    clear b2
    go_wp2_with fail
    refine (implInverseGenerators z A1 m c vs xss w2 Rr2.out hm1 Ln).mono ?_
    rintro e w3 ⟨A3, m3, c3, us3, rfl, s3, b3⟩
    have Rr3 := Lib.hid (Rr2.out.up b3)
    have B3 : Hid (Below w.heap.size w w3) := Lib.hid (btr B2.out b3)
    have I3 := Lib.hid s3.rr
    have hok := invsL_ok z xss
    have hm3 : m3 ≤ 1048576 := by rw [← s3.lx]; omega
    have L3 : Hid (∀ i, i < m3 → ((invsL z xss).getD i []).length ≤ 1048576) := Lib.hid fun i hi => by
      have := len_of hok.2 i (by rw [s3.lx]; exact hi); omega
    have K3 : Hid (∀ i, i < m3 → (us3.getD i sd0).2.1 ≤ 1048576) := Lib.hid fun i hi => by rw [← (s3.row i hi).1]; exact L3.out i hi
    clear s3 b3 hok
    go_wp2_with fail
    refine (specPairOrbitCount z A1 m c vs xss w3 Rr3.out hm1 Ln HB.out).mono ?_
    rintro e w4 ⟨rfl, b4⟩
    have Rr4 := Lib.hid (Rr3.out.up b4)
    have I4 := Lib.hid (I3.out.up b4)
    have B4 : Hid (Below w.heap.size w w4) := Lib.hid (btr B3.out b4)
    rw [HC.out]
    clear b4
    have ne1 : (C != C) = false := by simp
    go_wp2_with fail
    refine (specInverseGenerators z A1 m c vs xss w4 Rr4.out hm1 Ln HB.out).mono ?_
    rintro e w5 ⟨A5, m5, c5, us5, rfl, s5, b5⟩
    have Rr5 := Lib.hid (Rr4.out.up b5)
    have I5 := Lib.hid (I4.out.up b5)
    have J5 := Lib.hid s5.rr
    have B5 : Hid (Below w.heap.size w w5) := Lib.hid (btr B4.out b5)
    clear s5 b5
    go_wp2_with fail
    refine (likeRR_same A3 A5 m3 c3 m5 c5 us3 us5 _ w5 I5.out J5.out hm3 L3).mono ?_
    rintro e w6 ⟨rfl, b6⟩
    have Rr6 := Lib.hid (Rr5.out.up b6)
    have I6 := Lib.hid (I5.out.up b6)
    have B6 : Hid (Below w.heap.size w w6) := Lib.hid (btr B5.out b6)
    clear b6
    go_wp2_with fail
    refine (specGS z A1 m c vs xss w6 Rr6.out hm1 Ln HB.out).mono ?_
    rintro e w7 ⟨rfl, b7⟩
    have Rr7 := Lib.hid (Rr6.out.up b7)
    have I7 := Lib.hid (I6.out.up b7)
    have B7 : Hid (Below w.heap.size w w7) := Lib.hid (btr B6.out b7)
    clear b7
    rcases hs : gB z xss with _ | _
    · have hC0 : C = 0 := by rw [← HC.out]; exact pairC_no hs
      subst hC0
      go_wp2_with fail
      go_ret
      exact ⟨rfl, B7.out⟩
    · obtain ⟨f1, f2, f3⟩ := inv_facts hs
      have F1 : Hid (pairC z (invsL z xss) = C) := Lib.hid (f1.trans HC.out)
      have F2 := Lib.hid f2
      rw [HC.out] at f3
      have F3 := Lib.hid f3
      clear f1 f2 f3
      go_wp2_with fail
      refine (implPairOrbitCount z A3 m3 c3 us3 (invsL z xss) w7 I7.out hm3 K3).mono ?_
      rintro e w8 ⟨rfl, b8⟩
      have Rr8 := Lib.hid (Rr7.out.up b8)
      have I8 := Lib.hid (I7.out.up b8)
      have B8 : Hid (Below w.heap.size w w8) := Lib.hid (btr B7.out b8)
      rw [F1.out]
      clear b8
      have eq1 : (C == C) = true := by simp
      go_wp2_with fail
      refine (implOrbits z A3 m3 c3 us3 (invsL z xss) w8 I8.out hm3 K3).mono ?_
      rintro e w9 ⟨A9, m9, c9, us9, rfl, s9, b9⟩
      have Rr9 := Lib.hid (Rr8.out.up b9)
      have B9 : Hid (Below w.heap.size w w9) := Lib.hid (btr B8.out b9)
      have O9 : Hid (RR w9 w9.heap.size A9 m9 us9 (orbitsL z xss)) := Lib.hid (by rw [← F2.out]; exact s9.rr)
      have hok := orbitsL_ok z xss
      have hm9 : m9 ≤ 1048576 := by have := O9.out.lx; omega
      have L9 : Hid (∀ i, i < m9 → ((orbitsL z xss).getD i []).length ≤ 1048576) := Lib.hid fun i hi => by
        have := len_of hok.2 i (by rw [O9.out.lx]; exact hi); omega
      clear s9 b9 hok
      go_wp2_with fail
      refine (specOrbits z A1 m c vs xss w9 Rr9.out hm1 Ln HB.out).mono ?_
      rintro e wa ⟨Aa, ma, ca, usa, rfl, sa, ba⟩
      have Oa := Lib.hid (O9.out.up ba)
      have Ja := Lib.hid sa.rr
      have Ba : Hid (Below w.heap.size w wa) := Lib.hid (btr B9.out ba)
      clear sa ba
      go_wp2_with fail
      refine (likeRR_same A9 Aa m9 c9 ma ca us9 usa _ wa Oa.out Ja.out hm9 L9).mono ?_
      rintro e wb ⟨rfl, bb⟩
      have Bb : Hid (Below w.heap.size w wb) := Lib.hid (btr Ba.out bb)
      clear bb
      by_cases hz1 : z = 1
      · have dz : (z == 1) = true := by simpa using hz1
        go_wp2_with fail
        go_ret
        exact ⟨rfl, Bb.out⟩
      · have dz : (z == 1) = false := by simpa using hz1
        have hCp : 0 < C := by
          rcases F3.out with h | h
          · exact absurd h hz1
          · exact h
        have dC : decide (0 < C) = true := decide_eq_true hCp
        go_wp2_with fail
        go_ret
        exact ⟨rfl, Bb.out⟩
  · go_enter Try.func4, Try.ntmps4
    go_wp2_with fail
    refine (bigT3 A len cap w (by omega)).mono ?_
    rintro e w0 ⟨rfl, rfl⟩
    go_wp2_with fail
    go_ret
    exact ⟨rfl, Below.refl _ _⟩
end Go.Proofs.Ytojmlmeahoppjaa
