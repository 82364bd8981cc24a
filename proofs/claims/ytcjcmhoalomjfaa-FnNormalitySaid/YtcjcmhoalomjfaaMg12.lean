/- Part 12 of the texts: WalkL6, Nme6. No condition of its own: each text tells its own. -/
import Derived.Test.YtcjcmhoalomjfaaMg10
import Derived.Test.YtcjcmhoalomjfaaMg7
import Derived.Test.YtcjcmhoalomjfaaMg9
set_option linter.unusedVariables false
set_option linter.unusedSimpArgs false

/- The walk of the law FnNormality: it returns true at every input, and writes nothing that was there. No condition but the program's own contracts. -/
namespace Go.Proofs.Ytcjcmhoalomjfaa
open Go.RowKit

section
variable {a : Int} {xa xb : List (List Int)}
theorem sub_self (h : gB a xb = true) : SubG a xb xb := ⟨h, h, fun g hg => by
  obtain ⟨N, rfl, _, _, _, _, ok⟩ := gB_pm h
  rw [Int.toNat_natCast]; exact .of (ok g hg) hg⟩
theorem nor_self (h : gB a xb = true) : SubG a xb xb ∧ Nrm (Mb xb a.toNat) (Mb xb a.toNat) := by
  refine ⟨sub_self h, fun p q hp hq => ?_⟩
  have hG := gB_sgp h
  exact hG.mul _ _ (hG.mul _ _ (hG.inv q hq) hp) hq
theorem gB_nil (h : gB a xb = true) : gB a [] = true := by
  rw [gB_iff] at h ⊢
  exact ⟨h.1, h.2.1, by simp, fun g hg => by cases hg⟩
theorem nor_nil (h : gB a xb = true) : SubG a [] xb ∧ Nrm (Mb xb a.toNat) (Mb [] a.toNat) := by
  refine ⟨⟨gB_nil h, h, fun g hg => by cases hg⟩, fun p q hp hq => ?_⟩
  have pq := (gB_sgp h).pn q hq
  have e : ∀ p, Mb [] a.toNat p → p = idL a.toNat := fun p hp => by
    cases hp with
    | one => rfl
    | mul _ hm => cases hm
  rw [e p hp, cj_id pq]; exact .one
theorem nor_two {v : Int} (h : IsIdx a xa xb v) (e : v = 2) : SubG a xa xb ∧ Nrm (Mb xb a.toNat) (Mb xa a.toNat) := by
  rcases h with ⟨hs, k, hk, e2⟩ | ⟨_, e2⟩
  · refine ⟨hs, fun p q hp hq => ?_⟩
    have hG := gB_sgp hs.2.1
    have hH := gB_sgp hs.1
    obtain ⟨Va, ca, l1, _⟩ := gB_crd hs.1
    obtain ⟨Vb, cb, _, _⟩ := gB_crd hs.2.1
    have hle : ∀ p, Mb xa a.toNat p → Mb xb a.toNat p := fun p hp => mb_le hG hs.2.2 hp
    obtain ⟨k', hk', e3⟩ := lagr hG hH hle cb ca
    have e4 := hk.uniq hk'
    exact two_normal hG hH hle cb ca (by rw [e3, ← e4]; have : k = 2 := by omega
                                         rw [this]) l1 hp hq
  · omega
theorem der_facts {v u : Int} (hg : gB a xb = true) (h : IsDer a xb v) (ho : IsOrd a xb u) : ∃ d V : Nat, v = (d : Int) ∧ u = (V : Int) ∧ 1 ≤ d ∧ V ≤ 2432902008176640000 ∧ 1 ≤ V ∧ V % d = 0 ∧ (Abl (Mb xb a.toNat) ↔ d = 1) ∧ Crd (Mb xb a.toNat) V := by
  have hG := gB_sgp hg
  obtain ⟨V, e1, c1, l1, l2⟩ := ord_nat ho hg
  rcases h with ⟨_, d, c2, e2⟩ | ⟨e2, _⟩
  · obtain ⟨k, _, e3⟩ := lagr hG hG.drv (fun p hp => Drv.le hG hp) c1 c2
    have l3 : 1 ≤ d := crd_sub (crd_one (idL a.toNat)) c2 fun x hx => by subst hx; exact hG.drv.one
    exact ⟨d, V, e2, e1, l3, l2, l1, by rw [e3]; exact Nat.mul_mod_left _ _, abl_drv hG c2, c1⟩
  · rw [hg] at e2; cases e2
theorem ctr_facts {v : Int} {V : Nat} (hg : gB a xb = true) (h : IsCtr a xb v) (c1 : Crd (Mb xb a.toNat) V) : (V ≤ 3000 ∧ ∃ c : Nat, v = (c : Int) ∧ 1 ≤ c ∧ V % c = 0 ∧ (Abl (Mb xb a.toNat) ↔ c = V) ∧ c ≤ V) ∨ (3000 < V ∧ v = 0) := by
  have hG := gB_sgp hg
  rcases h with ⟨⟨_, V', c', l'⟩, c, c2, e2⟩ | ⟨hn, e2⟩
  · have e := c1.uniq c'
    obtain ⟨k, _, e3⟩ := lagr hG hG.ctr (fun p hp => hp.1) c1 c2
    have l3 : 1 ≤ c := crd_sub (crd_one (idL a.toNat)) c2 fun x hx => by subst hx; exact hG.ctr.one
    exact .inl ⟨by omega, c, e2, l3, by rw [e3]; exact Nat.mul_mod_left _ _, abl_ctr c1 c2, crd_sub c2 c1 fun x hx => hx.1⟩
  · refine .inr ⟨?_, e2⟩
    rcases Nat.lt_or_ge 3000 V with h | h
    · exact h
    · exact absurd ⟨hg, V, c1, h⟩ hn
end

set_option maxHeartbeats 16000000 in
set_option maxRecDepth 100000 in
theorem lawNormality (IN : CtImmB 33 IsNor) (IA : CtImB 39 IsAbl) (IC : CtImI 36 IsCtr) (ID : CtImI 37 IsDer) (A : Option Addr) (cap len : Nat) (w : World) (hb : SB w w.heap.size A len) :
    Calls Try.prog 5 #[.slice A len cap] w fun e w' => e = .returned (.bool true) ∧ Below w.heap.size w w' := by
  by_cases hl : len ≤ 4096
  · go_enter Try.func5, Try.ntmps5
    go_wp2_with fail
    refine (bigF4 A len cap w hl).mono ?_
    rintro e w0 ⟨rfl, rfl⟩
    go_wp2_with fail
    refine (drawNS len cap A w hb hl).mono ?_
    rintro e w1 ⟨z, A1, m, c, vs, xss, B, k, d, us, yss, rfl, hB, gi, gj, b1⟩
    have G1 := Lib.hid gi
    have Y1 := Lib.hid gj
    have HB := Lib.hid hB
    have B1 := Lib.hid b1
    clear gi gj hB b1 hb
    go_wp2_with fail
    refine (IN z A1 m c vs xss B k d us yss w1 G1.out Y1.out HB.out).mono ?_
    rintro e w2 ⟨is, rfl, ri, b2⟩
    have Ri := Lib.hid ri
    have G2 := Lib.hid (G1.out.up b2)
    have Y2 := Lib.hid (Y1.out.up b2)
    have B2 : Hid (Below w.heap.size w w2) := Lib.hid (btr B1.out b2)
    clear ri b2 G1 Y1
    go_wp2_with fail
    refine (ctNor z A1 m c vs xss B k d us yss w2 G2.out Y2.out HB.out).mono ?_
    rintro e w3 ⟨is', rfl, ri', b3⟩
    obtain rfl : is' = is := ri'.uniq Ri.out
    have G3 := Lib.hid (G2.out.up b3)
    have Y3 := Lib.hid (Y2.out.up b3)
    have B3 : Hid (Below w.heap.size w w3) := Lib.hid (btr B2.out b3)
    clear ri' b3 G2 Y2
    go_wp2_with fail
    refine (specGS z B k d us yss w3 Y3.out.rr Y3.out.hn (Lib.hid Y3.out.hl) HB.out).mono ?_
    rintro e w4 ⟨rfl, b4⟩
    have G4 := Lib.hid (G3.out.up b4)
    have Y4 := Lib.hid (Y3.out.up b4)
    have B4 : Hid (Below w.heap.size w w4) := Lib.hid (btr B3.out b4)
    clear b4 G3 Y3
    rcases hs : gB z yss with _ | _
    · obtain rfl : is' = false := by
        rcases e : is' with _ | _
        · rfl
        · have := (Ri.out.1 e).1.2.1
          rw [hs] at this; cases this
      have Hc : Hid (∀ v, IsCtr z yss v → v = 0) := Lib.hid fun v hv => by
        rcases hv with ⟨h, _⟩ | ⟨_, e⟩
        · have := h.1; rw [hs] at this; cases this
        · exact e
      have Hd : Hid (∀ v, IsDer z yss v → v = 0) := Lib.hid fun v hv => by
        rcases hv with ⟨h, _⟩ | ⟨_, e⟩
        · rw [hs] at h; cases h
        · exact e
      clear hs
      go_wp2_with fail
      refine (IC z B k d us yss w4 Y4.out HB.out).mono ?_
      rintro e w5 ⟨v, rfl, rv, b5⟩
      obtain rfl := Hc.out v rv
      have Y5 := Lib.hid (Y4.out.up b5)
      have B5 : Hid (Below w.heap.size w w5) := Lib.hid (btr B4.out b5)
      clear rv b5
      go_wp2_with fail
      refine (ID z B k d us yss w5 Y5.out HB.out).mono ?_
      rintro e w6 ⟨v, rfl, rv, b6⟩
      obtain rfl := Hd.out v rv
      have B6 : Hid (Below w.heap.size w w6) := Lib.hid (btr B5.out b6)
      clear rv b6
      go_wp2_with fail
      go_ret
      exact ⟨rfl, B6.out⟩
    · have Hs := Lib.hid hs
      clear hs
      go_wp2_with fail
      refine (ctOrd z B k d us yss w4 Y4.out HB.out).mono ?_
      rintro e w5 ⟨u, rfl, ru, b5⟩
      have Ru := Lib.hid ru
      have G5 := Lib.hid (G4.out.up b5)
      have Y5 := Lib.hid (Y4.out.up b5)
      have B5 : Hid (Below w.heap.size w w5) := Lib.hid (btr B4.out b5)
      clear ru b5 G4 Y4
      go_wp2_with fail
      refine (IA z B k d us yss w5 Y5.out HB.out).mono ?_
      rintro e w6 ⟨ab, rfl, ra, b6⟩
      have Ra := Lib.hid ra
      have G6 := Lib.hid (G5.out.up b6)
      have Y6 := Lib.hid (Y5.out.up b6)
      have B6 : Hid (Below w.heap.size w w6) := Lib.hid (btr B5.out b6)
      clear ra b6 G5 Y5
      go_wp2_with fail
      refine (IC z B k d us yss w6 Y6.out HB.out).mono ?_
      rintro e w7 ⟨vc, rfl, rc, b7⟩
      have Rc := Lib.hid rc
      have G7 := Lib.hid (G6.out.up b7)
      have Y7 := Lib.hid (Y6.out.up b7)
      have B7 : Hid (Below w.heap.size w w7) := Lib.hid (btr B6.out b7)
      clear rc b7 G6 Y6
      go_wp2_with fail
      refine (ID z B k d us yss w7 Y7.out HB.out).mono ?_
      rintro e w8 ⟨vd, rfl, rd, b8⟩
      have Rd_ := Lib.hid rd
      have G8 := Lib.hid (G7.out.up b8)
      have Y8 := Lib.hid (Y7.out.up b8)
      have B8 : Hid (Below w.heap.size w w8) := Lib.hid (btr B7.out b8)
      clear rd b8 G7 Y7
      go_wp2_with fail
      refine (ctIdx z A1 m c vs xss B k d us yss w8 G8.out Y8.out HB.out).mono ?_
      rintro e w9 ⟨vi, rfl, rx, b9⟩
      have Rx := Lib.hid rx
      have G9 := Lib.hid (G8.out.up b9)
      have Y9 := Lib.hid (Y8.out.up b9)
      have B9 : Hid (Below w.heap.size w w9) := Lib.hid (btr B8.out b9)
      clear rx b9 G8 Y8
      have ContF : is' = false → ((vi == 2) = false) := fun e => by
        rw [beq_eq_false_iff_ne]
        intro h
        have := Ri.out.2 (nor_two Rx.out h)
        rw [e] at this; cases this
      -- behind the first test: two calls more, then numbers
      obtain ⟨dd, V, rfl, rfl, l1, l2, l3, hm, hab, cV⟩ := der_facts Hs.out Rd_.out Ru.out
      have Cf := Lib.hid (ctr_facts Hs.out Rc.out cV)
      have Hab := Lib.hid hab
      have mV : (V : Int).tmod (dd : Int) = 0 := by rw [← Int.ofNat_tmod, hm]; rfl
      have d0 : ((dd : Int) == 0) = false := by rw [beq_eq_false_iff_ne]; omega
      have Abz : Hid (ab = true ↔ Abl (Mb yss z.toNat)) := Lib.hid ⟨fun h => (Ra.out.1 h).2, fun h => Ra.out.2 ⟨Hs.out, h⟩⟩
      have Tru : Hid (∀ v, IsNor z yss yss v → v = true) := Lib.hid fun v hv => hv.2 (nor_self Hs.out)
      have Trn : Hid (∀ v, IsNor z [] yss v → v = true) := Lib.hid fun v hv => hv.2 (nor_nil Hs.out)
      have Eb : Hid (((dd : Int) == 1) = ab) := Lib.hid (by
        rw [Bool.eq_iff_iff, beq_iff_eq, Abz.out, Hab.out]; omega)
      clear hm hab cV
      have ContF2 : ((vi == 2) && !is') = false := by
        rcases e : is' with _ | _
        · rw [ContF e]; rfl
        · simp
      rcases e9 : (vi == 2) with _ | _
      all_goals
        have Cc := Lib.hid ContF2
        rw [e9] at ContF2
        clear ContF
      case' true => obtain rfl : is' = true := by simpa using ContF2
      all_goals
        clear ContF2 Cc
        go_wp2_with fail
        refine (IN z B k d us yss B k d us yss w9 Y9.out Y9.out HB.out).mono ?_
        rintro e w10 ⟨v, rfl, rv, b10⟩
        obtain rfl := Tru.out v rv
        have Y10 := Lib.hid (Y9.out.up b10)
        have B10 : Hid (Below w.heap.size w w10) := Lib.hid (btr B9.out b10)
        clear rv b10
        go_wp2_with fail
        refine (IN z none 0 0 [] [] B k d us yss w10 ⟨RR.nil_, by omega, fun i hi => absurd hi (by omega)⟩ Y10.out HB.out).mono ?_
        rintro e w11 ⟨v, rfl, rv, b11⟩
        obtain rfl := Trn.out v rv
        have B11 : Hid (Below w.heap.size w w11) := Lib.hid (btr B10.out b11)
        clear rv b11
        rcases Cf.out with ⟨hV, cc, rfl, l4, hmc, habc, hcV⟩ | ⟨hV, rfl⟩
        · have d5 : decide ((3000 : Int) < (V : Int)) = false := by simp; omega
          have mc : (V : Int).tmod (cc : Int) = 0 := by rw [← Int.ofNat_tmod, hmc]; rfl
          have d6 : ((cc : Int) == 0) = false := by rw [beq_eq_false_iff_ne]; omega
          have d7 : decide ((0 : Int) < (cc : Int)) = true := by simp; omega
          have Ec : ((cc : Int) == (V : Int)) = ab := by
            rw [Bool.eq_iff_iff, beq_iff_eq, Abz.out, habc]; omega
          have Ed := Eb.out
          clear hmc habc
          go_wp2_with fail
          go_ret
          exact ⟨rfl, B11.out⟩
        · have d5 : decide ((3000 : Int) < (V : Int)) = true := by simp; omega
          go_wp2_with fail
          go_ret
          exact ⟨rfl, B11.out⟩
  · go_enter Try.func5, Try.ntmps5
    go_wp2_with fail
    refine (bigT4 A len cap w (by omega)).mono ?_
    rintro e w0 ⟨rfl, rfl⟩
    go_wp2_with fail
    go_ret
    exact ⟨rfl, Below.refl _ _⟩
end Go.Proofs.Ytcjcmhoalomjfaa

/- The law FnNormality with the program's contracts put in. Conditions: none beyond those of the texts imported. -/
namespace Go.Proofs.Ytcjcmhoalomjfaa
open Go.RowKit
theorem nmdNormality (A : Option Addr) (cap len : Nat) (w : World) (hb : SB w w.heap.size A len) :
    Calls Try.prog 5 #[.slice A len cap] w fun e w' => e = .returned (.bool true) ∧ Below w.heap.size w w' :=
  lawNormality implIsNormalSubgroup implIsAbelian implCenterOrder implDerivedSubgroupOrder A cap len w hb
end Go.Proofs.Ytcjcmhoalomjfaa
