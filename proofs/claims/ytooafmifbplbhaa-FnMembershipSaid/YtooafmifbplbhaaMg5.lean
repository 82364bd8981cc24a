/- Part 5 of the texts: PcA, PcC, PcF, Arg, WalkC4, WalkB4, WalkE4, WalkD4, PcG, WalkF4. No condition of its own: each text tells its own. -/
import Derived.Test.YtooafmifbplbhaaMg4
import Derived.Test.YtooafmifbplbhaaMg3
import Derived.Test.YtooafmifbplbhaaMg1
import Derived.Test.YtooafmifbplbhaaMg2
import Derived.Deep.CutRange
import Derived.Deep.LoopGhost
import Derived.ChangeArms
import Derived.ProofKit
import Derived.OpenShut
import Derived.ChangeSlices
set_option linter.unusedVariables false
set_option linter.unusedSimpArgs false

/- The program's add: a permutation that fixes every point before the base is added to a link. Conditions: at most 20 points; the chain whole from the link on. -/
namespace Go.Proofs.Ytooafmifbplbhaa
open Go.RowKit

theorem boolOf (P : Prop) : ∃ b : Bool, b = true ↔ P := by
  by_cases h : P
  · exact ⟨true, fun _ => h, fun _ => rfl⟩
  · exact ⟨false, fun e => (Bool.false_ne_true e).elim, fun e => (h e).elim⟩

set_option maxHeartbeats 8000000 in
set_option maxRecDepth 100000 in
theorem implAdd1 (base N k : Nat) (hk : k < N) (h2N : N ≤ 20) (IN : k + 1 < N → INs base N k) : ADs base N k := by
  intro M c L A cp p w hc ho hd hP hF hU
  obtain ⟨ans, hans⟩ := boolOf (Mb (c.gen k) N p)
  have Ha := Lib.hid hans
  have HC := Lib.hid hc
  have HO := Lib.hid ho
  have HD := Lib.hid hd
  have HP := Lib.hid hP
  have HF := Lib.hid hF
  have HU := Lib.hid hU
  have hbs : base ≤ w.heap.size := by have := hc.mlt _ (hc.mm k 0 _ (Nat.le_refl _) hk (by decide) rfl); omega
  clear hc ho hd hP hF hU hans
  go_enter Try.func79, Try.ntmps79
  go_wp2_with fail
  refine (implContains base N k cp M c L A p w HC.out hk HU h2N HD.out.ri HP HF ans Ha).mono ?_
  rintro e w1 ⟨rfl, b1⟩
  have C1 := Lib.hid (HC.out.up b1)
  have D1 := Lib.hid (HD.out.up b1)
  have B1 := Lib.hid b1
  rcases ans with _ | _
  · have NM : Hid (¬ Mb (c.gen k) N p) := Lib.hid fun h => Bool.false_ne_true (Ha.out.2 h)
    have NS : Hid (¬ Sv N c k p) := Lib.hid fun h => NM.out ((HU.out.sv k (Nat.le_refl _) (by omega) p).1 h)
    have hk1 : k + 1 < N := by
      rcases Nat.lt_or_ge (k + 1) N with h | h
      · exact h
      · exact absurd (sv_last HU.out (by omega) (by omega) h2N HP.out HF.out) NS.out
    obtain ⟨b, hA⟩ : ∃ b : Nat × Nat, A = some ⟨b.1, b.2, none⟩ := by
      obtain ⟨b, off, e, _⟩ := D1.out.at_ (by rw [HP.out.2]; omega)
      exact ⟨(b, off), e⟩
    obtain ⟨b, off⟩ := b
    have hA : A = some ⟨b, off, none⟩ := hA
    subst hA
    obtain ⟨x0, x1, x2, x3, x4⟩ := C1.out.cB (Nat.le_refl _) hk
    have hl := C1.out.lk k (Nat.le_refl _) hk
    have ho := hl.gown
    obtain ⟨G, hG⟩ : ∃ G, (c.gen k).length = G := ⟨_, rfl⟩
    have HG := Lib.hid hG
    have hG4 : G ≤ 400 := by
      rw [← hG]
      have h1 := HU.out.len k (Nat.le_refl _) hk
      have h2 := cnt_le N c k
      have h3 := Nat.mul_le_mul h2N h2N
      omega
    rcases hgv : (L k).g with ⟨gA, gn, gc⟩
    rw [hgv, hG] at ho
    rw [hgv] at x1
    obtain rfl : gn = G := by
      rcases ho.2 with ⟨e, h0⟩ | ⟨g', cap, cur, e, _⟩
      · unfold sval at e; injection e with _ e2 _; have e2 : gn = 0 := e2; omega
      · unfold sval at e; injection e with _ e2 _
    have ho : w1.ownsRow base 53 1 (.slice gA gn gc) gn ((L k).ge.map sval) := ho
    simp only [sval] at x1
    have Ho := Lib.hid ho
    have Hgv := Lib.hid hgv
    rcases hov : (L k).o with ⟨oA, on, oc⟩
    have hol := C1.out.olen (Nat.le_refl _) hk
    rw [hov] at hol
    have hol : on = (L k).orb.length := hol
    have Hol := Lib.hid hol
    have Hov := Lib.hid hov
    have hO20 := (HO.out k (Nat.le_refl _) hk).len (HU.out.rep k (Nat.le_refl _) hk)
    have hon : on ≤ N := by omega
    clear hol hO20
    try clear hol
    clear hov
    have fzB := hl.blk.frozen 1
    have bw1 : base ≤ w1.heap.size := by have := B1.out.size; omega
    obtain ⟨Lt, hLt⟩ : ∃ Lt, Obj.cells #[Value.slice (some ⟨b, off, none⟩) N cp] 53 = Lt := ⟨_, rfl⟩
    have Lit : Hid ((w1.alloc (.cells #[.slice (some ⟨b, off, none⟩) N cp] 53)).cell? ⟨w1.heap.size, 0, none⟩ = some (sval (some ⟨b, off, none⟩, N, cp))) := Lib.hid (by rw [World.cell?_alloc_at _ _ _ _ rfl]; rfl)
    have BL : Hid (Below w1.heap.size w1 (w1.alloc (.cells #[.slice (some ⟨b, off, none⟩) N cp] 53))) := Lib.hid ((Below.refl _ _).alloc (Nat.le_refl _) _)
    have PA : Hid (∀ (A4 : Option Addr) (c4 : Nat) (w4 : World), w4.ownsRow base 53 1 (.slice A4 (gn + 1) c4) (gn + 1) ((L k).ge.map sval ++ [sval (some ⟨b, off, none⟩, N, cp)]) → (w1.alloc (.cells #[.slice (some ⟨b, off, none⟩) N cp] 53)).grownBy w4 (Value.slice gA gn gc).ownBlock →
        ((Value.slice A4 (gn + 1) c4).ownBlock = (Value.slice gA gn gc).ownBlock ∨ (Value.slice A4 (gn + 1) c4).ownBlock = some (w1.alloc (.cells #[.slice (some ⟨b, off, none⟩) N cp] 53)).heap.size) →
        (w4.setCell ⟨(L k).B, 1, none⟩ (.slice A4 (gn + 1) c4)).cell? ⟨(L k).B, 2, none⟩ = some (.slice oA on oc) ∧ w4.cell? ⟨(L k).B, 1, none⟩ = some (.slice gA gn gc) ∧ w4.frozen? ⟨(L k).B, 1, none⟩ = false ∧ ∃ (L' : Nat → LK) (M' : Nat → Prop), Ck (w4.setCell ⟨(L k).B, 1, none⟩ (.slice A4 (gn + 1) c4)) base N k M' (c.push k p) L' ∧ Orbs N k (c.push k p) L' ∧ Gw w (w4.setCell ⟨(L k).B, 1, none⟩ (.slice A4 (gn + 1) c4)) N k L L' M M' ∧ (L' k).orb = (L k).orb ∧ (L' k).g = (A4, gn + 1, c4)) := Lib.hid (by
      intro A4 c4 w4 s4 g4 hat
      obtain ⟨M', K1, K2⟩ := C1.out.pushg hk BL.out (q := p) (d := (some ⟨b, off, none⟩, N, cp)) (A := A4) (n := gn + 1) (cc := c4) (by rw [Hgv.out]; exact g4) (by rw [HG.out]; exact s4) (by rw [Hgv.out]; exact hat) D1.out
      have blk1 : Blk w4 (L k).B 58 #[.int .i64 (k : Nat), sval (L k).g, sval (L k).o, .slice (some ⟨(L k).mb, 0, none⟩) N N, ptr N L (k + 1)] := by
        have h0 := (C1.out.lk k (Nat.le_refl _) hk).blk
        have h1 := h0.chg (S := fun _ => False) (.of_below BL.out) (fun e => e)
        refine h1.grown g4 fun e => ?_
        have := (C1.out.dis k 0 k 1 (L k).B (Nat.le_refl _) hk (by decide) (Nat.le_refl _) hk (by decide) rfl (by show (sval (L k).g).ownBlock = _; rw [Hgv.out]; exact e.symm)).2
        omega
      refine ⟨?_, by rw [blk1.cell 1, Hgv.out]; rfl, blk1.frozen 1, _, M', K1, fun i a b => ?_, (Gw.of_below B1.out).trans K2, ?_, ?_⟩
      · have h3 := (K1.cB (Nat.le_refl _) hk).2.2.1
        rw [upd_at] at h3
        have h3 : (w4.setCell ⟨(L k).B, 1, none⟩ (.slice A4 (gn + 1) c4)).cell? ⟨(L k).B, 2, none⟩ = some (sval (L k).o) := h3
        rw [Hov.out] at h3; exact h3
      · by_cases ei : i = k
        · subst ei
          rw [upd_at]
          exact (HO.out i a b).congr fun z => rfl
        · rw [upd_ne ei]
          exact (HO.out i a b).congr fun z => rfl
      · rw [upd_at]
      · rw [upd_at])
    have P0 : Hid (Low N (c.push k p) k) := Lib.hid (HU.out.pushed hk (by omega) h2N HP.out HF.out)
    clear hl ho hG hgv b1 HC HD hLt
    go_wp2_with (first
      | (at_builtin; go_must (refine wpList_appP rfl _ _ rfl base (.slice gA gn gc) gn ((L k).ge.map sval) rfl (World.ownsRow.alloc Ho.out _) w1.heap.size (some ⟨b, off, none⟩, N, cp) rfl Lit.out (by omega) (by simp; omega) ?_); intro A4 c4 w4 s4 g4 hat4; obtain ⟨v0, v1, v2, v3⟩ := PA.out A4 c4 w4 s4 g4 hat4; have V3 := Lib.hid v3; clear s4 g4 hat4 v3))
    obtain ⟨L3, M3, hc3, ho3, hg3, horb3, hgk3⟩ := V3.out
    generalize w4.setCell ⟨(L k).B, 1, none⟩ (.slice A4 (gn + 1) c4) = w5 at v0 hc3 hg3 ⊢
    have St : Hid (Bf N k (c.push k p) (c.push k p) (L3 k).orb p on 0 0) := Lib.hid (by
      have h3 := Bf.start (p := p) P0.out (ho3 k (Nat.le_refl _) hk)
      have e3 : (L3 k).orb.length = on := by rw [horb3, Hol.out]
      rw [e3] at h3; exact h3)
    have C3 := Lib.hid hc3
    have O3 := Lib.hid ho3
    have G3 := Lib.hid hg3
    have glen : ((c.push k p).gen k).length = gn + 1 := by rw [push_at, List.length_append, HG.out]; rfl
    have Gl := Lib.hid glen
    clear hc3 ho3 hg3 horb3 hgk3 v1 v2 V3 PA glen BL Lit fzB x1 x0 x2 x3 x4
    go_loopg [5, 6, 7, 9] N (fun gg iv _ _ _ wr => ∃ (i : Nat) (cj : Ch) (Lj : Nat → LK) (Mj : Nat → Prop), i ≤ (Lj k).orb.length ∧ N - i ≤ gg ∧ iv = .int .i64 (i : Nat) ∧ Ck wr base N k Mj cj Lj ∧ Orbs N k cj Lj ∧ Gw w wr N k L Lj M Mj ∧ Bf N k (c.push k p) cj (Lj k).orb p on i 0)
    case atStart => exact ⟨0, c.push k p, L3, M3, Nat.zero_le _, by omega, rfl, C3.out, O3.out, G3.out, St.out⟩
    case round =>
      clear C3 O3 G3 St
      obtain ⟨i, cj, Lj, Mj, hi, hgg, rfl, hc, ho, hg, hbf⟩ := hrel
      have Cj := Lib.hid hc
      have Oj := Lib.hid ho
      have Gj := Lib.hid hg
      have Bj := Lib.hid hbf
      have hBk : (Lj k).B = (L k).B := hg.ptr k
      obtain ⟨x0, x1, x2, x3, x4⟩ := hc.cB (Nat.le_refl _) hk
      rw [hBk] at x0 x1 x2 x3 x4
      have hlenj := hc.olen (Nat.le_refl _) hk
      have hOr := ho k (Nat.le_refl _) hk
      have h20 := hOr.len hbf.low.rep
      have hbl := hbf.len
      have eg : (cj.gen k).length = gn + 1 := by rw [hbf.gen]; exact Gl.out
      obtain ⟨m, hm⟩ : ∃ m, (Lj k).orb.length = m := ⟨_, rfl⟩
      have Hm := Lib.hid hm
      rw [hm] at hi h20 hbl hlenj
      by_cases hlt : i < m
      · obtain ⟨ob, oc2, hoe, x6⟩ := hc.cO (Nat.le_refl _) hk (j := i) (by rw [hm]; exact hlt)
        rw [hoe] at x2
        rw [hm] at x2
        obtain ⟨y, ey⟩ : ∃ y, (Lj k).orb.getD i 0 = y := ⟨_, rfl⟩
        rw [ey] at x6
        have hyO : y ∈ (Lj k).orb := by rw [← ey, List.getD_eq_getElem?_getD, List.getElem?_eq_getElem (by rw [hm]; exact hlt)]; exact List.getElem_mem _
        have hry : cj.rep k y ≠ [] := (hOr.2 y).1 hyO
        obtain ⟨hy, hrP, hrF, hrk⟩ := hbf.low.rep.at_ y hry
        have x7 := hc.cM (Nat.le_refl _) hk hy
        have hrd := (hc.eM (Nat.le_refl _) hk hy).2 hry
        rcases hde : (Lj k).en.getD y sd0 with ⟨dA, dn, dc⟩
        rw [hde] at x7 hrd
        obtain ⟨gq, gcq, hge, hcap, x8, hrg⟩ := hc.cG (Nat.le_refl _) hk (j := 0) (by omega)
        rw [hge] at x1
        rw [eg] at x1 hcap
        simp only [sval] at x1 x2 x7
        have q0 : (0 : Int) ≤ i := by omega
        have q1 : (i : Int) < m := by omega
        have q2 : (0 : Int) ≤ y := by omega
        have q3 : (y : Int) < N := by omega
        have Ey := Lib.hid ey
        have Hry := Lib.hid hry
        have Rd0 := Lib.hid hrd
        have Hge := Lib.hid hge
        have RP := Lib.hid hrP
        clear hc ho hg hbf hlenj hOr hm hoe hyO hry hrP hrF hrk hde hrd hge x8 hrg ey eg
        go_wp2_with fail
        go_quiet (fail)
        have B3 : Hid (Below wr.heap.size wr (wr.drewN nq)) := Lib.hid (pcDrewBelow wr nq)
        obtain ⟨wz, hwz⟩ : ∃ wz, wr.drewN nq = wz := ⟨_, rfl⟩
        rw [hwz] at B3 ⊢
        have Cz := Lib.hid (Cj.out.up B3.out)
        have Rz := Lib.hid (Rd0.out.up B3.out)
        have Gz : Hid (Gw w wz N k L Lj M Mj) := Lib.hid (Gj.out.trans (.of_below B3.out))
        clear hwz B3 Cj Rd0 Gj
        go_upto_if 56 with fail
        go_cut [7] from 28 to 73 (fun gv wx => wx = wz ∧ ∃ (of gl cc : Nat), gv = .slice (some ⟨gq, of, none⟩) gl cc ∧ ((i < on ∧ of = gn ∧ gl = 1) ∨ (on ≤ i ∧ of = 0 ∧ gl = gn + 1)))
        case first =>
          by_cases hin : i < on
          · have d0 : decide ((i : Int) < (on : Int)) = true := by simp; omega
            go_wp2_with fail
            go_meet
            exact ⟨rfl, gn, 1, _, rfl, .inl ⟨hin, rfl, rfl⟩⟩
          · have d0 : decide ((i : Int) < (on : Int)) = false := by simp; omega
            go_wp2_with fail
            go_meet
            exact ⟨rfl, 0, gn + 1, _, rfl, .inr ⟨by omega, rfl, rfl⟩⟩
        case rest =>
          obtain ⟨rfl, of, gl, cc, rfl, hgs⟩ := hcut
          have Gs := Lib.hid hgs
          have Gal : Hid ((gsA on ((c.push k p).gen k) p i).length = gl) := Lib.hid (by
            unfold gsA
            rcases hgs with ⟨h1, _, h3⟩ | ⟨h1, _, h3⟩
            · rw [if_pos h1, h3]; rfl
            · rw [if_neg (by omega), Gl.out, h3])
          have hgl4 : gl ≤ 401 := by omega
          have hofl : of + gl = gn + 1 := by omega
          obtain rfl : dn = N := by have h3 : (cj.rep k y).length = dn := Rz.out.len; have := RP.out.2; omega
          clear hgs
          go_wp2_with fail
          go_loopg [9, 64] gl (fun gg _ jv wr => ∃ (j : Nat) (ci : Ch) (Li : Nat → LK) (Mi : Nat → Prop), j ≤ gl ∧ gl - j ≤ gg ∧ jv = .int .i64 (j : Nat) ∧ Ck wr base dn k Mi ci Li ∧ Orbs dn k ci Li ∧ Gw w wr dn k L Li M Mi ∧ Bf dn k (c.push k p) ci (Li k).orb p on i j ∧ (Li k).g = (Lj k).g ∧ (Lj k).orb <+: (Li k).orb ∧ ci.rep k y = cj.rep k y ∧ Rd wr Mi (dA, dn, dc) (cj.rep k y))
          case atStart => exact ⟨0, cj, Lj, Mj, Nat.zero_le _, by omega, rfl, Cz.out, Oj.out, Gz.out, Bj.out, rfl, List.prefix_rfl, rfl, Rz.out⟩
          case round =>
            clear Cz Gz Rz
            obtain ⟨j, ci, Li, Mi, hj, hgg2, rfl, hc, ho, hg, hbf, hgk, hpre, hrep, hrd⟩ := hrel
            have Ci := Lib.hid hc
            have Oi := Lib.hid ho
            have Gi := Lib.hid hg
            have Bi := Lib.hid hbf
            have Gk := Lib.hid hgk
            have Pre := Lib.hid hpre
            have Rep := Lib.hid hrep
            have Rdi := Lib.hid hrd
            have gen1 : ci.gen k = c.gen k ++ [p] := by rw [hbf.gen, push_at]
            by_cases hjl : j < gl
            · obtain ⟨gq', gc', hge', _, x8, hrg⟩ := hc.cG (Nat.le_refl _) hk (j := of + j) (by rw [gen1, List.length_append, HG.out]; simp; omega)
              rw [hgk, Hge.out] at hge'
              obtain ⟨rfl, rfl⟩ : gq = gq' ∧ gcq = gc' := by
                injection hge' with h1 h2
                injection h1 with h1
                injection h1 with h1
                injection h2 with _ h2
                exact ⟨h1, h2⟩
              rcases hde : (Li k).ge.getD (of + j) sd0 with ⟨eA, en, ec⟩
              rw [hde] at x8 hrg
              obtain ⟨h, eh⟩ : ∃ h, (ci.gen k).getD (of + j) [] = h := ⟨_, rfl⟩
              rw [eh] at hrg
              have egs : (gsA on ((c.push k p).gen k) p i).getD j [] = h := by
                rw [← eh, gen1]
                unfold gsA
                rcases Gs.out with ⟨h1, h2, h3⟩ | ⟨h1, h2, h3⟩
                · obtain rfl : j = 0 := by omega
                  rw [if_pos h1, h2, getD_snoc _ _ _ (gn + 0) (by rw [HG.out]; rfl)]; rfl
                · rw [if_neg (by omega), h2, push_at, Nat.zero_add]
              have hilt : i < (Li k).orb.length := Nat.lt_of_lt_of_le (by rw [Hm.out]; exact hlt) hpre.length_le
              have eyi : (Li k).orb.getD i 0 = y := by rw [getD_pre hpre (by rw [Hm.out]; exact hlt)]; exact Ey.out
              obtain ⟨k1, k2, k3⟩ := hbf.mb (ho k (Nat.le_refl _) hk) hilt (by rw [Gal.out]; exact hjl)
              rw [egs, eyi, hrep] at k1
              rw [egs] at k3
              have hP2 := (hbf.low.gp h k3).1
              obtain rfl : en = dn := by have h3 : h.length = en := hrg.len; have := hP2.2; omega
              have K1 := Lib.hid k1
              have Egs := Lib.hid egs
              have Eyi := Lib.hid eyi
              have Hp2 := Lib.hid hP2
              have Rgi := Lib.hid hrg
              have Hil := Lib.hid hilt
              simp only [sval] at x8
              have q4 : (0 : Int) ≤ j := by omega
              have q5 : (j : Int) < gl := by omega
              clear hc ho hg hbf hgk hpre hrep hrd gen1 hge' hde eh egs hilt eyi k1 k2 k3 hP2 hrg
              go_wp2_with fail
              refine (implThen dA eA dc ec en (cj.rep k y) h wr Rdi.out.ri Rgi.out.ri (Lib.hid RP.out.2) (Lib.hid Hp2.out.2) (Lib.hid RP.out.1) h2N).mono ?_
              rintro e w3 ⟨A3, c3, rfl, s3, b3⟩
              have C4 := Lib.hid (Ci.out.up b3)
              have R4 : Hid (Rd w3 Mi (A3, en, c3) (compL (cj.rep k y) h)) := Lib.hid (Rd.of_slc (d := (A3, en, c3)) s3 fun b e => (Ci.out.mlt b e).2)
              have G4 : Hid (Gw w w3 en k L Li M Mi) := Lib.hid (Gi.out.trans (.of_below b3))
              have D4 := Lib.hid (Rdi.out.up b3)
              have eBi : (Li k).B = (L k).B := Gi.out.ptr k
              have EBi := Lib.hid eBi
              clear s3 b3 eBi
              go_wp2_with fail
              have KI := IN hk1 Mi ci Li A3 c3 (compL (cj.rep k y) h) w3 C4.out Oi.out R4.out Bi.out.low K1.out
              rw [EBi.out] at KI
              refine KI.mono ?_
              rintro e w4 ⟨c', L', M', rfl, hc4, ho4, hg4, hic, hpre4, hgk4⟩
              have C5 := Lib.hid hc4
              have O5 := Lib.hid ho4
              have G5 : Hid (Gw w w4 en k L L' M M') := Lib.hid (G4.out.trans hg4)
              have Bf5 : Hid (Bf en k (c.push k p) c' (L' k).orb p on i (j + 1)) := Lib.hid (Bi.out.next (Oi.out k (Nat.le_refl _) hk) Hil.out hpre4 (by rw [Egs.out, Eyi.out, Rep.out]; exact hic))
              have Gk5 : Hid ((L' k).g = (Lj k).g) := Lib.hid (hgk4.trans Gk.out)
              have Pre5 : Hid ((Lj k).orb <+: (L' k).orb) := Lib.hid (Pre.out.trans hpre4)
              have Rep5 : Hid (c'.rep k y = cj.rep k y) := Lib.hid (by
                rw [← Rep.out]; exact hic.grw.keep _ _ (by rw [Rep.out]; exact Hry.out))
              have D5 : Hid (Rd w4 M' (dA, en, dc) (cj.rep k y)) := Lib.hid (D4.out.gw hg4 C4.out.muM)
              clear KI hc4 ho4 hg4 hic hpre4 hgk4
              go_wp2_with fail
              go_roundg (gl - (j + 1))
              case rel => exact ⟨j + 1, c', L', M', by omega, by omega, by go_num, C5.out, O5.out, G5.out, Bf5.out, Gk5.out, Pre5.out, Rep5.out, D5.out⟩
              case measure => omega
            · obtain rfl : j = gl := by omega
              have Bf6 : Hid (Bf dn k (c.push k p) ci (Li k).orb p on (i + 1) 0) := Lib.hid (Bf.round (by rw [Gal.out]; exact Bi.out))
              have hil : i + 1 ≤ (Li k).orb.length := Nat.lt_of_lt_of_le (by rw [Hm.out]; exact hlt) hpre.length_le
              clear hc ho hg hbf hgk hpre hrep hrd gen1
              go_wp2_with fail
              go_roundg (dn - (i + 1))
              case rel => exact ⟨i + 1, ci, Li, Mi, hil, by omega, by go_num, Ci.out, Oi.out, Gi.out, Bf6.out⟩
              case measure => omega
      · obtain rfl : i = m := by omega
        have Fin : Hid (Ap N k c cj p) := Lib.hid (Bf.all HU.out hk (by omega) h2N HP.out HF.out NS.out (by rw [Hm.out]; exact Bj.out) hOr)
        simp only [sval] at x2
        clear hc ho hg hbf
        rcases hoe : (Lj k).o with ⟨oA2, on2, oc2⟩
        rw [hoe] at x2 hlenj
        have hlenj : on2 = i := hlenj
        subst hlenj
        simp only at x2
        clear hoe
        go_wp2_with fail
        go_end0
        exact ⟨rfl, cj, Lj, Mj, Cj.out, Oj.out, Gj.out, Fin.out⟩
  · have Fin : Hid (Ap N k c c p) := Lib.hid (.same HU.out (by omega) (by omega) h2N ((HU.out.sv k (Nat.le_refl _) (by omega) p).2 (Ha.out.1 rfl)))
    go_wp2_with fail
    (try simp only [Exit.inBlock, Exit.then]); refine bodyPost_ret (results_none rfl _ _ _) rfl ?_
    first
      | exact ⟨c, L, M, rfl, C1.out, HO.out, .of_below B1.out, Fin.out⟩
      | exact ⟨rfl, c, L, M, C1.out, HO.out, .of_below B1.out, Fin.out⟩
theorem implAdd (base N : Nat) (h2N : N ≤ 20) : ∀ m k, k + m + 1 = N → ADs base N k
  | 0, k, e => implAdd1 base N k (by omega) h2N fun h => absurd h (by omega)
  | m + 1, k, e => implAdd1 base N k (by omega) h2N fun h => implInclude base N k h h2N (implAdd base N h2N m (k + 1) (by omega))
end Go.Proofs.Ytooafmifbplbhaa

/- The program's chainOf: a chain whole from link 0 on, of what the generators generate. Conditions: at most 20 points, 8 generators. -/
namespace Go.Proofs.Ytooafmifbplbhaa
open Go.RowKit

/-- One link more, ahead of the others, in blocks of its own. -/
theorem ck_cons {w w' : World} {base N k : Nat} {M : Nat → Prop} {c : Ch} {L : Nat → LK} {l : LK} (h : Ck w base N (k + 1) M c L) (hb : Below w.heap.size w w') (hbs : base ≤ w.heap.size)
    (hl : Lk w' base N k (fun b => M b ∨ ∃ t, t < 4 ∧ mu l t = some b) (c.rep k) (c.gen k) (ptr N L (k + 1)) l)
    (hf : ∀ t b, t < 4 → mu l t = some b → w.heap.size ≤ b ∧ b < w'.heap.size) (hd : ∀ t t' b, t < 4 → t' < 4 → mu l t = some b → mu l t' = some b → t = t') :
    Ck w' base N k (fun b => M b ∨ ∃ t, t < 4 ∧ mu l t = some b) c (upd L k l) := by
  have hp : ∀ i, k ≤ i → ptr N (upd L k l) (i + 1) = ptr N L (i + 1) := fun i hi => by unfold ptr; rw [upd_ne (by omega)]
  have hx : ∀ i t t' b, k < i → i < N → t < 4 → t' < 4 → mu (L i) t = some b → mu l t' = some b → False := fun i t t' b a1 a2 a3 a4 e e' => by
    have := (h.mlt b (h.mm i t b a1 a2 a3 e)).2
    have := (hf t' b a4 e').1
    omega
  refine ⟨fun i a b => ?_, fun i t b a1 a2 a3 e => ?_, fun b e => ?_, fun i t i' t' b a1 a2 a3 a4 a5 a6 e e' => ?_⟩
  · rw [hp i a]
    by_cases ei : i = k
    · subst ei; rw [upd_at]; exact hl
    · rw [upd_ne ei]
      exact (h.lk i (by omega) b).keep (S := fun _ => False) (.of_below hb) (fun _ _ _ _ e => e) (fun _ e => e.elim) fun b e => by
        rcases e with e | ⟨t, a, e⟩
        · exact .inl e
        · exact .inr (hf t b a e).1
  · by_cases ei : i = k
    · subst ei; rw [upd_at] at e; exact .inr ⟨t, a3, e⟩
    · rw [upd_ne ei] at e; exact .inl (h.mm i t b (by omega) a2 a3 e)
  · have := hb.size
    rcases e with e | ⟨t, a, e⟩
    · have := h.mlt b e; omega
    · have := hf t b a e; omega
  · by_cases ei : i = k <;> by_cases ei' : i' = k
    · subst ei; subst ei'
      rw [upd_at] at e e'
      exact ⟨rfl, hd t t' b a3 a6 e e'⟩
    · subst ei
      rw [upd_at] at e
      rw [upd_ne ei'] at e'
      exact (hx i' t' t b (by omega) a5 a6 a3 e' e).elim
    · subst ei'
      rw [upd_at] at e'
      rw [upd_ne ei] at e
      exact (hx i t t' b (by omega) a2 a3 a6 e e').elim
    · rw [upd_ne ei] at e
      rw [upd_ne ei'] at e'
      exact h.dis i t i' t' b (by omega) a2 a3 (by omega) a5 a6 e e'
theorem orb0 {N k : Nat} (h1 : 1 ≤ N) : Orb (ch0 N) k [k] := by
  refine ⟨by simp, fun y => ?_⟩
  rw [List.mem_singleton]
  show y = k ↔ (if y = k then idL N else []) ≠ []
  by_cases e : y = k
  · rw [if_pos e]; exact ⟨fun _ e2 => by have := idL_length N; rw [e2] at this; simp at this; omega, fun _ => e⟩
  · rw [if_neg e]; exact ⟨fun h => absurd h e, fun h => absurd rfl h⟩
def lk0 : LK := ⟨0, sd0, [], sd0, 0, [], []⟩
/-- The rows of a new link. -/
theorem madeP {w : World} {base g n : Nat} (h : w.ownsRow base 53 1 (.slice (some ⟨g, 0, none⟩) n n) n (madeCells (Value.slice none 0 0).cells (n * 1)).toList) : w.ownsRow base 53 1 (.slice (some ⟨g, 0, none⟩) n n) n ((List.replicate n sd0).map sval) := by
  have e : (madeCells (Value.slice none 0 0).cells (n * 1)).toList = (List.replicate n sd0).map sval := by
    show (madeCells #[Value.slice none 0 0] (n * 1)).toList = _
    rw [toList_madeCells_one]; simp [sval, sd0]
  rw [← e]; exact h

theorem ck_new {wr wA : World} {base N k B1 c2 : Nat} {M : Nat → Prop} {L : Nat → LK} {po : Option Addr} {A2 : Option Addr} (h : Ck wr base N (k + 1) M (ch0 N) L) (hk : k < N) (hpo : ptr N L (k + 1) = .pointer po) (BA : Below wr.heap.size wr wA)
    (RA : wA.ownsRow base 53 1 (.slice (some ⟨wr.heap.size, 0, none⟩) N N) N (((List.replicate N sd0).set k (A2, N, c2)).map sval)) (hB1 : wr.heap.size < B1) (SA : Slc wA B1 A2 N c2 (idL N)) (hbs : base ≤ wr.heap.size) :
    ∃ (L' : Nat → LK) (M' : Nat → Prop), Ck ((wA.alloc (.cells #[.int .i64 (k : Nat)] 2)).alloc (.cells #[.int .i64 (k : Nat), .slice none 0 0, .slice (some ⟨wA.heap.size, 0, none⟩) 1 1, .slice (some ⟨wr.heap.size, 0, none⟩) N N, .pointer po] 58)) base N k M' (ch0 N) L' ∧
      (L' k).B = wA.heap.size + 1 ∧ (∀ i, k < i → L' i = L i) ∧ (L' k).orb = [k] := by
  obtain ⟨l, hl⟩ : ∃ l : LK, l = ⟨wA.heap.size + 1, sd0, [], (some ⟨wA.heap.size, 0, none⟩, 1, 1), wr.heap.size, (List.replicate N sd0).set k (A2, N, c2), [k]⟩ := ⟨_, rfl⟩
  obtain ⟨W, hW⟩ : ∃ W, (wA.alloc (.cells #[.int .i64 (k : Nat)] 2)).alloc (.cells #[.int .i64 (k : Nat), .slice none 0 0, .slice (some ⟨wA.heap.size, 0, none⟩) 1 1, .slice (some ⟨wr.heap.size, 0, none⟩) N N, .pointer po] 58) = W := ⟨_, rfl⟩
  have hz : W.heap.size = wA.heap.size + 2 := by rw [← hW]; simp
  have bAW : Below wA.heap.size wA W := by rw [← hW]; exact ((Below.refl _ _).alloc (Nat.le_refl _) _).alloc (by simp) _
  have hzA := BA.size
  have hA0 : wr.heap.size < wA.heap.size := (World.ownsRow.lt RA wr.heap.size rfl).2
  have hmu : ∀ t b, t < 4 → mu l t = some b → b = wA.heap.size + 1 ∨ b = wA.heap.size ∨ b = wr.heap.size := fun t b ht e => by
    subst hl
    rcases t with _ | _ | _ | t
    · injection e with e; exact .inl e.symm
    · cases e
    · injection e with e; exact .inr (.inl e.symm)
    · injection e with e; exact .inr (.inr e.symm)
  rw [hW]
  refine ⟨upd L k l, fun b => M b ∨ ∃ t, t < 4 ∧ mu l t = some b, ck_cons h (BA.trans (bAW.mono hzA)) hbs ?_ (fun t b ht e => ?_) (fun t t' b a1 a2 e e' => ?_), by rw [upd_at, hl], fun i hi => upd_ne (by omega), by rw [upd_at, hl]⟩
  · have hM : ∀ b, (M b ∨ ∃ t, t < 4 ∧ mu l t = some b) → b < wr.heap.size ∨ b = wA.heap.size + 1 ∨ b = wA.heap.size ∨ b = wr.heap.size := fun b e => by
      rcases e with e | ⟨t, a, e⟩
      · exact .inl (h.mlt b e).2
      · exact .inr (hmu t b a e)
    refine ⟨?_, by subst hl; show base ≤ wA.heap.size + 1; omega, ?_, by subst hl; rfl, fun y hy => absurd hy (by show ¬ y < 0; omega), ?_, ?_, by subst hl; simp, fun y hy => ?_⟩
    · rw [hpo, ← hW]
      have := Blk.new (wA.alloc (.cells #[.int .i64 (k : Nat)] 2)) 58 #[.int .i64 (k : Nat), .slice none 0 0, .slice (some ⟨wA.heap.size, 0, none⟩) 1 1, .slice (some ⟨wr.heap.size, 0, none⟩) N N, .pointer po]
      rw [World.size_alloc] at this
      subst hl; exact this
    · subst hl; exact World.ownsRow_nil _ _ _ _
    · subst hl
      show Slc W base (some ⟨wA.heap.size, 0, none⟩) 1 1 (ofP [k])
      have h1 : (wA.alloc (.cells #[.int .i64 (k : Nat)] 2)).ownsRow base 2 1 (.slice (some ⟨wA.heap.size, 0, none⟩) 1 1) 1 [.int .i64 (k : Nat)] := World.ownsRow_lit (size := 1) wA #[.int .i64 (k : Nat)] 1 (by omega) (by decide) rfl
      rw [← hW]
      exact ⟨rfl, World.ownsRow.alloc h1 _⟩
    · subst hl
      rw [← hW]
      exact World.ownsRow.alloc (World.ownsRow.alloc RA _) _
    · subst hl
      show ((if y = k then idL N else []) = [] → ((List.replicate N sd0).set k (A2, N, c2)).getD y sd0 = sd0) ∧ ((if y = k then idL N else []) ≠ [] → Rd W _ (((List.replicate N sd0).set k (A2, N, c2)).getD y sd0) (if y = k then idL N else []))
      by_cases e : y = k
      · subst e
        rw [if_pos rfl, getD_set_eq (by simp; exact hy)]
        refine ⟨fun e => ?_, fun _ => ?_⟩
        · have := idL_length N; rw [e] at this; simp at this; omega
        · refine ⟨SA.1, SA.le.1, fun hp => ?_⟩
          obtain ⟨b, off, e, hb, hc⟩ := SA.ri_ hp
          have e : A2 = some ⟨b, off, none⟩ := e
          have hlo : B1 ≤ b := by
            rcases SA.at_ with ⟨e0, _⟩ | ⟨g, e0, h1, _⟩
            · rw [e0] at e; cases e
            · rw [e0] at e; injection e with e; injection e with e _; omega
          refine ⟨b, off, e, by omega, fun hm => ?_, fun j hj => (bAW.cell (p := ⟨b, off + j, none⟩) hb).trans (hc j hj)⟩
          have := hM b hm
          omega
      · rw [if_neg e, getD_set_ne (fun e2 => e e2.symm), getD_rep]
        exact ⟨fun _ => rfl, fun h => absurd rfl h⟩
  · have := hmu t b ht e
    omega
  · subst hl
    have hx : ∀ t, t < 4 → mu (⟨wA.heap.size + 1, sd0, [], (some ⟨wA.heap.size, 0, none⟩, 1, 1), wr.heap.size, (List.replicate N sd0).set k (A2, N, c2), [k]⟩ : LK) t = some b → (t = 0 ∧ b = wA.heap.size + 1) ∨ (t = 2 ∧ b = wA.heap.size) ∨ (t = 3 ∧ b = wr.heap.size) := fun t ht e => by
      rcases t with _ | _ | _ | t
      · injection e with e; exact .inl ⟨rfl, e.symm⟩
      · cases e
      · injection e with e; exact .inr (.inl ⟨rfl, e.symm⟩)
      · injection e with e; exact .inr (.inr ⟨by omega, e.symm⟩)
    have h3 := hx t a1 e
    have h4 := hx t' a2 e'
    omega

set_option maxHeartbeats 8000000 in
set_option maxRecDepth 100000 in
theorem implChainOf (N n cc : Nat) (A : Option Addr) (vs : List SV) (gs : List (List Int)) (w : World) (hx : RR w w.heap.size A n vs gs) (hN1 : 1 ≤ N) (hN : N ≤ 20) (hn : n ≤ 8) (ok : Hid (∀ g ∈ gs, IsP g ∧ g.length = N)) :
    Calls Try.prog 49 #[.int .i64 (N : Nat), .slice A n cc] w fun e w' => ∃ (c : Ch) (L : Nat → LK) (M : Nat → Prop), e = .returned (.pointer (some ⟨(L 0).B, 0, none⟩)) ∧ Ck w' w.heap.size N 0 M c L ∧ Orbs N 0 c L ∧ Whole N gs c ∧ Below w.heap.size w w' := by
  obtain ⟨i0, hi, hz0, hz1, hz2⟩ := info_parts infoP
  have HX := Lib.hid hx
  have hlx : Hid (gs.length = n) := Lib.hid hx.lx
  clear hx
  go_enter Try.func49, Try.ntmps49
  go_wp2_with fail
  go_loopg [5, 6, 7] N (fun gg ch bv _ wr => ∃ (m : Nat) (L : Nat → LK) (M : Nat → Prop), m ≤ N ∧ m ≤ gg ∧ bv = .int .i64 ((m : Int) - 1) ∧ ch = ptr N L m ∧ Ck wr w.heap.size N m M (ch0 N) L ∧ Orbs N m (ch0 N) L ∧ Below w.heap.size w wr)
  case atStart => exact ⟨N, fun _ => lk0, fun _ => False, Nat.le_refl _, Nat.le_refl _, by go_num, (if_neg (by omega)).symm, ⟨fun i a b => absurd b (by omega), fun i _ _ a b => absurd b (by omega), fun _ e => e.elim, fun i _ _ _ _ a b => absurd b (by omega)⟩, fun i a b => absurd b (by omega), Below.refl _ _⟩
  case round =>
    obtain ⟨m, L, M, hm, hgg, rfl, rfl, hc, ho, bel⟩ := hrel
    have C1 := Lib.hid hc
    have O1 := Lib.hid ho
    have Be := Lib.hid bel
    have hzr := bel.size
    clear hc ho bel
    rcases m with _ | k
    · have ep : ptr N L 0 = .pointer (some ⟨(L 0).B, 0, none⟩) := if_pos (by omega)
      rw [ep]
      have d0 : decide ((((0 : Nat) : Int) - 1) ≥ 0) = false := by decide
      have U0 := Lib.hid (upTo0 N hN1 hN)
      clear ep
      go_wp2_with fail
      go_loopg [9, 32] n (fun gg _ jv wr => ∃ (j : Nat) (c : Ch) (L' : Nat → LK) (M : Nat → Prop), j ≤ n ∧ n - j ≤ gg ∧ jv = .int .i64 (j : Nat) ∧ (L' 0).B = (L 0).B ∧ Ck wr w.heap.size N 0 M c L' ∧ Orbs N 0 c L' ∧ Whole N (gs.take j) c ∧ Below w.heap.size w wr)
      case atStart => exact ⟨0, ch0 N, L, M, Nat.zero_le _, by omega, rfl, rfl, C1.out, O1.out, ⟨U0.out, fun q => by rw [List.take_zero]; exact Iff.rfl⟩, Be.out⟩
      case round =>
        clear C1 O1 U0 Be
        obtain ⟨j, c, L', M, hj, hg2, rfl, hB, hc, ho, hw, bel⟩ := hrel
        have C2 := Lib.hid hc
        have O2 := Lib.hid ho
        have W2 := Lib.hid hw
        have HB := Lib.hid hB
        have Be := Lib.hid bel
        clear hc ho hw hB
        by_cases hlt : j < n
        · obtain ⟨b, off, A5, l, c5, y, rfl, hb, hv, ey, x1, ri, ly, hl5⟩ := (HX.out.up Be.out).at_ hlt
          have ri0 : RI w w.heap.size A5 y := by
            have := HX.out.rows j hlt
            rw [hv, ey] at this; exact this
          have hyP := ok.out y (by rw [← ey]; exact getD_memL (by rw [hlx.out]; exact hlt))
          obtain rfl : l = N := by omega
          have Rdy : Hid (Rd wr M (A5, l, c5) y) := Lib.hid (.of_ri (ri0.below Be.out (Nat.le_refl _)) ly hl5 Be.out.size fun b e => (C2.out.mlt b e).1)
          have YP : Hid (Pn l y) := Lib.hid hyP
          have Ey := Lib.hid ey
          have q0 : (0 : Int) ≤ j := by omega
          have q1 : (j : Int) < n := by omega
          clear hv ey hb ri ri0 hyP bel
          go_wp2_with fail
          have K := implAdd w.heap.size l hN (l - 1) 0 (by omega) M c L' A5 c5 y wr C2.out O2.out Rdy.out YP.out Fx.zero W2.out.up
          rw [HB.out] at K
          refine K.mono ?_
          rintro e w3 ⟨c', L3, M', rfl, hc3, ho3, hg3, hap⟩
          have C4 := Lib.hid hc3
          have O4 := Lib.hid ho3
          have B4 : Hid ((L3 0).B = (L 0).B) := Lib.hid ((hg3.ptr 0).trans HB.out)
          have Be3 : Hid (Below w.heap.size w w3) := Lib.hid (Be.out.trans (hg3.chg.below (fun k hk => (C2.out.mlt k (C2.out.muM k hk)).1) Be.out.size))
          have W4 : Hid (Whole l (gs.take (j + 1)) c') := Lib.hid (by
            rw [List.take_succ_eq_append_getElem (by rw [hlx.out]; exact hlt)]
            have e1 : gs[j]'(by rw [hlx.out]; exact hlt) = y := by rw [← Ey.out, List.getD_eq_getElem?_getD, List.getElem?_eq_getElem (by rw [hlx.out]; exact hlt)]; rfl
            rw [e1]
            exact W2.out.next hN1 hN (fun g hg => ok.out g (List.mem_of_mem_take hg)) YP.out hap)
          clear K hc3 ho3 hg3 hap
          go_wp2_with fail
          go_roundg (n - (j + 1))
          case rel => exact ⟨j + 1, c', L3, M', by omega, by omega, by go_num, B4.out, C4.out, O4.out, W4.out, Be3.out⟩
          case measure => omega
        · obtain rfl : j = n := by omega
          have W3 : Hid (Whole N gs c) := Lib.hid (by have := W2.out; rwa [List.take_of_length_le (by rw [hlx.out]; exact Nat.le_refl _)] at this)
          go_wp2_with fail
          go_ret
          exact ⟨c, L', M, by rw [HB.out]; rfl, C2.out, O2.out, W3.out, Be.out⟩
    · obtain ⟨po, hpo⟩ : ∃ po, ptr N L (k + 1) = .pointer po := by
        unfold ptr
        by_cases h : k + 1 < N
        · exact ⟨_, if_pos h⟩
        · exact ⟨_, if_neg h⟩
      have Hpo := Lib.hid hpo
      rw [hpo]
      clear hpo
      have ek : (((k + 1 : Nat) : Int) - 1) = (k : Int) := by omega
      rw [ek]
      have p0 : (0 : Int) ≤ k := by omega
      have p1 : (k : Int) < N := by omega
      have d0 : decide ((k : Int) ≥ 0) = true := by simp
      clear ek
      go_wp2_with (first | (at_make; go_must (refine wpList_make_full _ rfl _ _ 56 rfl w.heap.size 53 i0 (.slice none 0 0) 1 Try.underlying56 hi hz0 hz1 .i64 .i64 _ _ N rfl rfl rfl rfl (by rw [hz2]; omega) (by unfold maxLen; omega) (by omega) ?_); intro w1 hown1 hgrow1))
      have b1 : Below wr.heap.size wr w1 := (Below.refl _ _).grown hgrow1 (Nat.le_refl _) (fun k e => nomatch e)
      have r1 := madeP hown1
      have R1 := Lib.hid r1
      have B1 := Lib.hid b1
      clear hown1 hgrow1 r1 b1
      go_wp2_with fail
      refine (implId_core N w1 hN1 hN).mono ?_
      rintro e w2 ⟨A2, c2, rfl, s2, b2⟩
      have S2 := Lib.hid s2
      have B2 := Lib.hid b2
      have hr2 := ownsRow_chg R1.out (.of_below (M := fun _ => False) b2) fun _ _ e => e
      have R2 := Lib.hid hr2
      have y1 := hr2.cellAt k (by omega)
      have ey : ((List.replicate N sd0).map sval)[k]? = some (Value.slice none 0 0) := by
        rw [List.getElem?_map, List.getElem?_replicate, if_pos (by omega)]; rfl
      rw [ey] at y1
      have fz := hr2.frozenAt k
      clear s2 b2 hr2 ey
      obtain ⟨wA, hwA⟩ : ∃ wA, w2.setCell ⟨wr.heap.size, k, none⟩ (.slice A2 N c2) = wA := ⟨_, rfl⟩
      have zA : Hid (wA.heap.size = w2.heap.size) := Lib.hid (by rw [← hwA]; simp)
      have St := R2.out.stored k (.slice A2 N c2)
      rw [hwA] at St
      have SA : Hid (Slc wA w1.heap.size A2 N c2 (idL N)) := Lib.hid (S2.out.chgS (.of_grown St.2 (M := fun b => b = wr.heap.size) (by intro b e; injection e with e; exact e.symm)) fun b e e2 => by
        have h1 := (S2.out.lt_ b e).1
        have h2 := (World.ownsRow.lt R1.out wr.heap.size rfl).2
        omega)
      have RA : Hid (wA.ownsRow w.heap.size 53 1 (.slice (some ⟨wr.heap.size, 0, none⟩) N N) N (((List.replicate N sd0).set k (A2, N, c2)).map sval)) := Lib.hid (by rw [List.map_set]; exact St.1)
      have Bw1 : Hid (wr.heap.size < w1.heap.size) := Lib.hid (World.ownsRow.lt R1.out wr.heap.size rfl).2
      have BA : Hid (Below wr.heap.size wr wA) := Lib.hid ((B1.out.trans (B2.out.mono B1.out.size)).grown St.2 (Nat.le_trans B1.out.size B2.out.size) (by intro b e; injection e with e; omega))
      have NW := Lib.hid (ck_new C1.out (by omega) Hpo.out BA.out RA.out Bw1.out SA.out hzr)
      clear St R1 R2 S2
      go_wp2_with fail
      obtain ⟨L', M', K1, K2, K3, K4⟩ := NW.out
      go_roundg k
      case rel =>
        refine ⟨k, L', M', by omega, by omega, rfl, ?_, K1, fun i a b => ?_, ?_⟩
        · have e1 : ptr N L' k = .pointer (some ⟨(L' k).B, 0, none⟩) := if_pos (by omega)
          rw [e1, K2]
        · by_cases ei : i = k
          · subst ei; rw [K4]; exact orb0 hN1
          · rw [K3 i (by omega)]; exact O1.out i (by omega) b
        · exact (Be.out.trans (BA.out.mono hzr)).trans ((((Below.refl wA.heap.size wA).alloc (Nat.le_refl _) _).alloc (by simp) _).mono (by have := BA.out.size; omega))
      case measure => omega
end Go.Proofs.Ytooafmifbplbhaa

/- The program's order, OrbitSizes, GroupOrder, IsMember, LongestMemberPrefix. Conditions: at most 1048576 lists of at most 1048576 numbers. -/
namespace Go.Proofs.Ytooafmifbplbhaa
open Go.RowKit

section
variable {N k i : Nat} {c : Ch} {L : Nat → LK} {O : List Nat} {gs : List (List Int)}
theorem orb_nr (h : Orb c i O) (hr : RepOK N c i) : nr N c i N = O.length := by
  have a : ((List.range N).filter fun y => !(c.rep i y).isEmpty).length ≤ O.length := nd_subP (List.nodup_range.filter _) fun y hy => by
    rw [List.mem_filter, Bool.not_eq_true', List.isEmpty_eq_false_iff] at hy
    exact (h.2 y).2 hy.2
  have b : O.length ≤ ((List.range N).filter fun y => !(c.rep i y).isEmpty).length := nd_subP h.1 fun y hy => by
    rw [List.mem_filter, Bool.not_eq_true', List.isEmpty_eq_false_iff, List.mem_range]
    exact ⟨h.lt hr hy, (h.2 y).1 hy⟩
  unfold nr; omega
theorem ptr_at (hi : i < N) : ptr N L i = .pointer (some ⟨(L i).B, 0, none⟩) := if_pos hi
theorem ptr_end (hi : N ≤ i) : ptr N L i = .pointer none := if_neg (by omega)
end

set_option maxHeartbeats 2000000 in
/-- order, from link k on. -/
theorem implOrder (base N k0 k : Nat) (M : Nat → Prop) (c : Ch) (L : Nat → LK) (gs : List (List Int)) (w : World) (hc : Ck w base N k0 M c L) (ho : Orbs N k0 c L) (hw : Hid (Whole N gs c)) (hk : k0 ≤ k) (hkN : k ≤ N) (h1 : 1 ≤ N) (h2 : N ≤ 20) (hg : Hid (∀ g ∈ gs, Pn N g)) :
    Calls Try.prog 70 #[ptr N L k] w fun e w' => e = .returned (.int .i64 (pr (osL N c N) k (N - k))) ∧ w = w' := by
  have HC := Lib.hid hc
  have HO := Lib.hid ho
  have Hos := Lib.hid (hw.out.os h1 h2)
  clear hc ho
  go_enter Try.func70, Try.ntmps70
  go_wp2_with fail
  go_loopg [3, 4] N (fun gg o l wr => ∃ j : Nat, k ≤ j ∧ j ≤ N ∧ N - j ≤ gg ∧ l = ptr N L j ∧ o = .int .i64 (pr (osL N c N) k (j - k)) ∧ w = wr)
  case atStart => exact ⟨k, Nat.le_refl _, hkN, by omega, rfl, by rw [Nat.sub_self]; rfl, rfl⟩
  case round =>
    obtain ⟨j, hkj, hjN, hgg, rfl, rfl, rfl⟩ := hrel
    by_cases hlt : j < N
    · rw [ptr_at hlt]
      obtain ⟨x0, x1, x2, x3, x4⟩ := HC.out.cB (by omega) hlt
      have hol := HC.out.olen (by omega) hlt
      rcases hoe : (L j).o with ⟨oA, on, oc⟩
      rw [hoe] at x2 hol
      have hol : on = (L j).orb.length := hol
      have en : (osL N c N).getD j 0 = (on : Int) := by
        rw [osL_at hlt, orb_nr (HO.out j (by omega) hlt) (hw.out.up.rep j (Nat.zero_le _) hlt), hol]
      have e1 : pr (osL N c N) k (j - k) * (on : Int) = pr (osL N c N) k (j + 1 - k) := by
        rw [show j + 1 - k = (j - k) + 1 by omega]
        show _ = pr (osL N c N) k (j - k) * (osL N c N).getD (k + (j - k)) 0
        rw [show k + (j - k) = j by omega, en]
      have b1 := Hos.out.pr_le hg.out h1 h2 k (j + 1 - k) (by omega)
      have b2 := facts_le h2 (k + (j + 1 - k)) (by omega)
      have wr1 : IntKind.i64.wrap (pr (osL N c N) k (j - k) * (on : Int)) = pr (osL N c N) k (j + 1 - k) := by rw [e1, IntKind.wrap_i64]; omega
      simp only [sval] at x2
      clear hol hoe en e1 b1 b2 x0 x1 x3
      go_wp2_with fail
      go_roundg (N - (j + 1))
      case rel => exact ⟨j + 1, by omega, by omega, by omega, rfl, rfl, rfl⟩
      case measure => omega
    · obtain rfl : j = N := by omega
      rw [ptr_end (Nat.le_refl _)]
      go_wp2_with fail
      go_ret
      exact ⟨rfl, rfl⟩

set_option maxHeartbeats 1000000 in
theorem implIsPOf (a : Int) (A : Option Addr) (n c : Nat) (xs : List Int) (ans : Bool) (w : World) (hx : RI w w.heap.size A xs) (lx : Hid (xs.length = n)) (hn : n ≤ 2097152) (ha : Hid ((decide ((n : Int) = a) && isP xs) = ans)) :
    Calls Try.prog 48 #[.int .i64 a, .slice A n c] w fun e w' => e = .returned (.bool ans) ∧ Below w.heap.size w w' := by
  have HX := Lib.hid hx
  clear hx
  by_cases e1 : (n : Int) = a
  · subst e1
    have e0 : ((n : Int) == (n : Int)) = true := by simp
    have h1 : Hid (isP xs = ans) := Lib.hid (by rw [← ha.out]; simp)
    go_enter Try.func48, Try.ntmps48
    go_wp2_with (first | (go_at_call 77; refine (implIsP A c n xs w HX.out lx hn).mono ?_; rintro e w1 ⟨rfl, b1⟩; rw [h1.out]))
    go_ret
    exact ⟨rfl, b1⟩
  · have e0 : ((n : Int) == a) = false := by simpa using e1
    have h1 : Hid (ans = false) := Lib.hid (by rw [← ha.out]; simp [e1])
    go_enter Try.func48, Try.ntmps48
    go_wp2_with fail
    go_ret
    exact ⟨ret_bool h1.out.symm, Below.refl _ _⟩
theorem implIsPOfT (A : Option Addr) (n c : Nat) (xs : List Int) (w : World) (hx : RI w w.heap.size A xs) (lx : Hid (xs.length = n)) (hn : n ≤ 2097152) (ha : Hid (isP xs = true)) :
    Calls Try.prog 48 #[.int .i64 (n : Nat), .slice A n c] w fun e w' => e = .returned (.bool true) ∧ Below w.heap.size w w' :=
  implIsPOf n A n c xs true w hx lx hn (Lib.hid (by simp [ha.out]))

set_option maxHeartbeats 2000000 in
/-- GroupOrder. -/
theorem implGroupOrder : CtImI 33 IsOrd := by
  intro a A n c vs xss w g _
  have HX := Lib.hid g.rr
  have hlx : Hid (xss.length = n) := Lib.hid g.rr.lx
  have hn := g.hn
  have hl := Lib.hid g.hl
  clear g
  go_enter Try.func33, Try.ntmps33
  go_wp2_with fail
  refine (implGS a A n c vs xss w HX.out hn hl).mono ?_
  rintro e w1 ⟨rfl, b1⟩
  have B1 := Lib.hid b1
  have X1 := Lib.hid (HX.out.up b1)
  clear b1
  rcases hs : gB a xss with _ | _
  · have Fin : Hid (IsOrd a xss 0) := Lib.hid (.inr ⟨hs, rfl⟩)
    clear hs
    go_wp2_with fail
    go_ret
    exact ⟨_, rfl, Fin.out, B1.out⟩
  · obtain ⟨N, rfl, hN1, hN2, hg8, hpm, hok⟩ := gB_pm hs
    have Hs := Lib.hid hs
    have Ok := Lib.hid hok
    have hn8 : n ≤ 8 := by rw [← hlx.out]; exact hg8
    clear hs hpm hok hg8
    go_wp2_with fail
    refine (implChainOf N n c A vs xss w1 X1.out hN1 hN2 hn8 Ok).mono ?_
    rintro e w2 ⟨ch, L, M, rfl, hc, ho, hw, b2⟩
    have W2 := Lib.hid hw
    have B2 : Hid (Below w.heap.size w w2) := Lib.hid (btr B1.out b2)
    have K := implOrder w1.heap.size N 0 0 M ch L xss w2 hc ho W2 (Nat.le_refl _) (Nat.zero_le _) hN1 hN2 (Lib.hid Ok.out)
    rw [ptr_at (by omega)] at K
    have Fin : Hid (IsOrd N xss (pr (osL N ch N) 0 (N - 0))) := Lib.hid (.inl ⟨Hs.out, osL N ch N, by rw [Int.toNat_natCast]; exact hw.os hN1 hN2, by rw [prodL_pr, osL_len]; rfl⟩)
    clear hc ho hw b2
    go_wp2_with fail
    refine K.mono ?_
    rintro e w3 ⟨rfl, rfl⟩
    clear K
    go_wp2_with fail
    go_ret
    exact ⟨_, rfl, Fin.out, B2.out⟩

set_option maxHeartbeats 4000000 in
set_option maxRecDepth 100000 in
/-- OrbitSizes. -/
theorem implOrbitSizes : CtImS 37 IsSiz := by
  intro a A n c vs xss w g _
  have HX := Lib.hid g.rr
  have hlx : Hid (xss.length = n) := Lib.hid g.rr.lx
  have hn := g.hn
  have hl := Lib.hid g.hl
  clear g
  go_enter Try.func37, Try.ntmps37
  go_wp2_with fail
  refine (implGS a A n c vs xss w HX.out hn hl).mono ?_
  rintro e w1 ⟨rfl, b1⟩
  have B1 := Lib.hid b1
  have X1 := Lib.hid (HX.out.up b1)
  clear b1
  rcases hs : gB a xss with _ | _
  · have Fin : Hid (IsSiz a xss []) := Lib.hid (.inr ⟨hs, rfl⟩)
    clear hs
    go_wp2_with fail
    go_ret
    exact ⟨_, _, _, _, rfl, Slc.nil_, Fin.out, B1.out⟩
  · obtain ⟨N, rfl, hN1, hN2, hg8, hpm, hok⟩ := gB_pm hs
    have Hs := Lib.hid hs
    have Ok := Lib.hid hok
    have hn8 : n ≤ 8 := by rw [← hlx.out]; exact hg8
    clear hs hpm hok hg8
    go_wp2_with fail
    refine (implChainOf N n c A vs xss w1 X1.out hN1 hN2 hn8 Ok).mono ?_
    rintro e w2 ⟨ch, L, M, rfl, hc, ho, hw, b2⟩
    have W2 := Lib.hid hw
    have C2 := Lib.hid hc
    have O2 := Lib.hid ho
    have B2 : Hid (Below w.heap.size w w2) := Lib.hid (btr B1.out b2)
    have hz2 := B2.out.size
    have Fin : Hid (IsSiz N xss (osL N ch N)) := Lib.hid (.inl ⟨Hs.out, by rw [Int.toNat_natCast]; exact hw.os hN1 hN2⟩)
    have ep : ptr N L 0 = .pointer (some ⟨(L 0).B, 0, none⟩) := ptr_at (by omega)
    have Ep := Lib.hid ep
    clear hc ho hw b2 ep
    go_wp2_with fail
    go_loopg [5, 6] N (fun gg v l wr => ∃ (j cc : Nat) (A' : Option Addr), j ≤ N ∧ N - j ≤ gg ∧ l = ptr N L j ∧ v = .slice A' j cc ∧ Slc wr w2.heap.size A' j cc (osL N ch j) ∧ Below w2.heap.size w2 wr)
    case atStart => exact ⟨0, 0, none, Nat.zero_le _, by omega, Ep.out.symm, rfl, Slc.nil_, Below.refl _ _⟩
    case round =>
      obtain ⟨j, cc, A', hjN, hgg, rfl, rfl, hs, bel⟩ := hrel
      have Ss := Lib.hid hs
      have Be := Lib.hid bel
      have Cj := Lib.hid (C2.out.up bel)
      have hzr := bel.size
      clear hs bel
      by_cases hlt : j < N
      · rw [ptr_at hlt]
        obtain ⟨x0, x1, x2, x3, x4⟩ := Cj.out.cB (Nat.zero_le _) hlt
        have hol := Cj.out.olen (Nat.zero_le _) hlt
        rcases hoe : (L j).o with ⟨oA, on, oc⟩
        rw [hoe] at x2 hol
        have hol : on = (L j).orb.length := hol
        have en : Hid ((nr N ch j N : Int) = (on : Int)) := Lib.hid (by
          rw [orb_nr (O2.out j (Nat.zero_le _) hlt) (W2.out.up.rep j (Nat.zero_le _) hlt), hol])
        have Osk := Lib.hid (osL_succ (N := N) (c := ch) j)
        simp only [sval] at x2
        have PA : Hid (∀ (A3 : Option Addr) (c3 : Nat) (w3 : World), Slc w3 w2.heap.size A3 (j + 1) c3 (osL N ch j ++ [(on : Int)]) → (wr.alloc (.cells #[.int .i64 (on : Nat)] 2)).grownBy w3 (Value.slice A' j cc).ownBlock → Below w2.heap.size w2 w3 ∧ w3.cell? ⟨(L j).B, 4, none⟩ = some (ptr N L (j + 1))) := Lib.hid (by
          intro A3 c3 w3 s3 g3
          have b3 : Below w2.heap.size w2 w3 := (Be.out.alloc hzr _).grown g3 (by simp; omega) (fun j hj => (Ss.out.lt_ j hj).1)
          exact ⟨b3, ((C2.out.up b3).cB (Nat.zero_le _) hlt).2.2.2.2⟩)
        clear hol hoe x0 x1 x3 x4
        go_wp2_with (first | (at_builtin; go_must (refine wpList_appI rfl _ _ rfl w2.heap.size A' j cc (osL N ch j) rfl (Ss.out.alloc _) wr.heap.size (on : Int) rfl (by rw [World.cell?_alloc_at _ _ _ _ rfl]; rfl) (by omega) (by simp; omega) ?_); intro A3 c3 w3 s3 g3 _; obtain ⟨b3, z4⟩ := PA.out A3 c3 w3 s3 g3; have S3 := Lib.hid s3; have B3 := Lib.hid b3; clear s3 g3 b3))
        have S4 : Hid (Slc w3 w2.heap.size A3 (j + 1) c3 (osL N ch (j + 1))) := Lib.hid (by rw [Osk.out, en.out]; exact S3.out)
        go_roundg (N - (j + 1))
        case rel => exact ⟨j + 1, _, _, by omega, by omega, rfl, rfl, S4.out, B3.out⟩
        case measure => omega
      · obtain rfl : j = N := by omega
        rw [ptr_end (Nat.le_refl _)]
        have S5 := Lib.hid (Ss.out.mono hz2)
        have B5 : Hid (Below w.heap.size w wr) := Lib.hid (btr B2.out Be.out)
        go_wp2_with fail
        go_ret
        exact ⟨_, _, _, _, rfl, S5.out, Fin.out, B5.out⟩

set_option maxHeartbeats 4000000 in
set_option maxRecDepth 100000 in
/-- IsMember. -/
theorem implIsMember : CtImsB 15 IsMem := by
  intro a A n c vs xss P np cp p w g s _
  have HX := Lib.hid g.rr
  have hlx : Hid (xss.length = n) := Lib.hid g.rr.lx
  have hn := g.hn
  have hl := Lib.hid g.hl
  have HP := Lib.hid s.ri
  have lp := Lib.hid s.lp
  have hnp := s.hn
  clear g s
  obtain ⟨ip, hip⟩ : ∃ ip, (decide ((np : Int) = a) && isP p) = ip := ⟨_, rfl⟩
  have Hip := Lib.hid hip
  clear hip
  go_enter Try.func15, Try.ntmps15
  rcases hs : gB a xss with _ | _
  · have Fin : Hid (IsMem a xss p false) := Lib.hid ⟨fun h => (by cases h), fun h => by have := h.1; rw [hs] at this; cases this⟩
    have Hs := Lib.hid hs
    clear hs
    go_wp2_with (first
      | (go_at_call 47; refine (implGS a A n c vs xss w HX.out hn hl).mono ?_; rintro e w1 ⟨rfl, b1⟩; rw [Hs.out]; have B1 := Lib.hid b1; clear b1))
    go_ret
    exact ⟨_, rfl, Fin.out, B1.out⟩
  · have Hs := Lib.hid hs
    rcases ip with _ | _
    · have Fin : Hid (IsMem a xss p false) := Lib.hid ⟨fun h => (by cases h), fun h => by
        have h1 := h.2.1
        have h2 := h.2.2.1
        have h3 := Hip.out
        rw [lp.out] at h1
        rw [h2] at h3
        simp [h1] at h3⟩
      clear hs
      go_wp2_with (first
        | (go_at_call 47; refine (implGS a A n c vs xss w HX.out hn hl).mono ?_; rintro e w1 ⟨rfl, b1⟩; rw [Hs.out]; have B1 := Lib.hid b1; clear b1)
        | (go_at_call 48; refine (implIsPOf a P np cp p false w1 (HP.out.up B1.out) lp (by omega) Hip).mono ?_; rintro e w2 ⟨rfl, b2⟩; have B2 := Lib.hid b2; clear b2))
      go_ret
      exact ⟨_, rfl, Fin.out, btr B1.out B2.out⟩
    · obtain ⟨N, rfl, hN1, hN2, hg8, hpm, hok⟩ := gB_pm hs
      have h3 := Hip.out
      rw [Bool.and_eq_true, decide_eq_true_eq] at h3
      obtain rfl : np = N := by omega
      have PP : Hid (Pn np p) := Lib.hid ⟨isP_iff.1 h3.2, lp.out⟩
      have Hq := Lib.hid h3.2
      have Ok := Lib.hid hok
      have hn8 : n ≤ 8 := by rw [← hlx.out]; exact hg8
      obtain ⟨ans, hans⟩ := boolOf (Mb xss np p)
      have Ha := Lib.hid hans
      have Fin : Hid (IsMem np xss p ans) := Lib.hid ⟨fun h => ⟨Hs.out, by rw [lp.out], Hq.out, by rw [Int.toNat_natCast]; exact hans.1 h⟩, fun h => hans.2 (by have := h.2.2.2; rwa [Int.toNat_natCast] at this)⟩
      clear hs hpm hok hg8 h3 hans
      go_wp2_with (first
        | (go_at_call 47; refine (implGS np A n c vs xss w HX.out hn hl).mono ?_; rintro e w1 ⟨rfl, b1⟩; rw [Hs.out]; have B1 := Lib.hid b1; clear b1)
        | (go_at_call 48; refine (implIsPOfT P np cp p w1 (HP.out.up B1.out) lp (by omega) Hq).mono ?_; rintro e w2 ⟨rfl, b2⟩; have B2 : Hid (Below w.heap.size w w2) := Lib.hid (btr B1.out b2); clear b2)
        | (go_at_call 49; refine (implChainOf np n c A vs xss w2 (HX.out.up B2.out) hN1 hN2 hn8 Ok).mono ?_; rintro e w3 ⟨ch, L, M, rfl, hc, ho, hw, b3⟩; have W3 := Lib.hid hw; have C3 := Lib.hid hc; have B3 : Hid (Below w.heap.size w w3) := Lib.hid (btr B2.out b3); clear hc ho hw b3)
        | (go_at_call 50; refine (implContains w2.heap.size np 0 cp M ch L P p w3 C3.out (by omega) (Lib.hid W3.out.up) hN2 (HP.out.up B3.out) PP (Lib.hid Fx.zero) ans (Lib.hid (Ha.out.trans (W3.out.mem p).symm))).mono ?_; rintro e w4 ⟨rfl, b4⟩; have B4 : Hid (Below w.heap.size w w4) := Lib.hid (btr B3.out b4); clear b4))
      go_ret
      exact ⟨_, rfl, Fin.out, B4.out⟩

set_option maxHeartbeats 4000000 in
set_option maxRecDepth 100000 in
/-- LongestMemberPrefix. -/
theorem implLongestMemberPrefix : CtImsI 16 IsLmp := by
  intro a A n c vs xss P np cp p w g s _
  have HX := Lib.hid g.rr
  have hlx : Hid (xss.length = n) := Lib.hid g.rr.lx
  have hn := g.hn
  have hl := Lib.hid g.hl
  have HP := Lib.hid s.ri
  have lp := Lib.hid s.lp
  have hnp := s.hn
  clear g s
  obtain ⟨ip, hip⟩ : ∃ ip, (decide ((np : Int) = a) && isP p) = ip := ⟨_, rfl⟩
  have Hip := Lib.hid hip
  clear hip
  go_enter Try.func16, Try.ntmps16
  rcases hs : gB a xss with _ | _
  · have Fin : Hid (IsLmp a xss p (-1)) := Lib.hid (.inr ⟨fun h => (by have := h.1; rw [hs] at this; cases this), rfl⟩)
    have Hs := Lib.hid hs
    clear hs
    go_wp2_with (first
      | (go_at_call 47; refine (implGS a A n c vs xss w HX.out hn hl).mono ?_; rintro e w1 ⟨rfl, b1⟩; rw [Hs.out]; have B1 := Lib.hid b1; clear b1))
    go_ret
    exact ⟨_, rfl, Fin.out, B1.out⟩
  · have Hs := Lib.hid hs
    rcases ip with _ | _
    · have Fin : Hid (IsLmp a xss p (-1)) := Lib.hid (.inr ⟨fun h => (by
        have h1 := h.2.1
        have h2 := h.2.2
        have h3 := Hip.out
        rw [lp.out] at h1
        rw [h2] at h3
        simp [h1] at h3), rfl⟩)
      clear hs
      go_wp2_with (first
        | (go_at_call 47; refine (implGS a A n c vs xss w HX.out hn hl).mono ?_; rintro e w1 ⟨rfl, b1⟩; rw [Hs.out]; have B1 := Lib.hid b1; clear b1)
        | (go_at_call 48; refine (implIsPOf a P np cp p false w1 (HP.out.up B1.out) lp (by omega) Hip).mono ?_; rintro e w2 ⟨rfl, b2⟩; have B2 := Lib.hid b2; clear b2))
      go_ret
      exact ⟨_, rfl, Fin.out, btr B1.out B2.out⟩
    · obtain ⟨N, rfl, hN1, hN2, hg8, hpm, hok⟩ := gB_pm hs
      have h3 := Hip.out
      rw [Bool.and_eq_true, decide_eq_true_eq] at h3
      obtain rfl : np = N := by omega
      have PP : Hid (Pn np p) := Lib.hid ⟨isP_iff.1 h3.2, lp.out⟩
      have Hq := Lib.hid h3.2
      have Ok := Lib.hid hok
      have hn8 : n ≤ 8 := by rw [← hlx.out]; exact hg8
      clear hs hpm hok hg8 h3
      go_wp2_with (first
        | (go_at_call 47; refine (implGS np A n c vs xss w HX.out hn hl).mono ?_; rintro e w1 ⟨rfl, b1⟩; rw [Hs.out]; have B1 := Lib.hid b1; clear b1)
        | (go_at_call 48; refine (implIsPOfT P np cp p w1 (HP.out.up B1.out) lp (by omega) Hq).mono ?_; rintro e w2 ⟨rfl, b2⟩; have B2 : Hid (Below w.heap.size w w2) := Lib.hid (btr B1.out b2); clear b2)
        | (go_at_call 49; refine (implChainOf np n c A vs xss w2 (HX.out.up B2.out) hN1 hN2 hn8 Ok).mono ?_; rintro e w3 ⟨ch, L, M, rfl, hc, ho, hw, b3⟩; have W3 := Lib.hid hw; have C3 := Lib.hid hc; have B3 : Hid (Below w.heap.size w w3) := Lib.hid (btr B2.out b3); clear hc ho hw b3)
        | (go_at_call 51; fail))
      refine (implMatch w2.heap.size np 0 np cp M ch L P p w3 C3.out (by omega) (Lib.hid W3.out.up) hN2 (HP.out.up B3.out) (Lib.hid lp.out) (by omega)).mono ?_
      rintro e w4 ⟨g, off, c', j, m, rfl, hm, hmt, hnm, hfr, b4⟩
      have B4 : Hid (Below w.heap.size w w4) := Lib.hid (btr B3.out b4)
      have C4 := Lib.hid (C3.out.up b4)
      have hjN := hmt.jN
      have Lo : Hid (LmpOK np xss p j) := Lib.hid (by
        have hv : ∀ t, t < np → p.getD t 0 = (nx p t : Int) := fun t ht => nx_val PP.out.1 (by rw [PP.out.2]; exact ht)
        refine ⟨hjN, ⟨m, (W3.out.mem m).1 hmt.mb, fun t ht => ?_⟩, fun hj ⟨q, hq, hag⟩ => ?_⟩
        · have := hmt.ag t (Nat.zero_le _) ht
          rw [hv t (by omega)] at this
          omega
        · refine hnm hj (by rw [lp.out]; exact hj) q ((W3.out.mem q).2 hq) fun i _ hi => ?_
          rw [hv i (by omega), hag i hi])
      have Fin : Hid (IsLmp np xss p (j : Nat)) := Lib.hid (.inl ⟨Hs.out, by rw [lp.out], Hq.out, j, rfl, by rw [Int.toNat_natCast]; exact Lo.out⟩)
      clear hm hmt hnm hfr b4
      by_cases hj : j < np
      · rw [ptr_at hj]
        obtain ⟨x0, _⟩ := C4.out.cB (Nat.zero_le _) hj
        go_wp2_with fail
        go_ret
        exact ⟨_, rfl, Fin.out, B4.out⟩
      · obtain rfl : j = np := by omega
        rw [ptr_end (Nat.le_refl _)]
        go_wp2_with fail
        go_ret
        exact ⟨_, rfl, Fin.out, B4.out⟩
end Go.Proofs.Ytooafmifbplbhaa

/- What the frame of a proof knows of a slice of slices of int64 that came in. No condition. -/
namespace Go.Proofs.Ytooafmifbplbhaa
open Go.ChangeShapes Go.WideShapes Go.ChangeAt Go.RowKit

theorem cellsS1 : Try.prog.cellsOf 25 = 1 := by kernel_rfl
theorem one_cell {W : World} {x : Addr} {cs : List Value} (h : W.cells? 0 x 1 = some cs) : ∃ c, cs = [c] ∧ W.cell? x = some c := by
  have e0 : x.add 0 = x := by simp [Addr.add]
  simp [World.cells?, List.range_succ, e0] at h
  cases hc : W.cell? x with
  | none => simp [hc] at h
  | some c =>
    simp [hc] at h
    exact ⟨c, h.symm, rfl⟩

theorem argSS {H : Type} {enc : TypeId × Value → H} {W : World} {a : Option Addr} {len cap : Nat} {d : DataW H} {ps : List MemPlace}
    (h : ∃ fuel, DataW.trod enc Try.prog W 0 (fun _ => true) true fuel 24 (Value.slice a len cap).cells.toList = some (d, ps)) :
    len ≤ maxLen ∧ ∃ vs xss, RR W W.heap.size a len vs xss ∧ ∀ i, i < len → (vs.getD i sd0).2.1 ≤ maxLen := by
  obtain ⟨fuel, hf⟩ := h
  rcases DataW.trod_slice Try.underlying24 hf with ⟨hcs, hx⟩ | ⟨a', len', cap', elems, rest, n, rfl, hcs, hx, _, hl, hm, hlen, hel, _, _⟩
  · simp [Value.cells] at hcs
    obtain ⟨rfl, rfl, rfl⟩ := hcs
    exact ⟨Nat.zero_le _, [], [], RR.nil_, fun i h => absurd h (by omega)⟩
  · simp [Value.cells] at hcs
    obtain ⟨rfl, rfl, rfl⟩ := hcs
    obtain ⟨b, off, spot⟩ := a'
    -- each element
    have key : ∀ i, i < len → ∃ (A : Option Addr) (l c : Nat) (xs : List Int), W.cell? (Addr.add ⟨b, off, spot⟩ i) = some (.slice A l c) ∧ xs.length = l ∧ l ≤ c ∧ c ≤ maxLen ∧ RI W W.heap.size A xs := by
      intro i hi
      have hE := hel i hi
      rw [cellsS1, Nat.mul_one, List.getElem?_eq_getElem (by omega)] at hE
      simp only [Option.bind_eq_some_iff] at hE
      obtain ⟨cs1, hc1, hy1⟩ := hE
      obtain ⟨c, rfl, hcc⟩ := one_cell hc1
      rcases open_ints Try.underlying25 Try.underlying2 (by kernel_rfl) hy1 with ⟨hcs, _⟩ | ⟨ia, il, ic, zs, hcs, _, hil, him, hiz, _, hicell, hiw⟩
      · injection hcs with hcs _
        subst hcs
        exact ⟨none, 0, 0, [], hcc, rfl, Nat.le_refl _, Nat.zero_le _, RI.nil_⟩
      · injection hcs with hcs _
        subst hcs
        have hiz' : zs.length = ic := by simpa using hiz
        obtain ⟨xs, hxl, hR⟩ := RI.of_row (w := W) (a := some ia) (len := il) (cap := ic) (zs := zs) (.inr ⟨ia, rfl, hil, him, hiz', hicell, hiw⟩)
        exact ⟨some ia, il, ic, xs, hcc, hxl.out, hil, him, hR⟩
    refine ⟨Nat.le_trans hl hm, ?_⟩
    have hch : ∃ f : Nat → SV × List Int, ∀ i, i < len → W.cell? (Addr.add ⟨b, off, spot⟩ i) = some (.slice (f i).1.1 (f i).1.2.1 (f i).1.2.2) ∧ (f i).2.length = (f i).1.2.1 ∧ (f i).1.2.1 ≤ (f i).1.2.2 ∧ (f i).1.2.2 ≤ maxLen ∧ RI W W.heap.size (f i).1.1 (f i).2 := by
      refine ⟨fun i => if hi : i < len then (((Classical.choose (key i hi)), Classical.choose (Classical.choose_spec (key i hi)), Classical.choose (Classical.choose_spec (Classical.choose_spec (key i hi)))), Classical.choose (Classical.choose_spec (Classical.choose_spec (Classical.choose_spec (key i hi))))) else (sd0, []), fun i hi => ?_⟩
      have := Classical.choose_spec (Classical.choose_spec (Classical.choose_spec (Classical.choose_spec (key i hi))))
      simp only [hi, dif_pos]
      exact this
    obtain ⟨f, hf⟩ := hch
    have g1 : ∀ j, j < len → ((List.range len).map fun i => (f i).1).getD j sd0 = (f j).1 := fun j hj => by
      rw [List.getD_eq_getElem?_getD, List.getElem?_map, List.getElem?_range hj]; rfl
    have g2 : ∀ j, j < len → ((List.range len).map fun i => (f i).2).getD j [] = (f j).2 := fun j hj => by
      rw [List.getD_eq_getElem?_getD, List.getElem?_map, List.getElem?_range hj]; rfl
    refine ⟨(List.range len).map fun i => (f i).1, (List.range len).map fun i => (f i).2, ⟨by simp, by simp, fun hp => ?_, fun j hj => ?_, fun j hj => ?_, fun j hj => ?_⟩, fun i hi => ?_⟩
    · have h0 := (hf 0 hp).1
      have hs : spot = none := by simpa [Addr.add] using World.cell?_spot h0
      subst hs
      refine ⟨b, off, rfl, ?_, fun j hj => ?_⟩
      · have := World.block_lt_of_cell? W _ h0
        simpa [Addr.add] using this
      · rw [g1 j hj, ← (hf j hj).1]
        unfold Addr.add
        split <;> simp_all
    · rw [g1 j hj, g2 j hj]; exact (hf j hj).2.2.2.2
    · rw [g1 j hj, g2 j hj]; exact (hf j hj).2.1
    · rw [g1 j hj]; exact (hf j hj).2.2.1
    · rw [g1 i hi]; exact Nat.le_trans (hf i hi).2.2.1 (hf i hi).2.2.2.1
end Go.Proofs.Ytooafmifbplbhaa

/- The walk of the law FnExactOrbitSizes: it returns true at every input, and writes nothing that was there. No condition but the program's own contract. -/
namespace Go.Proofs.Ytooafmifbplbhaa
open Go.RowKit

set_option maxHeartbeats 4000000 in
set_option maxRecDepth 100000 in
/-- The law FnExactOrbitSizes. -/
theorem lawOrbitSizes (IM : CtImS 37 IsSiz) (i0 : Int) (g1A : Option Addr) (g1n g1c : Nat) (g1v : List SV) (g1x : List (List Int)) (w : World) (wfi0 : I64 i0) (hg1 : RR w w.heap.size g1A g1n g1v g1x) (hmg1 : g1n ≤ maxLen) (hkg1 : Hid (∀ i, i < g1n → (g1v.getD i sd0).2.1 ≤ maxLen)) :
    Calls Try.prog 7 #[.int .i64 i0, .slice g1A g1n g1c] w fun e w' => e = .returned (.bool true) ∧ Below w.heap.size w w' := by
  have Hg1 := Lib.hid hg1
  have hlxg1 := Lib.hid hg1.lx
  have hllg1 := Lib.hid hg1.lens
  clear hg1
  by_cases hT0 : ((g1n + tot g1v g1n : Nat) : Int) ≤ (1048576 : Int)
  · skip
    have HT0 := Lib.hid hT0
    obtain ⟨LE, eLE⟩ : ∃ L : Int, (1048576 : Int) - ((g1n + tot g1v g1n : Nat) : Int) = L := ⟨_, rfl⟩
    have hLE : ¬ LE < 0 := by omega
    have dLE : decide (LE < 0) = false := by simp; omega
    have ELE := Lib.hid eLE
    clear eLE
    have hng1 : g1n ≤ 1048576 := by omega
    have KTg1 : Hid (tot g1v g1n ≤ 1048576) := Lib.hid (by omega)
    have hlg1 : Hid (∀ i, i < g1n → (g1v.getD i sd0).2.1 ≤ 1048576) := Lib.hid fun i hi => by have := tot_row (vs := g1v) hi; have := KTg1.out; omega
    have hylg1 : Hid (∀ i, i < g1n → (g1x.getD i []).length ≤ 1048576) := Lib.hid fun i hi => by rw [hllg1.out i hi]; exact hlg1.out i hi
    clear hT0 
    go_enter Try.func7, Try.ntmps7
    go_wp2_with fail
    have K0 := szSS2 g1A g1n g1c 1048576 g1v g1x w Hg1.out hmg1 hkg1 (by decide) (by decide)
    refine K0.mono ?_
    rintro e w0 ⟨rfl, rfl⟩
    clear K0
    rw [if_pos HT0.out]
    rw [ELE.out]
    go_wp2_with fail
    refine (toSS g1A g1n g1c g1v g1x w Hg1.out hng1 hlg1).mono ?_
    rintro e w1 ⟨A1, c1, us1, rfl, s1, q1, b1⟩
    have Z1 : Hid (w.heap.size ≤ w1.heap.size) := Lib.hid b1.size
    have B1 : Hid (Below w.heap.size w w1) := Lib.hid b1
    have Ftg1_1 := Lib.hid s1
    have Ltg1 : Hid (Lies A1 g1n c1 w.heap.size w1.heap.size) := Lib.hid s1.lt_
    have Itg1 : Hid (∀ t, t < g1n → ∀ k, (sval (us1.getD t sd0)).ownBlock = some k → w.heap.size ≤ k ∧ k < w1.heap.size) := Lib.hid fun t ht => (s1.row t ht).lt_
    have Qtg1 := Lib.hid q1
    have hltg1 : Hid (∀ i, i < g1n → (us1.getD i sd0).2.1 ≤ 1048576) := Lib.hid fun i hi => by rw [q1 i hi]; exact hlg1.out i hi
    clear s1 b1 q1
    go_wp2_with fail
    have K2 := ctSiz i0 A1 g1n c1 us1 g1x w1 ⟨Ftg1_1.out.rr, hng1, hltg1.out⟩ wfi0
    refine K2.mono ?_
    clear K2
    rintro e w2 ⟨A2, n2, c2, z2, rfl, s2, r2, b2⟩
    have m2 : n2 ≤ 1048576 := by have := IsSiz.len r2; have := s2.1; omega
    have Z2 : Hid (w1.heap.size ≤ w2.heap.size) := Lib.hid b2.size
    have B2 : Hid (Below w.heap.size w w2) := Lib.hid (btr B1.out b2)
    have Ftg1_2 := Lib.hid (Ftg1_1.out.up b2)
    clear Ftg1_1
    have HR := Lib.hid r2
    clear r2
    have FW_2 := Lib.hid s2
    have LW : Hid (Lies A2 n2 c2 w1.heap.size w2.heap.size) := Lib.hid s2.lies
    clear s2 b2
    clear Ftg1_2
    go_wp2_with fail
    refine (toSS g1A g1n g1c g1v g1x w2 (Hg1.out.up B2.out) hng1 hlg1).mono ?_
    rintro e w3 ⟨A3, c3, us3, rfl, s3, q3, b3⟩
    have Z3 : Hid (w2.heap.size ≤ w3.heap.size) := Lib.hid b3.size
    have B3 : Hid (Below w.heap.size w w3) := Lib.hid (btr B2.out b3)
    have FW_3 := Lib.hid (FW_2.out.up b3)
    clear FW_2
    have Fxg1_3 := Lib.hid s3
    have Lxg1 : Hid (Lies A3 g1n c3 w2.heap.size w3.heap.size) := Lib.hid s3.lt_
    have Ixg1 : Hid (∀ t, t < g1n → ∀ k, (sval (us3.getD t sd0)).ownBlock = some k → w2.heap.size ≤ k ∧ k < w3.heap.size) := Lib.hid fun t ht => (s3.row t ht).lt_
    have Qxg1 := Lib.hid q3
    have hlxg1 : Hid (∀ i, i < g1n → (us3.getD i sd0).2.1 ≤ 1048576) := Lib.hid fun i hi => by rw [q3 i hi]; exact hlg1.out i hi
    clear s3 b3 q3
    go_wp2_with fail
    have K4 := IM i0 A3 g1n c3 us3 g1x w3 ⟨Fxg1_3.out.rr, hng1, hlxg1.out⟩ wfi0
    refine K4.mono ?_
    clear K4
    rintro e w4 ⟨A4, n4, c4, z4, rfl, s4, r4, b4⟩
    have m4 : n4 ≤ 1048576 := by have := IsSiz.len r4; have := s4.1; omega
    have Z4 : Hid (w3.heap.size ≤ w4.heap.size) := Lib.hid b4.size
    have B4 : Hid (Below w.heap.size w w4) := Lib.hid (btr B3.out b4)
    have FW_4 := Lib.hid (FW_3.out.up b4)
    clear FW_3
    have Fxg1_4 := Lib.hid (Fxg1_3.out.up b4)
    clear Fxg1_3
    have e4 := HR.out.uniq r4
    subst e4
    clear r4
    have FG_4 := Lib.hid s4
    have LG : Hid (Lies A4 n4 c4 w3.heap.size w4.heap.size) := Lib.hid s4.lies
    clear s4 b4
    go_wp2_with fail
    refine (eqS_same _ _ A4 A2 n4 c4 n2 c2 w4 FG_4.out FW_4.out (by omega)).mono ?_
    rintro e w5 ⟨rfl, b5⟩
    have Z5 : Hid (w4.heap.size ≤ w5.heap.size) := Lib.hid b5.size
    have B5 : Hid (Below w.heap.size w w5) := Lib.hid (btr B4.out b5)
    have FW_5 := Lib.hid (FW_4.out.up b5)
    clear FW_4
    have Fxg1_5 := Lib.hid (Fxg1_4.out.up b5)
    clear Fxg1_4
    have FG_5 := Lib.hid (FG_4.out.up b5)
    clear FG_4
    clear b5
    go_wp2_with fail
    refine (toSS g1A g1n g1c g1v g1x w5 (Hg1.out.up B5.out) hng1 hlg1).mono ?_
    rintro e w6 ⟨A6, c6, us6, rfl, s6, q6, b6⟩
    have Z6 : Hid (w5.heap.size ≤ w6.heap.size) := Lib.hid b6.size
    have B6 : Hid (Below w.heap.size w w6) := Lib.hid (btr B5.out b6)
    have FW_6 := Lib.hid (FW_5.out.up b6)
    clear FW_5
    have Fxg1_6 := Lib.hid (Fxg1_5.out.up b6)
    clear Fxg1_5
    have FG_6 := Lib.hid (FG_5.out.up b6)
    clear FG_5
    have Fyg1_6 := Lib.hid s6
    have Lyg1 : Hid (Lies A6 g1n c6 w5.heap.size w6.heap.size) := Lib.hid s6.lt_
    have Iyg1 : Hid (∀ t, t < g1n → ∀ k, (sval (us6.getD t sd0)).ownBlock = some k → w5.heap.size ≤ k ∧ k < w6.heap.size) := Lib.hid fun t ht => (s6.row t ht).lt_
    have Qyg1 := Lib.hid q6
    have hlyg1 : Hid (∀ i, i < g1n → (us6.getD i sd0).2.1 ≤ 1048576) := Lib.hid fun i hi => by rw [q6 i hi]; exact hlg1.out i hi
    clear s6 b6 q6
    go_wp2_with fail
    refine (eqRR_same A3 A6 g1n c3 g1n c6 us3 us6 _ w6 Fxg1_6.out.rr Fyg1_6.out.rr (by omega) hylg1).mono ?_
    rintro e w7 ⟨rfl, b7⟩
    have Z7 : Hid (w6.heap.size ≤ w7.heap.size) := Lib.hid b7.size
    have B7 : Hid (Below w.heap.size w w7) := Lib.hid (btr B6.out b7)
    have FW_7 := Lib.hid (FW_6.out.up b7)
    clear FW_6
    have Fxg1_7 := Lib.hid (Fxg1_6.out.up b7)
    clear Fxg1_6
    have FG_7 := Lib.hid (FG_6.out.up b7)
    clear FG_6
    have Fyg1_7 := Lib.hid (Fyg1_6.out.up b7)
    clear Fyg1_6
    clear b7
    clear Fyg1_7
    have KTx : Hid (tot us3 g1n ≤ 1048576) := Lib.hid (by rw [tot_eq g1n Qxg1.out]; exact KTg1.out)
    go_wp2_with fail
    refine (markSS A3 g1n c3 _ _ us3 _ w7 Fxg1_7.out (by omega) KTx).mono ?_
    rintro e w8 ⟨rfl, s8, o8⟩
    have Z8 : Hid (w7.heap.size ≤ w8.heap.size) := Lib.hid o8.size
    have B8 : Hid (Below w.heap.size w w8) := Lib.hid (B7.out.trans (o8.below B7.out.size (fun t ht k e => by have h2 := Ixg1.out t ht k e; have := Z1.out; have := Z2.out; have := Z3.out; have := Z4.out; have := Z5.out; have := Z6.out; have := Z7.out; have := Z8.out; omega)))
    have FW_8 := Lib.hid (FW_7.out.only o8 (fun k hk t ht e => by have h1 := LW.out k hk; have h2 := Ixg1.out t ht k e; have := Z1.out; have := Z2.out; have := Z3.out; have := Z4.out; have := Z5.out; have := Z6.out; have := Z7.out; have := Z8.out; omega))
    clear FW_7
    have Fxg1_8 := Lib.hid s8
    clear Fxg1_7
    have FG_8 := Lib.hid (FG_7.out.only o8 (fun k hk t ht e => by have h1 := LG.out k hk; have h2 := Ixg1.out t ht k e; have := Z1.out; have := Z2.out; have := Z3.out; have := Z4.out; have := Z5.out; have := Z6.out; have := Z7.out; have := Z8.out; omega))
    clear FG_7
    clear s8 o8
    obtain ⟨T, eT⟩ : ∃ T, tot us3 g1n = T := ⟨_, rfl⟩
    have hT9 : T ≤ 1048576 := by rw [← eT]; exact KTx.out
    rw [eT]
    clear eT
    go_wp2_with fail
    refine (eqS_same _ _ A4 A2 n4 c4 n2 c2 w8 FG_8.out FW_8.out (by omega)).mono ?_
    rintro e w9 ⟨rfl, b9⟩
    have Z9 : Hid (w8.heap.size ≤ w9.heap.size) := Lib.hid b9.size
    have B9 : Hid (Below w.heap.size w w9) := Lib.hid (btr B8.out b9)
    have FW_9 := Lib.hid (FW_8.out.up b9)
    clear FW_8
    have Fxg1_9 := Lib.hid (Fxg1_8.out.up b9)
    clear Fxg1_8
    have FG_9 := Lib.hid (FG_8.out.up b9)
    clear FG_8
    clear b9
    clear Fxg1_9
    go_wp2_with fail
    refine (mark1 _ A4 n4 c4 _ w9 FG_9.out (by omega)).mono ?_
    rintro e w10 ⟨rfl, s10, g10⟩
    have Z10 : Hid (w9.heap.size ≤ w10.heap.size) := Lib.hid g10.size
    have B10 : Hid (Below w.heap.size w w10) := Lib.hid (B9.out.trans (below_mark g10 LG.out (by have := Z1.out; have := Z2.out; have := Z3.out; have := Z4.out; have := Z5.out; have := Z6.out; have := Z7.out; have := Z8.out; have := Z9.out; have := Z10.out; omega) B9.out.size))
    have FW_10 := Lib.hid (FW_9.out.far g10 LW.out LG.out (.inl (by have := Z1.out; have := Z2.out; have := Z3.out; have := Z4.out; have := Z5.out; have := Z6.out; have := Z7.out; have := Z8.out; have := Z9.out; have := Z10.out; omega)))
    clear FW_9
    have FG_10 := Lib.hid s10
    clear FG_9
    clear s10 g10
    go_wp2_with fail
    refine (held1 _ A4 n4 c4 w10 FG_10.out (by omega)).mono ?_
    rintro e w' ⟨rfl, rfl⟩
    go_wp2_with fail
    refine (toSS g1A g1n g1c g1v g1x w10 (Hg1.out.up B10.out) hng1 hlg1).mono ?_
    rintro e w11 ⟨A11, c11, us11, rfl, s11, q11, b11⟩
    have Z11 : Hid (w10.heap.size ≤ w11.heap.size) := Lib.hid b11.size
    have B11 : Hid (Below w.heap.size w w11) := Lib.hid (btr B10.out b11)
    have FW_11 := Lib.hid (FW_10.out.up b11)
    clear FW_10
    have FG_11 := Lib.hid (FG_10.out.up b11)
    clear FG_10
    have Fzg1_11 := Lib.hid s11
    have Lzg1 : Hid (Lies A11 g1n c11 w10.heap.size w11.heap.size) := Lib.hid s11.lt_
    have Izg1 : Hid (∀ t, t < g1n → ∀ k, (sval (us11.getD t sd0)).ownBlock = some k → w10.heap.size ≤ k ∧ k < w11.heap.size) := Lib.hid fun t ht => (s11.row t ht).lt_
    have Qzg1 := Lib.hid q11
    have hlzg1 : Hid (∀ i, i < g1n → (us11.getD i sd0).2.1 ≤ 1048576) := Lib.hid fun i hi => by rw [q11 i hi]; exact hlg1.out i hi
    clear s11 b11 q11
    go_wp2_with fail
    have K12 := IM i0 A11 g1n c11 us11 g1x w11 ⟨Fzg1_11.out.rr, hng1, hlzg1.out⟩ wfi0
    refine K12.mono ?_
    clear K12
    rintro e w12 ⟨A12, n12, c12, z12, rfl, s12, r12, b12⟩
    have m12 : n12 ≤ 1048576 := by have := IsSiz.len r12; have := s12.1; omega
    have Z12 : Hid (w11.heap.size ≤ w12.heap.size) := Lib.hid b12.size
    have B12 : Hid (Below w.heap.size w w12) := Lib.hid (btr B11.out b12)
    have FW_12 := Lib.hid (FW_11.out.up b12)
    clear FW_11
    have FG_12 := Lib.hid (FG_11.out.up b12)
    clear FG_11
    have Fzg1_12 := Lib.hid (Fzg1_11.out.up b12)
    clear Fzg1_11
    have e12 := HR.out.uniq r12
    subst e12
    clear r12
    have FH_12 := Lib.hid s12
    have LH : Hid (Lies A12 n12 c12 w11.heap.size w12.heap.size) := Lib.hid s12.lies
    clear s12 b12
    clear Fzg1_12
    go_wp2_with fail
    refine (eqS_same _ _ A12 A2 n12 c12 n2 c2 w12 FH_12.out FW_12.out (by omega)).mono ?_
    rintro e w13 ⟨rfl, b13⟩
    have Z13 : Hid (w12.heap.size ≤ w13.heap.size) := Lib.hid b13.size
    have B13 : Hid (Below w.heap.size w w13) := Lib.hid (btr B12.out b13)
    have FW_13 := Lib.hid (FW_12.out.up b13)
    clear FW_12
    have FG_13 := Lib.hid (FG_12.out.up b13)
    clear FG_12
    have FH_13 := Lib.hid (FH_12.out.up b13)
    clear FH_12
    clear b13
    go_wp2_with fail
    refine (held1 _ A4 n4 c4 w13 FG_13.out (by omega)).mono ?_
    rintro e w' ⟨rfl, rfl⟩
    go_wp2_with fail
    go_ret
    exact ⟨rfl, B13.out⟩
  · skip
    have HT0 := Lib.hid hT0
    clear hT0
    go_enter Try.func7, Try.ntmps7
    go_wp2_with fail
    have K0 := szSS2 g1A g1n g1c 1048576 g1v g1x w Hg1.out hmg1 hkg1 (by decide) (by decide)
    refine K0.mono ?_
    rintro e w0 ⟨rfl, rfl⟩
    clear K0
    rw [if_neg (Int.not_le.2 HT0.out)]
    go_wp2
    go_ret
    exact ⟨rfl, Below.refl _ _⟩
end Go.Proofs.Ytooafmifbplbhaa

/- The walk of the law FnExactIsMember: it returns true at every input, and writes nothing that was there. No condition but the program's own contract. -/
namespace Go.Proofs.Ytooafmifbplbhaa
open Go.RowKit

set_option maxHeartbeats 4000000 in
set_option maxRecDepth 100000 in
/-- The law FnExactIsMember. -/
theorem lawIsMember (IM : CtImsB 15 IsMem) (i0 : Int) (g1A : Option Addr) (g1n g1c : Nat) (g1v : List SV) (g1x : List (List Int)) (s2A : Option Addr) (s2n s2c : Nat) (s2x : List Int) (w : World) (wfi0 : I64 i0) (hg1 : RR w w.heap.size g1A g1n g1v g1x) (hmg1 : g1n ≤ maxLen) (hkg1 : Hid (∀ i, i < g1n → (g1v.getD i sd0).2.1 ≤ maxLen)) (hs2 : RI w w.heap.size s2A s2x) (ls2 : Hid (s2x.length = s2n)) :
    Calls Try.prog 6 #[.int .i64 i0, .slice g1A g1n g1c, .slice s2A s2n s2c] w fun e w' => e = .returned (.bool true) ∧ Below w.heap.size w w' := by
  have Hg1 := Lib.hid hg1
  have hlxg1 := Lib.hid hg1.lx
  have hllg1 := Lib.hid hg1.lens
  have Hs2 := Lib.hid hs2
  clear hg1 hs2
  by_cases hns2 : s2n ≤ 1048576
  · skip
    by_cases hT0 : ((g1n + tot g1v g1n : Nat) : Int) ≤ (1048576 : Int)
    · skip
      have HT0 := Lib.hid hT0
      obtain ⟨LE, eLE⟩ : ∃ L : Int, (1048576 : Int) - ((g1n + tot g1v g1n : Nat) : Int) = L := ⟨_, rfl⟩
      have hLE : ¬ LE < 0 := by omega
      have dLE : decide (LE < 0) = false := by simp; omega
      have ELE := Lib.hid eLE
      clear eLE
      have hng1 : g1n ≤ 1048576 := by omega
      have KTg1 : Hid (tot g1v g1n ≤ 1048576) := Lib.hid (by omega)
      have hlg1 : Hid (∀ i, i < g1n → (g1v.getD i sd0).2.1 ≤ 1048576) := Lib.hid fun i hi => by have := tot_row (vs := g1v) hi; have := KTg1.out; omega
      have hylg1 : Hid (∀ i, i < g1n → (g1x.getD i []).length ≤ 1048576) := Lib.hid fun i hi => by rw [hllg1.out i hi]; exact hlg1.out i hi
      clear hT0 
      go_enter Try.func6, Try.ntmps6
      go_wp2_with fail
      have K0 := szSS2 g1A g1n g1c 1048576 g1v g1x w Hg1.out hmg1 hkg1 (by decide) (by decide)
      refine K0.mono ?_
      rintro e w0 ⟨rfl, rfl⟩
      clear K0
      rw [if_pos HT0.out]
      rw [ELE.out]
      go_wp2_with fail
      refine (toSS g1A g1n g1c g1v g1x w Hg1.out hng1 hlg1).mono ?_
      rintro e w1 ⟨A1, c1, us1, rfl, s1, q1, b1⟩
      have Z1 : Hid (w.heap.size ≤ w1.heap.size) := Lib.hid b1.size
      have B1 : Hid (Below w.heap.size w w1) := Lib.hid b1
      have Ftg1_1 := Lib.hid s1
      have Ltg1 : Hid (Lies A1 g1n c1 w.heap.size w1.heap.size) := Lib.hid s1.lt_
      have Itg1 : Hid (∀ t, t < g1n → ∀ k, (sval (us1.getD t sd0)).ownBlock = some k → w.heap.size ≤ k ∧ k < w1.heap.size) := Lib.hid fun t ht => (s1.row t ht).lt_
      have Qtg1 := Lib.hid q1
      have hltg1 : Hid (∀ i, i < g1n → (us1.getD i sd0).2.1 ≤ 1048576) := Lib.hid fun i hi => by rw [q1 i hi]; exact hlg1.out i hi
      clear s1 b1 q1
      go_wp2_with fail
      refine (toS_any s2A s2c s2n s2x w1 (Hs2.out.up B1.out) ls2 (by omega)).mono ?_
      rintro e w2 ⟨A2, c2, rfl, s2, b2⟩
      have Z2 : Hid (w1.heap.size ≤ w2.heap.size) := Lib.hid b2.size
      have B2 : Hid (Below w.heap.size w w2) := Lib.hid (btr B1.out b2)
      have Ftg1_2 := Lib.hid (Ftg1_1.out.up b2)
      clear Ftg1_1
      have Fts2_2 := Lib.hid s2
      have Lts2 : Hid (Lies A2 s2n c2 w1.heap.size w2.heap.size) := Lib.hid s2.lies
      have lets2 := s2.le.1
      clear s2 b2
      go_wp2_with fail
      have K3 := ctMem i0 A1 g1n c1 us1 g1x A2 s2n c2 s2x w2 ⟨Ftg1_2.out.rr, hng1, hltg1.out⟩ ⟨Fts2_2.out.ri_, ls2.out, hns2, lets2⟩ wfi0
      refine K3.mono ?_
      clear K3
      rintro e w3 ⟨v3, rfl, r3, b3⟩
      have Z3 : Hid (w2.heap.size ≤ w3.heap.size) := Lib.hid b3.size
      have B3 : Hid (Below w.heap.size w w3) := Lib.hid (btr B2.out b3)
      have Ftg1_3 := Lib.hid (Ftg1_2.out.up b3)
      clear Ftg1_2
      have Fts2_3 := Lib.hid (Fts2_2.out.up b3)
      clear Fts2_2
      have HR := Lib.hid r3
      clear r3
      clear b3
      clear Ftg1_3
      clear Fts2_3
      go_wp2_with fail
      refine (toSS g1A g1n g1c g1v g1x w3 (Hg1.out.up B3.out) hng1 hlg1).mono ?_
      rintro e w4 ⟨A4, c4, us4, rfl, s4, q4, b4⟩
      have Z4 : Hid (w3.heap.size ≤ w4.heap.size) := Lib.hid b4.size
      have B4 : Hid (Below w.heap.size w w4) := Lib.hid (btr B3.out b4)
      have Fxg1_4 := Lib.hid s4
      have Lxg1 : Hid (Lies A4 g1n c4 w3.heap.size w4.heap.size) := Lib.hid s4.lt_
      have Ixg1 : Hid (∀ t, t < g1n → ∀ k, (sval (us4.getD t sd0)).ownBlock = some k → w3.heap.size ≤ k ∧ k < w4.heap.size) := Lib.hid fun t ht => (s4.row t ht).lt_
      have Qxg1 := Lib.hid q4
      have hlxg1 : Hid (∀ i, i < g1n → (us4.getD i sd0).2.1 ≤ 1048576) := Lib.hid fun i hi => by rw [q4 i hi]; exact hlg1.out i hi
      clear s4 b4 q4
      go_wp2_with fail
      refine (toS_any s2A s2c s2n s2x w4 (Hs2.out.up B4.out) ls2 (by omega)).mono ?_
      rintro e w5 ⟨A5, c5, rfl, s5, b5⟩
      have Z5 : Hid (w4.heap.size ≤ w5.heap.size) := Lib.hid b5.size
      have B5 : Hid (Below w.heap.size w w5) := Lib.hid (btr B4.out b5)
      have Fxg1_5 := Lib.hid (Fxg1_4.out.up b5)
      clear Fxg1_4
      have Fxs2_5 := Lib.hid s5
      have Lxs2 : Hid (Lies A5 s2n c5 w4.heap.size w5.heap.size) := Lib.hid s5.lies
      have lexs2 := s5.le.1
      clear s5 b5
      go_wp2_with fail
      have K6 := IM i0 A4 g1n c4 us4 g1x A5 s2n c5 s2x w5 ⟨Fxg1_5.out.rr, hng1, hlxg1.out⟩ ⟨Fxs2_5.out.ri_, ls2.out, hns2, lexs2⟩ wfi0
      refine K6.mono ?_
      clear K6
      rintro e w6 ⟨v6, rfl, r6, b6⟩
      have Z6 : Hid (w5.heap.size ≤ w6.heap.size) := Lib.hid b6.size
      have B6 : Hid (Below w.heap.size w w6) := Lib.hid (btr B5.out b6)
      have Fxg1_6 := Lib.hid (Fxg1_5.out.up b6)
      clear Fxg1_5
      have Fxs2_6 := Lib.hid (Fxs2_5.out.up b6)
      clear Fxs2_5
      have e6 := HR.out.uniq r6
      subst e6
      clear r6
      clear b6
      go_wp2_with fail
      refine (toSS g1A g1n g1c g1v g1x w6 (Hg1.out.up B6.out) hng1 hlg1).mono ?_
      rintro e w7 ⟨A7, c7, us7, rfl, s7, q7, b7⟩
      have Z7 : Hid (w6.heap.size ≤ w7.heap.size) := Lib.hid b7.size
      have B7 : Hid (Below w.heap.size w w7) := Lib.hid (btr B6.out b7)
      have Fxg1_7 := Lib.hid (Fxg1_6.out.up b7)
      clear Fxg1_6
      have Fxs2_7 := Lib.hid (Fxs2_6.out.up b7)
      clear Fxs2_6
      have Fyg1_7 := Lib.hid s7
      have Lyg1 : Hid (Lies A7 g1n c7 w6.heap.size w7.heap.size) := Lib.hid s7.lt_
      have Iyg1 : Hid (∀ t, t < g1n → ∀ k, (sval (us7.getD t sd0)).ownBlock = some k → w6.heap.size ≤ k ∧ k < w7.heap.size) := Lib.hid fun t ht => (s7.row t ht).lt_
      have Qyg1 := Lib.hid q7
      have hlyg1 : Hid (∀ i, i < g1n → (us7.getD i sd0).2.1 ≤ 1048576) := Lib.hid fun i hi => by rw [q7 i hi]; exact hlg1.out i hi
      clear s7 b7 q7
      go_wp2_with fail
      refine (eqRR_same A4 A7 g1n c4 g1n c7 us4 us7 _ w7 Fxg1_7.out.rr Fyg1_7.out.rr (by omega) hylg1).mono ?_
      rintro e w8 ⟨rfl, b8⟩
      have Z8 : Hid (w7.heap.size ≤ w8.heap.size) := Lib.hid b8.size
      have B8 : Hid (Below w.heap.size w w8) := Lib.hid (btr B7.out b8)
      have Fxg1_8 := Lib.hid (Fxg1_7.out.up b8)
      clear Fxg1_7
      have Fxs2_8 := Lib.hid (Fxs2_7.out.up b8)
      clear Fxs2_7
      have Fyg1_8 := Lib.hid (Fyg1_7.out.up b8)
      clear Fyg1_7
      clear b8
      clear Fyg1_8
      go_wp2_with fail
      refine (toS_any s2A s2c s2n s2x w8 (Hs2.out.up B8.out) ls2 (by omega)).mono ?_
      rintro e w9 ⟨A9, c9, rfl, s9, b9⟩
      have Z9 : Hid (w8.heap.size ≤ w9.heap.size) := Lib.hid b9.size
      have B9 : Hid (Below w.heap.size w w9) := Lib.hid (btr B8.out b9)
      have Fxg1_9 := Lib.hid (Fxg1_8.out.up b9)
      clear Fxg1_8
      have Fxs2_9 := Lib.hid (Fxs2_8.out.up b9)
      clear Fxs2_8
      have Fys2_9 := Lib.hid s9
      have Lys2 : Hid (Lies A9 s2n c9 w8.heap.size w9.heap.size) := Lib.hid s9.lies
      have leys2 := s9.le.1
      clear s9 b9
      go_wp2_with fail
      refine (eqS_same _ _ A5 A9 s2n c5 s2n c9 w9 Fxs2_9.out Fys2_9.out (by omega)).mono ?_
      rintro e w10 ⟨rfl, b10⟩
      have Z10 : Hid (w9.heap.size ≤ w10.heap.size) := Lib.hid b10.size
      have B10 : Hid (Below w.heap.size w w10) := Lib.hid (btr B9.out b10)
      have Fxg1_10 := Lib.hid (Fxg1_9.out.up b10)
      clear Fxg1_9
      have Fxs2_10 := Lib.hid (Fxs2_9.out.up b10)
      clear Fxs2_9
      have Fys2_10 := Lib.hid (Fys2_9.out.up b10)
      clear Fys2_9
      clear b10
      clear Fys2_10
      go_wp2_with fail
      go_ret
      exact ⟨rfl, B10.out⟩
    · skip
      have HT0 := Lib.hid hT0
      clear hT0
      go_enter Try.func6, Try.ntmps6
      go_wp2_with fail
      have K0 := szSS2 g1A g1n g1c 1048576 g1v g1x w Hg1.out hmg1 hkg1 (by decide) (by decide)
      refine K0.mono ?_
      rintro e w0 ⟨rfl, rfl⟩
      clear K0
      rw [if_neg (Int.not_le.2 HT0.out)]
      go_wp2
      go_ret
      exact ⟨rfl, Below.refl _ _⟩
  · skip
    have d1 : decide ((1048576 : Int) < s2n) = true := by simp; omega
    go_enter Try.func6, Try.ntmps6
    go_wp2
    go_ret
    exact ⟨rfl, Below.refl _ _⟩
end Go.Proofs.Ytooafmifbplbhaa

/- The walk of the law FnExactLongestMemberPrefix: it returns true at every input, and writes nothing that was there. No condition but the program's own contract. -/
namespace Go.Proofs.Ytooafmifbplbhaa
open Go.RowKit

set_option maxHeartbeats 4000000 in
set_option maxRecDepth 100000 in
/-- The law FnExactLongestMemberPrefix. -/
theorem lawLongestMemberPrefix (IM : CtImsI 16 IsLmp) (i0 : Int) (g1A : Option Addr) (g1n g1c : Nat) (g1v : List SV) (g1x : List (List Int)) (s2A : Option Addr) (s2n s2c : Nat) (s2x : List Int) (w : World) (wfi0 : I64 i0) (hg1 : RR w w.heap.size g1A g1n g1v g1x) (hmg1 : g1n ≤ maxLen) (hkg1 : Hid (∀ i, i < g1n → (g1v.getD i sd0).2.1 ≤ maxLen)) (hs2 : RI w w.heap.size s2A s2x) (ls2 : Hid (s2x.length = s2n)) :
    Calls Try.prog 9 #[.int .i64 i0, .slice g1A g1n g1c, .slice s2A s2n s2c] w fun e w' => e = .returned (.bool true) ∧ Below w.heap.size w w' := by
  have Hg1 := Lib.hid hg1
  have hlxg1 := Lib.hid hg1.lx
  have hllg1 := Lib.hid hg1.lens
  have Hs2 := Lib.hid hs2
  clear hg1 hs2
  by_cases hns2 : s2n ≤ 1048576
  · skip
    by_cases hT0 : ((g1n + tot g1v g1n : Nat) : Int) ≤ (1048576 : Int)
    · skip
      have HT0 := Lib.hid hT0
      obtain ⟨LE, eLE⟩ : ∃ L : Int, (1048576 : Int) - ((g1n + tot g1v g1n : Nat) : Int) = L := ⟨_, rfl⟩
      have hLE : ¬ LE < 0 := by omega
      have dLE : decide (LE < 0) = false := by simp; omega
      have ELE := Lib.hid eLE
      clear eLE
      have hng1 : g1n ≤ 1048576 := by omega
      have KTg1 : Hid (tot g1v g1n ≤ 1048576) := Lib.hid (by omega)
      have hlg1 : Hid (∀ i, i < g1n → (g1v.getD i sd0).2.1 ≤ 1048576) := Lib.hid fun i hi => by have := tot_row (vs := g1v) hi; have := KTg1.out; omega
      have hylg1 : Hid (∀ i, i < g1n → (g1x.getD i []).length ≤ 1048576) := Lib.hid fun i hi => by rw [hllg1.out i hi]; exact hlg1.out i hi
      clear hT0 
      go_enter Try.func9, Try.ntmps9
      go_wp2_with fail
      have K0 := szSS2 g1A g1n g1c 1048576 g1v g1x w Hg1.out hmg1 hkg1 (by decide) (by decide)
      refine K0.mono ?_
      rintro e w0 ⟨rfl, rfl⟩
      clear K0
      rw [if_pos HT0.out]
      rw [ELE.out]
      go_wp2_with fail
      refine (toSS g1A g1n g1c g1v g1x w Hg1.out hng1 hlg1).mono ?_
      rintro e w1 ⟨A1, c1, us1, rfl, s1, q1, b1⟩
      have Z1 : Hid (w.heap.size ≤ w1.heap.size) := Lib.hid b1.size
      have B1 : Hid (Below w.heap.size w w1) := Lib.hid b1
      have Ftg1_1 := Lib.hid s1
      have Ltg1 : Hid (Lies A1 g1n c1 w.heap.size w1.heap.size) := Lib.hid s1.lt_
      have Itg1 : Hid (∀ t, t < g1n → ∀ k, (sval (us1.getD t sd0)).ownBlock = some k → w.heap.size ≤ k ∧ k < w1.heap.size) := Lib.hid fun t ht => (s1.row t ht).lt_
      have Qtg1 := Lib.hid q1
      have hltg1 : Hid (∀ i, i < g1n → (us1.getD i sd0).2.1 ≤ 1048576) := Lib.hid fun i hi => by rw [q1 i hi]; exact hlg1.out i hi
      clear s1 b1 q1
      go_wp2_with fail
      refine (toS_any s2A s2c s2n s2x w1 (Hs2.out.up B1.out) ls2 (by omega)).mono ?_
      rintro e w2 ⟨A2, c2, rfl, s2, b2⟩
      have Z2 : Hid (w1.heap.size ≤ w2.heap.size) := Lib.hid b2.size
      have B2 : Hid (Below w.heap.size w w2) := Lib.hid (btr B1.out b2)
      have Ftg1_2 := Lib.hid (Ftg1_1.out.up b2)
      clear Ftg1_1
      have Fts2_2 := Lib.hid s2
      have Lts2 : Hid (Lies A2 s2n c2 w1.heap.size w2.heap.size) := Lib.hid s2.lies
      have lets2 := s2.le.1
      clear s2 b2
      go_wp2_with fail
      have K3 := ctLmp i0 A1 g1n c1 us1 g1x A2 s2n c2 s2x w2 ⟨Ftg1_2.out.rr, hng1, hltg1.out⟩ ⟨Fts2_2.out.ri_, ls2.out, hns2, lets2⟩ wfi0
      refine K3.mono ?_
      clear K3
      rintro e w3 ⟨v3, rfl, r3, b3⟩
      have Z3 : Hid (w2.heap.size ≤ w3.heap.size) := Lib.hid b3.size
      have B3 : Hid (Below w.heap.size w w3) := Lib.hid (btr B2.out b3)
      have Ftg1_3 := Lib.hid (Ftg1_2.out.up b3)
      clear Ftg1_2
      have Fts2_3 := Lib.hid (Fts2_2.out.up b3)
      clear Fts2_2
      have HR := Lib.hid r3
      clear r3
      clear b3
      clear Ftg1_3
      clear Fts2_3
      go_wp2_with fail
      refine (toSS g1A g1n g1c g1v g1x w3 (Hg1.out.up B3.out) hng1 hlg1).mono ?_
      rintro e w4 ⟨A4, c4, us4, rfl, s4, q4, b4⟩
      have Z4 : Hid (w3.heap.size ≤ w4.heap.size) := Lib.hid b4.size
      have B4 : Hid (Below w.heap.size w w4) := Lib.hid (btr B3.out b4)
      have Fxg1_4 := Lib.hid s4
      have Lxg1 : Hid (Lies A4 g1n c4 w3.heap.size w4.heap.size) := Lib.hid s4.lt_
      have Ixg1 : Hid (∀ t, t < g1n → ∀ k, (sval (us4.getD t sd0)).ownBlock = some k → w3.heap.size ≤ k ∧ k < w4.heap.size) := Lib.hid fun t ht => (s4.row t ht).lt_
      have Qxg1 := Lib.hid q4
      have hlxg1 : Hid (∀ i, i < g1n → (us4.getD i sd0).2.1 ≤ 1048576) := Lib.hid fun i hi => by rw [q4 i hi]; exact hlg1.out i hi
      clear s4 b4 q4
      go_wp2_with fail
      refine (toS_any s2A s2c s2n s2x w4 (Hs2.out.up B4.out) ls2 (by omega)).mono ?_
      rintro e w5 ⟨A5, c5, rfl, s5, b5⟩
      have Z5 : Hid (w4.heap.size ≤ w5.heap.size) := Lib.hid b5.size
      have B5 : Hid (Below w.heap.size w w5) := Lib.hid (btr B4.out b5)
      have Fxg1_5 := Lib.hid (Fxg1_4.out.up b5)
      clear Fxg1_4
      have Fxs2_5 := Lib.hid s5
      have Lxs2 : Hid (Lies A5 s2n c5 w4.heap.size w5.heap.size) := Lib.hid s5.lies
      have lexs2 := s5.le.1
      clear s5 b5
      go_wp2_with fail
      have K6 := IM i0 A4 g1n c4 us4 g1x A5 s2n c5 s2x w5 ⟨Fxg1_5.out.rr, hng1, hlxg1.out⟩ ⟨Fxs2_5.out.ri_, ls2.out, hns2, lexs2⟩ wfi0
      refine K6.mono ?_
      clear K6
      rintro e w6 ⟨v6, rfl, r6, b6⟩
      have Z6 : Hid (w5.heap.size ≤ w6.heap.size) := Lib.hid b6.size
      have B6 : Hid (Below w.heap.size w w6) := Lib.hid (btr B5.out b6)
      have Fxg1_6 := Lib.hid (Fxg1_5.out.up b6)
      clear Fxg1_5
      have Fxs2_6 := Lib.hid (Fxs2_5.out.up b6)
      clear Fxs2_5
      have e6 := HR.out.uniq r6
      subst e6
      clear r6
      clear b6
      go_wp2_with fail
      refine (toSS g1A g1n g1c g1v g1x w6 (Hg1.out.up B6.out) hng1 hlg1).mono ?_
      rintro e w7 ⟨A7, c7, us7, rfl, s7, q7, b7⟩
      have Z7 : Hid (w6.heap.size ≤ w7.heap.size) := Lib.hid b7.size
      have B7 : Hid (Below w.heap.size w w7) := Lib.hid (btr B6.out b7)
      have Fxg1_7 := Lib.hid (Fxg1_6.out.up b7)
      clear Fxg1_6
      have Fxs2_7 := Lib.hid (Fxs2_6.out.up b7)
      clear Fxs2_6
      have Fyg1_7 := Lib.hid s7
      have Lyg1 : Hid (Lies A7 g1n c7 w6.heap.size w7.heap.size) := Lib.hid s7.lt_
      have Iyg1 : Hid (∀ t, t < g1n → ∀ k, (sval (us7.getD t sd0)).ownBlock = some k → w6.heap.size ≤ k ∧ k < w7.heap.size) := Lib.hid fun t ht => (s7.row t ht).lt_
      have Qyg1 := Lib.hid q7
      have hlyg1 : Hid (∀ i, i < g1n → (us7.getD i sd0).2.1 ≤ 1048576) := Lib.hid fun i hi => by rw [q7 i hi]; exact hlg1.out i hi
      clear s7 b7 q7
      go_wp2_with fail
      refine (eqRR_same A4 A7 g1n c4 g1n c7 us4 us7 _ w7 Fxg1_7.out.rr Fyg1_7.out.rr (by omega) hylg1).mono ?_
      rintro e w8 ⟨rfl, b8⟩
      have Z8 : Hid (w7.heap.size ≤ w8.heap.size) := Lib.hid b8.size
      have B8 : Hid (Below w.heap.size w w8) := Lib.hid (btr B7.out b8)
      have Fxg1_8 := Lib.hid (Fxg1_7.out.up b8)
      clear Fxg1_7
      have Fxs2_8 := Lib.hid (Fxs2_7.out.up b8)
      clear Fxs2_7
      have Fyg1_8 := Lib.hid (Fyg1_7.out.up b8)
      clear Fyg1_7
      clear b8
      clear Fyg1_8
      go_wp2_with fail
      refine (toS_any s2A s2c s2n s2x w8 (Hs2.out.up B8.out) ls2 (by omega)).mono ?_
      rintro e w9 ⟨A9, c9, rfl, s9, b9⟩
      have Z9 : Hid (w8.heap.size ≤ w9.heap.size) := Lib.hid b9.size
      have B9 : Hid (Below w.heap.size w w9) := Lib.hid (btr B8.out b9)
      have Fxg1_9 := Lib.hid (Fxg1_8.out.up b9)
      clear Fxg1_8
      have Fxs2_9 := Lib.hid (Fxs2_8.out.up b9)
      clear Fxs2_8
      have Fys2_9 := Lib.hid s9
      have Lys2 : Hid (Lies A9 s2n c9 w8.heap.size w9.heap.size) := Lib.hid s9.lies
      have leys2 := s9.le.1
      clear s9 b9
      go_wp2_with fail
      refine (eqS_same _ _ A5 A9 s2n c5 s2n c9 w9 Fxs2_9.out Fys2_9.out (by omega)).mono ?_
      rintro e w10 ⟨rfl, b10⟩
      have Z10 : Hid (w9.heap.size ≤ w10.heap.size) := Lib.hid b10.size
      have B10 : Hid (Below w.heap.size w w10) := Lib.hid (btr B9.out b10)
      have Fxg1_10 := Lib.hid (Fxg1_9.out.up b10)
      clear Fxg1_9
      have Fxs2_10 := Lib.hid (Fxs2_9.out.up b10)
      clear Fxs2_9
      have Fys2_10 := Lib.hid (Fys2_9.out.up b10)
      clear Fys2_9
      clear b10
      clear Fys2_10
      go_wp2_with fail
      go_ret
      exact ⟨rfl, B10.out⟩
    · skip
      have HT0 := Lib.hid hT0
      clear hT0
      go_enter Try.func9, Try.ntmps9
      go_wp2_with fail
      have K0 := szSS2 g1A g1n g1c 1048576 g1v g1x w Hg1.out hmg1 hkg1 (by decide) (by decide)
      refine K0.mono ?_
      rintro e w0 ⟨rfl, rfl⟩
      clear K0
      rw [if_neg (Int.not_le.2 HT0.out)]
      go_wp2
      go_ret
      exact ⟨rfl, Below.refl _ _⟩
  · skip
    have d1 : decide ((1048576 : Int) < s2n) = true := by simp; omega
    go_enter Try.func9, Try.ntmps9
    go_wp2
    go_ret
    exact ⟨rfl, Below.refl _ _⟩
end Go.Proofs.Ytooafmifbplbhaa

/- The walk of the law FnExactMemberWithPrefix: it returns true at every input, and writes nothing that was there. No condition but the program's own contract. -/
namespace Go.Proofs.Ytooafmifbplbhaa
open Go.RowKit

set_option maxHeartbeats 4000000 in
set_option maxRecDepth 100000 in
/-- The law FnExactMemberWithPrefix. -/
theorem lawMemberWithPrefix (IM : CtImsP 19 IsMw) (i0 : Int) (g1A : Option Addr) (g1n g1c : Nat) (g1v : List SV) (g1x : List (List Int)) (s2A : Option Addr) (s2n s2c : Nat) (s2x : List Int) (w : World) (wfi0 : I64 i0) (hg1 : RR w w.heap.size g1A g1n g1v g1x) (hmg1 : g1n ≤ maxLen) (hkg1 : Hid (∀ i, i < g1n → (g1v.getD i sd0).2.1 ≤ maxLen)) (hs2 : RI w w.heap.size s2A s2x) (ls2 : Hid (s2x.length = s2n)) :
    Calls Try.prog 8 #[.int .i64 i0, .slice g1A g1n g1c, .slice s2A s2n s2c] w fun e w' => e = .returned (.bool true) ∧ Below w.heap.size w w' := by
  have Hg1 := Lib.hid hg1
  have hlxg1 := Lib.hid hg1.lx
  have hllg1 := Lib.hid hg1.lens
  have Hs2 := Lib.hid hs2
  clear hg1 hs2
  by_cases hns2 : s2n ≤ 1048576
  · skip
    by_cases hT0 : ((g1n + tot g1v g1n : Nat) : Int) ≤ (1048576 : Int)
    · skip
      have HT0 := Lib.hid hT0
      obtain ⟨LE, eLE⟩ : ∃ L : Int, (1048576 : Int) - ((g1n + tot g1v g1n : Nat) : Int) = L := ⟨_, rfl⟩
      have hLE : ¬ LE < 0 := by omega
      have dLE : decide (LE < 0) = false := by simp; omega
      have ELE := Lib.hid eLE
      clear eLE
      have hng1 : g1n ≤ 1048576 := by omega
      have KTg1 : Hid (tot g1v g1n ≤ 1048576) := Lib.hid (by omega)
      have hlg1 : Hid (∀ i, i < g1n → (g1v.getD i sd0).2.1 ≤ 1048576) := Lib.hid fun i hi => by have := tot_row (vs := g1v) hi; have := KTg1.out; omega
      have hylg1 : Hid (∀ i, i < g1n → (g1x.getD i []).length ≤ 1048576) := Lib.hid fun i hi => by rw [hllg1.out i hi]; exact hlg1.out i hi
      clear hT0 
      go_enter Try.func8, Try.ntmps8
      go_wp2_with fail
      have K0 := szSS2 g1A g1n g1c 1048576 g1v g1x w Hg1.out hmg1 hkg1 (by decide) (by decide)
      refine K0.mono ?_
      rintro e w0 ⟨rfl, rfl⟩
      clear K0
      rw [if_pos HT0.out]
      rw [ELE.out]
      go_wp2_with fail
      refine (toSS g1A g1n g1c g1v g1x w Hg1.out hng1 hlg1).mono ?_
      rintro e w1 ⟨A1, c1, us1, rfl, s1, q1, b1⟩
      have Z1 : Hid (w.heap.size ≤ w1.heap.size) := Lib.hid b1.size
      have B1 : Hid (Below w.heap.size w w1) := Lib.hid b1
      have Ftg1_1 := Lib.hid s1
      have Ltg1 : Hid (Lies A1 g1n c1 w.heap.size w1.heap.size) := Lib.hid s1.lt_
      have Itg1 : Hid (∀ t, t < g1n → ∀ k, (sval (us1.getD t sd0)).ownBlock = some k → w.heap.size ≤ k ∧ k < w1.heap.size) := Lib.hid fun t ht => (s1.row t ht).lt_
      have Qtg1 := Lib.hid q1
      have hltg1 : Hid (∀ i, i < g1n → (us1.getD i sd0).2.1 ≤ 1048576) := Lib.hid fun i hi => by rw [q1 i hi]; exact hlg1.out i hi
      clear s1 b1 q1
      go_wp2_with fail
      refine (toS_any s2A s2c s2n s2x w1 (Hs2.out.up B1.out) ls2 (by omega)).mono ?_
      rintro e w2 ⟨A2, c2, rfl, s2, b2⟩
      have Z2 : Hid (w1.heap.size ≤ w2.heap.size) := Lib.hid b2.size
      have B2 : Hid (Below w.heap.size w w2) := Lib.hid (btr B1.out b2)
      have Ftg1_2 := Lib.hid (Ftg1_1.out.up b2)
      clear Ftg1_1
      have Fts2_2 := Lib.hid s2
      have Lts2 : Hid (Lies A2 s2n c2 w1.heap.size w2.heap.size) := Lib.hid s2.lies
      have lets2 := s2.le.1
      clear s2 b2
      go_wp2_with fail
      have K3 := ctMwp i0 A1 g1n c1 us1 g1x A2 s2n c2 s2x w2 ⟨Ftg1_2.out.rr, hng1, hltg1.out⟩ ⟨Fts2_2.out.ri_, ls2.out, hns2, lets2⟩ wfi0
      refine K3.mono ?_
      clear K3
      rintro e w3 ⟨A3, n3, c3, z3, ok3, rfl, s3, r3, b3⟩
      have m3 : n3 ≤ 1048576 := by have := IsMw.len r3; have := s3.1; omega
      have Z3 : Hid (w2.heap.size ≤ w3.heap.size) := Lib.hid b3.size
      have B3 : Hid (Below w.heap.size w w3) := Lib.hid (btr B2.out b3)
      have Ftg1_3 := Lib.hid (Ftg1_2.out.up b3)
      clear Ftg1_2
      have Fts2_3 := Lib.hid (Fts2_2.out.up b3)
      clear Fts2_2
      have HR := Lib.hid r3
      clear r3
      have FW_3 := Lib.hid s3
      have LW : Hid (Lies A3 n3 c3 w2.heap.size w3.heap.size) := Lib.hid s3.lies
      clear s3 b3
      clear Ftg1_3
      clear Fts2_3
      go_wp2_with fail
      refine (toSS g1A g1n g1c g1v g1x w3 (Hg1.out.up B3.out) hng1 hlg1).mono ?_
      rintro e w4 ⟨A4, c4, us4, rfl, s4, q4, b4⟩
      have Z4 : Hid (w3.heap.size ≤ w4.heap.size) := Lib.hid b4.size
      have B4 : Hid (Below w.heap.size w w4) := Lib.hid (btr B3.out b4)
      have FW_4 := Lib.hid (FW_3.out.up b4)
      clear FW_3
      have Fxg1_4 := Lib.hid s4
      have Lxg1 : Hid (Lies A4 g1n c4 w3.heap.size w4.heap.size) := Lib.hid s4.lt_
      have Ixg1 : Hid (∀ t, t < g1n → ∀ k, (sval (us4.getD t sd0)).ownBlock = some k → w3.heap.size ≤ k ∧ k < w4.heap.size) := Lib.hid fun t ht => (s4.row t ht).lt_
      have Qxg1 := Lib.hid q4
      have hlxg1 : Hid (∀ i, i < g1n → (us4.getD i sd0).2.1 ≤ 1048576) := Lib.hid fun i hi => by rw [q4 i hi]; exact hlg1.out i hi
      clear s4 b4 q4
      go_wp2_with fail
      refine (toS_any s2A s2c s2n s2x w4 (Hs2.out.up B4.out) ls2 (by omega)).mono ?_
      rintro e w5 ⟨A5, c5, rfl, s5, b5⟩
      have Z5 : Hid (w4.heap.size ≤ w5.heap.size) := Lib.hid b5.size
      have B5 : Hid (Below w.heap.size w w5) := Lib.hid (btr B4.out b5)
      have FW_5 := Lib.hid (FW_4.out.up b5)
      clear FW_4
      have Fxg1_5 := Lib.hid (Fxg1_4.out.up b5)
      clear Fxg1_4
      have Fxs2_5 := Lib.hid s5
      have Lxs2 : Hid (Lies A5 s2n c5 w4.heap.size w5.heap.size) := Lib.hid s5.lies
      have lexs2 := s5.le.1
      clear s5 b5
      go_wp2_with fail
      have K6 := IM i0 A4 g1n c4 us4 g1x A5 s2n c5 s2x w5 ⟨Fxg1_5.out.rr, hng1, hlxg1.out⟩ ⟨Fxs2_5.out.ri_, ls2.out, hns2, lexs2⟩ wfi0
      refine K6.mono ?_
      clear K6
      rintro e w6 ⟨A6, n6, c6, z6, ok6, rfl, s6, r6, b6⟩
      have m6 : n6 ≤ 1048576 := by have := IsMw.len r6; have := s6.1; omega
      have Z6 : Hid (w5.heap.size ≤ w6.heap.size) := Lib.hid b6.size
      have B6 : Hid (Below w.heap.size w w6) := Lib.hid (btr B5.out b6)
      have FW_6 := Lib.hid (FW_5.out.up b6)
      clear FW_5
      have Fxg1_6 := Lib.hid (Fxg1_5.out.up b6)
      clear Fxg1_5
      have Fxs2_6 := Lib.hid (Fxs2_5.out.up b6)
      clear Fxs2_5
      obtain ⟨e6, f6⟩ := HR.out.uniq r6
      subst e6 f6
      clear r6
      have FG_6 := Lib.hid s6
      have LG : Hid (Lies A6 n6 c6 w5.heap.size w6.heap.size) := Lib.hid s6.lies
      clear s6 b6
      go_wp2_with fail
      refine (eqS_same _ _ A6 A3 n6 c6 n3 c3 w6 FG_6.out FW_6.out (by omega)).mono ?_
      rintro e w7 ⟨rfl, b7⟩
      have Z7 : Hid (w6.heap.size ≤ w7.heap.size) := Lib.hid b7.size
      have B7 : Hid (Below w.heap.size w w7) := Lib.hid (btr B6.out b7)
      have FW_7 := Lib.hid (FW_6.out.up b7)
      clear FW_6
      have Fxg1_7 := Lib.hid (Fxg1_6.out.up b7)
      clear Fxg1_6
      have Fxs2_7 := Lib.hid (Fxs2_6.out.up b7)
      clear Fxs2_6
      have FG_7 := Lib.hid (FG_6.out.up b7)
      clear FG_6
      clear b7
      go_wp2_with fail
      refine (toSS g1A g1n g1c g1v g1x w7 (Hg1.out.up B7.out) hng1 hlg1).mono ?_
      rintro e w8 ⟨A8, c8, us8, rfl, s8, q8, b8⟩
      have Z8 : Hid (w7.heap.size ≤ w8.heap.size) := Lib.hid b8.size
      have B8 : Hid (Below w.heap.size w w8) := Lib.hid (btr B7.out b8)
      have FW_8 := Lib.hid (FW_7.out.up b8)
      clear FW_7
      have Fxg1_8 := Lib.hid (Fxg1_7.out.up b8)
      clear Fxg1_7
      have Fxs2_8 := Lib.hid (Fxs2_7.out.up b8)
      clear Fxs2_7
      have FG_8 := Lib.hid (FG_7.out.up b8)
      clear FG_7
      have Fyg1_8 := Lib.hid s8
      have Lyg1 : Hid (Lies A8 g1n c8 w7.heap.size w8.heap.size) := Lib.hid s8.lt_
      have Iyg1 : Hid (∀ t, t < g1n → ∀ k, (sval (us8.getD t sd0)).ownBlock = some k → w7.heap.size ≤ k ∧ k < w8.heap.size) := Lib.hid fun t ht => (s8.row t ht).lt_
      have Qyg1 := Lib.hid q8
      have hlyg1 : Hid (∀ i, i < g1n → (us8.getD i sd0).2.1 ≤ 1048576) := Lib.hid fun i hi => by rw [q8 i hi]; exact hlg1.out i hi
      clear s8 b8 q8
      go_wp2_with fail
      refine (eqRR_same A4 A8 g1n c4 g1n c8 us4 us8 _ w8 Fxg1_8.out.rr Fyg1_8.out.rr (by omega) hylg1).mono ?_
      rintro e w9 ⟨rfl, b9⟩
      have Z9 : Hid (w8.heap.size ≤ w9.heap.size) := Lib.hid b9.size
      have B9 : Hid (Below w.heap.size w w9) := Lib.hid (btr B8.out b9)
      have FW_9 := Lib.hid (FW_8.out.up b9)
      clear FW_8
      have Fxg1_9 := Lib.hid (Fxg1_8.out.up b9)
      clear Fxg1_8
      have Fxs2_9 := Lib.hid (Fxs2_8.out.up b9)
      clear Fxs2_8
      have FG_9 := Lib.hid (FG_8.out.up b9)
      clear FG_8
      have Fyg1_9 := Lib.hid (Fyg1_8.out.up b9)
      clear Fyg1_8
      clear b9
      clear Fyg1_9
      go_wp2_with fail
      refine (toS_any s2A s2c s2n s2x w9 (Hs2.out.up B9.out) ls2 (by omega)).mono ?_
      rintro e w10 ⟨A10, c10, rfl, s10, b10⟩
      have Z10 : Hid (w9.heap.size ≤ w10.heap.size) := Lib.hid b10.size
      have B10 : Hid (Below w.heap.size w w10) := Lib.hid (btr B9.out b10)
      have FW_10 := Lib.hid (FW_9.out.up b10)
      clear FW_9
      have Fxg1_10 := Lib.hid (Fxg1_9.out.up b10)
      clear Fxg1_9
      have Fxs2_10 := Lib.hid (Fxs2_9.out.up b10)
      clear Fxs2_9
      have FG_10 := Lib.hid (FG_9.out.up b10)
      clear FG_9
      have Fys2_10 := Lib.hid s10
      have Lys2 : Hid (Lies A10 s2n c10 w9.heap.size w10.heap.size) := Lib.hid s10.lies
      have leys2 := s10.le.1
      clear s10 b10
      go_wp2_with fail
      refine (eqS_same _ _ A5 A10 s2n c5 s2n c10 w10 Fxs2_10.out Fys2_10.out (by omega)).mono ?_
      rintro e w11 ⟨rfl, b11⟩
      have Z11 : Hid (w10.heap.size ≤ w11.heap.size) := Lib.hid b11.size
      have B11 : Hid (Below w.heap.size w w11) := Lib.hid (btr B10.out b11)
      have FW_11 := Lib.hid (FW_10.out.up b11)
      clear FW_10
      have Fxg1_11 := Lib.hid (Fxg1_10.out.up b11)
      clear Fxg1_10
      have Fxs2_11 := Lib.hid (Fxs2_10.out.up b11)
      clear Fxs2_10
      have FG_11 := Lib.hid (FG_10.out.up b11)
      clear FG_10
      have Fys2_11 := Lib.hid (Fys2_10.out.up b11)
      clear Fys2_10
      clear b11
      clear Fys2_11
      have KTx : Hid (tot us4 g1n ≤ 1048576) := Lib.hid (by rw [tot_eq g1n Qxg1.out]; exact KTg1.out)
      go_wp2_with fail
      refine (markSS A4 g1n c4 _ _ us4 _ w11 Fxg1_11.out (by omega) KTx).mono ?_
      rintro e w12 ⟨rfl, s12, o12⟩
      have Z12 : Hid (w11.heap.size ≤ w12.heap.size) := Lib.hid o12.size
      have B12 : Hid (Below w.heap.size w w12) := Lib.hid (B11.out.trans (o12.below B11.out.size (fun t ht k e => by have h2 := Ixg1.out t ht k e; have := Z1.out; have := Z2.out; have := Z3.out; have := Z4.out; have := Z5.out; have := Z6.out; have := Z7.out; have := Z8.out; have := Z9.out; have := Z10.out; have := Z11.out; have := Z12.out; omega)))
      have FW_12 := Lib.hid (FW_11.out.only o12 (fun k hk t ht e => by have h1 := LW.out k hk; have h2 := Ixg1.out t ht k e; have := Z1.out; have := Z2.out; have := Z3.out; have := Z4.out; have := Z5.out; have := Z6.out; have := Z7.out; have := Z8.out; have := Z9.out; have := Z10.out; have := Z11.out; have := Z12.out; omega))
      clear FW_11
      have Fxg1_12 := Lib.hid s12
      clear Fxg1_11
      have Fxs2_12 := Lib.hid (Fxs2_11.out.only o12 (fun k hk t ht e => by have h1 := Lxs2.out k hk; have h2 := Ixg1.out t ht k e; have := Z1.out; have := Z2.out; have := Z3.out; have := Z4.out; have := Z5.out; have := Z6.out; have := Z7.out; have := Z8.out; have := Z9.out; have := Z10.out; have := Z11.out; have := Z12.out; omega))
      clear Fxs2_11
      have FG_12 := Lib.hid (FG_11.out.only o12 (fun k hk t ht e => by have h1 := LG.out k hk; have h2 := Ixg1.out t ht k e; have := Z1.out; have := Z2.out; have := Z3.out; have := Z4.out; have := Z5.out; have := Z6.out; have := Z7.out; have := Z8.out; have := Z9.out; have := Z10.out; have := Z11.out; have := Z12.out; omega))
      clear FG_11
      clear s12 o12
      obtain ⟨T, eT⟩ : ∃ T, tot us4 g1n = T := ⟨_, rfl⟩
      have hT9 : T ≤ 1048576 := by rw [← eT]; exact KTx.out
      rw [eT]
      clear eT
      go_wp2_with fail
      refine (markK _ (1 + T) _ A5 s2n c5 _ w12 Fxs2_12.out (by omega) (by omega) (by omega)).mono ?_
      rintro e w13 ⟨rfl, s13, g13⟩
      have Z13 : Hid (w12.heap.size ≤ w13.heap.size) := Lib.hid g13.size
      have B13 : Hid (Below w.heap.size w w13) := Lib.hid (B12.out.trans (below_mark g13 Lxs2.out (by have := Z1.out; have := Z2.out; have := Z3.out; have := Z4.out; have := Z5.out; have := Z6.out; have := Z7.out; have := Z8.out; have := Z9.out; have := Z10.out; have := Z11.out; have := Z12.out; have := Z13.out; omega) B12.out.size))
      have FW_13 := Lib.hid (FW_12.out.far g13 LW.out Lxs2.out (.inl (by have := Z1.out; have := Z2.out; have := Z3.out; have := Z4.out; have := Z5.out; have := Z6.out; have := Z7.out; have := Z8.out; have := Z9.out; have := Z10.out; have := Z11.out; have := Z12.out; have := Z13.out; omega)))
      clear FW_12
      have Fxg1_13 := Lib.hid (Fxg1_12.out.farM g13 (fun k hk e => by have h1 := Lxg1.out k hk; have h2 := Lxs2.out k e; have := Z1.out; have := Z2.out; have := Z3.out; have := Z4.out; have := Z5.out; have := Z6.out; have := Z7.out; have := Z8.out; have := Z9.out; have := Z10.out; have := Z11.out; have := Z12.out; have := Z13.out; omega) (fun s hs k hk e => by have h1 := Ixg1.out s hs k hk; have h2 := Lxs2.out k e; have := Z1.out; have := Z2.out; have := Z3.out; have := Z4.out; have := Z5.out; have := Z6.out; have := Z7.out; have := Z8.out; have := Z9.out; have := Z10.out; have := Z11.out; have := Z12.out; have := Z13.out; omega))
      clear Fxg1_12
      have Fxs2_13 := Lib.hid s13
      clear Fxs2_12
      have FG_13 := Lib.hid (FG_12.out.far g13 LG.out Lxs2.out (.inr (by have := Z1.out; have := Z2.out; have := Z3.out; have := Z4.out; have := Z5.out; have := Z6.out; have := Z7.out; have := Z8.out; have := Z9.out; have := Z10.out; have := Z11.out; have := Z12.out; have := Z13.out; omega)))
      clear FG_12
      clear s13 g13
      go_wp2_with fail
      refine (eqS_same _ _ A6 A3 n6 c6 n3 c3 w13 FG_13.out FW_13.out (by omega)).mono ?_
      rintro e w14 ⟨rfl, b14⟩
      have Z14 : Hid (w13.heap.size ≤ w14.heap.size) := Lib.hid b14.size
      have B14 : Hid (Below w.heap.size w w14) := Lib.hid (btr B13.out b14)
      have FW_14 := Lib.hid (FW_13.out.up b14)
      clear FW_13
      have Fxg1_14 := Lib.hid (Fxg1_13.out.up b14)
      clear Fxg1_13
      have Fxs2_14 := Lib.hid (Fxs2_13.out.up b14)
      clear Fxs2_13
      have FG_14 := Lib.hid (FG_13.out.up b14)
      clear FG_13
      clear b14
      clear Fxg1_14
      clear Fxs2_14
      go_wp2_with fail
      refine (mark1 _ A6 n6 c6 _ w14 FG_14.out (by omega)).mono ?_
      rintro e w15 ⟨rfl, s15, g15⟩
      have Z15 : Hid (w14.heap.size ≤ w15.heap.size) := Lib.hid g15.size
      have B15 : Hid (Below w.heap.size w w15) := Lib.hid (B14.out.trans (below_mark g15 LG.out (by have := Z1.out; have := Z2.out; have := Z3.out; have := Z4.out; have := Z5.out; have := Z6.out; have := Z7.out; have := Z8.out; have := Z9.out; have := Z10.out; have := Z11.out; have := Z12.out; have := Z13.out; have := Z14.out; have := Z15.out; omega) B14.out.size))
      have FW_15 := Lib.hid (FW_14.out.far g15 LW.out LG.out (.inl (by have := Z1.out; have := Z2.out; have := Z3.out; have := Z4.out; have := Z5.out; have := Z6.out; have := Z7.out; have := Z8.out; have := Z9.out; have := Z10.out; have := Z11.out; have := Z12.out; have := Z13.out; have := Z14.out; have := Z15.out; omega)))
      clear FW_14
      have FG_15 := Lib.hid s15
      clear FG_14
      clear s15 g15
      go_wp2_with fail
      refine (held1 _ A6 n6 c6 w15 FG_15.out (by omega)).mono ?_
      rintro e w' ⟨rfl, rfl⟩
      go_wp2_with fail
      refine (toSS g1A g1n g1c g1v g1x w15 (Hg1.out.up B15.out) hng1 hlg1).mono ?_
      rintro e w16 ⟨A16, c16, us16, rfl, s16, q16, b16⟩
      have Z16 : Hid (w15.heap.size ≤ w16.heap.size) := Lib.hid b16.size
      have B16 : Hid (Below w.heap.size w w16) := Lib.hid (btr B15.out b16)
      have FW_16 := Lib.hid (FW_15.out.up b16)
      clear FW_15
      have FG_16 := Lib.hid (FG_15.out.up b16)
      clear FG_15
      have Fzg1_16 := Lib.hid s16
      have Lzg1 : Hid (Lies A16 g1n c16 w15.heap.size w16.heap.size) := Lib.hid s16.lt_
      have Izg1 : Hid (∀ t, t < g1n → ∀ k, (sval (us16.getD t sd0)).ownBlock = some k → w15.heap.size ≤ k ∧ k < w16.heap.size) := Lib.hid fun t ht => (s16.row t ht).lt_
      have Qzg1 := Lib.hid q16
      have hlzg1 : Hid (∀ i, i < g1n → (us16.getD i sd0).2.1 ≤ 1048576) := Lib.hid fun i hi => by rw [q16 i hi]; exact hlg1.out i hi
      clear s16 b16 q16
      go_wp2_with fail
      refine (toS_any s2A s2c s2n s2x w16 (Hs2.out.up B16.out) ls2 (by omega)).mono ?_
      rintro e w17 ⟨A17, c17, rfl, s17, b17⟩
      have Z17 : Hid (w16.heap.size ≤ w17.heap.size) := Lib.hid b17.size
      have B17 : Hid (Below w.heap.size w w17) := Lib.hid (btr B16.out b17)
      have FW_17 := Lib.hid (FW_16.out.up b17)
      clear FW_16
      have FG_17 := Lib.hid (FG_16.out.up b17)
      clear FG_16
      have Fzg1_17 := Lib.hid (Fzg1_16.out.up b17)
      clear Fzg1_16
      have Fzs2_17 := Lib.hid s17
      have Lzs2 : Hid (Lies A17 s2n c17 w16.heap.size w17.heap.size) := Lib.hid s17.lies
      have lezs2 := s17.le.1
      clear s17 b17
      go_wp2_with fail
      have K18 := IM i0 A16 g1n c16 us16 g1x A17 s2n c17 s2x w17 ⟨Fzg1_17.out.rr, hng1, hlzg1.out⟩ ⟨Fzs2_17.out.ri_, ls2.out, hns2, lezs2⟩ wfi0
      refine K18.mono ?_
      clear K18
      rintro e w18 ⟨A18, n18, c18, z18, ok18, rfl, s18, r18, b18⟩
      have m18 : n18 ≤ 1048576 := by have := IsMw.len r18; have := s18.1; omega
      have Z18 : Hid (w17.heap.size ≤ w18.heap.size) := Lib.hid b18.size
      have B18 : Hid (Below w.heap.size w w18) := Lib.hid (btr B17.out b18)
      have FW_18 := Lib.hid (FW_17.out.up b18)
      clear FW_17
      have FG_18 := Lib.hid (FG_17.out.up b18)
      clear FG_17
      have Fzg1_18 := Lib.hid (Fzg1_17.out.up b18)
      clear Fzg1_17
      have Fzs2_18 := Lib.hid (Fzs2_17.out.up b18)
      clear Fzs2_17
      obtain ⟨e18, f18⟩ := HR.out.uniq r18
      subst e18 f18
      clear r18
      have FH_18 := Lib.hid s18
      have LH : Hid (Lies A18 n18 c18 w17.heap.size w18.heap.size) := Lib.hid s18.lies
      clear s18 b18
      clear Fzg1_18
      clear Fzs2_18
      go_wp2_with fail
      refine (eqS_same _ _ A18 A3 n18 c18 n3 c3 w18 FH_18.out FW_18.out (by omega)).mono ?_
      rintro e w19 ⟨rfl, b19⟩
      have Z19 : Hid (w18.heap.size ≤ w19.heap.size) := Lib.hid b19.size
      have B19 : Hid (Below w.heap.size w w19) := Lib.hid (btr B18.out b19)
      have FW_19 := Lib.hid (FW_18.out.up b19)
      clear FW_18
      have FG_19 := Lib.hid (FG_18.out.up b19)
      clear FG_18
      have FH_19 := Lib.hid (FH_18.out.up b19)
      clear FH_18
      clear b19
      go_wp2_with fail
      refine (held1 _ A6 n6 c6 w19 FG_19.out (by omega)).mono ?_
      rintro e w' ⟨rfl, rfl⟩
      go_wp2_with fail
      go_ret
      exact ⟨rfl, B19.out⟩
    · skip
      have HT0 := Lib.hid hT0
      clear hT0
      go_enter Try.func8, Try.ntmps8
      go_wp2_with fail
      have K0 := szSS2 g1A g1n g1c 1048576 g1v g1x w Hg1.out hmg1 hkg1 (by decide) (by decide)
      refine K0.mono ?_
      rintro e w0 ⟨rfl, rfl⟩
      clear K0
      rw [if_neg (Int.not_le.2 HT0.out)]
      go_wp2
      go_ret
      exact ⟨rfl, Below.refl _ _⟩
  · skip
    have d1 : decide ((1048576 : Int) < s2n) = true := by simp; omega
    go_enter Try.func8, Try.ntmps8
    go_wp2
    go_ret
    exact ⟨rfl, Below.refl _ _⟩
end Go.Proofs.Ytooafmifbplbhaa

/- The program's smallestLike and MemberWithPrefix. Conditions: at most 1048576 lists of at most 1048576 numbers. -/
namespace Go.Proofs.Ytooafmifbplbhaa
open Go.RowKit

set_option maxHeartbeats 4000000 in
set_option maxRecDepth 100000 in
/-- smallestLike, from link k on. -/
theorem implSmall (base N k0 k cp B : Nat) (M : Nat → Prop) (c : Ch) (L : Nat → LK) (gs : List (List Int)) (pre : List Int) (A : Option Addr) (m : List Int) (w : World) (hc : Ck w base N k0 M c L) (ho : Orbs N k0 c L) (hw : Hid (Whole N gs c)) (hk : k0 ≤ k) (hkN : k ≤ N) (h1 : 1 ≤ N) (h2 : N ≤ 20) (hg : Hid (∀ g ∈ gs, Pn N g))
    (hm : RI w w.heap.size A m) (hB : B ≤ w.heap.size) (hS : Hid (k = N → Slc w B A N cp m)) (hG : Hid (GrTo N gs pre m k)) (hpre : pre.length ≤ k) :
    Calls Try.prog 60 #[ptr N L k, .slice A N cp] w fun e w' => ∃ (A' : Option Addr) (c' : Nat) (m' : List Int), e = .returned (.slice A' N c') ∧ Slc w' B A' N c' m' ∧ Greedy N gs pre m' ∧ Below w.heap.size w w' := by
  have HC := Lib.hid hc
  have HO := Lib.hid ho
  have HM := Lib.hid hm
  clear hc ho hm
  go_enter Try.func60, Try.ntmps60
  go_wp2_with fail
  go_loopg [1, 5, 6, 8] N (fun gg mv l _ _ wr => ∃ (j c1 : Nat) (A1 : Option Addr) (m1 : List Int), k ≤ j ∧ j ≤ N ∧ N - j ≤ gg ∧ l = ptr N L j ∧ mv = .slice A1 N c1 ∧ RI wr wr.heap.size A1 m1 ∧ ((j = k ∧ A1 = A ∧ c1 = cp ∧ m1 = m) ∨ Slc wr B A1 N c1 m1) ∧ GrTo N gs pre m1 j ∧ Below w.heap.size w wr)
  case atStart => exact ⟨k, cp, A, m, Nat.le_refl _, hkN, by omega, rfl, rfl, HM.out, .inl ⟨rfl, rfl, rfl, rfl⟩, hG.out, Below.refl _ _⟩
  case round =>
    obtain ⟨j, c1, A1, m1, hkj, hjN, hgg, rfl, rfl, hm, hfr, hgr, bel⟩ := hrel
    have Hm := Lib.hid hm
    have Fr := Lib.hid hfr
    have Gr := Lib.hid hgr
    have Be := Lib.hid bel
    have MP := Lib.hid (hgr.1.pn hg.out h1 h2)
    have Cj := Lib.hid (HC.out.up bel)
    clear hm hfr hgr bel
    by_cases hlt : j < N
    · rw [ptr_at hlt]
      obtain ⟨x0, x1, x2, x3, x4⟩ := Cj.out.cB (by omega) hlt
      have hol := Cj.out.olen (by omega) hlt
      have hOr := HO.out j (by omega) hlt
      have hR := hw.out.up.rep j (Nat.zero_le _) hlt
      obtain ⟨b, off, rfl, hb, hcell⟩ := Hm.out (by rw [MP.out.2]; omega)
      have z1 := hcell j (by rw [MP.out.2]; exact hlt)
      rw [nx_val MP.out.1 (by rw [MP.out.2]; exact hlt)] at z1
      obtain ⟨s0, es0⟩ : ∃ s0, nx m1 j = s0 := ⟨_, rfl⟩
      rw [es0] at z1
      have Es0 := Lib.hid es0
      obtain ⟨on, hon⟩ : ∃ on, (L j).orb.length = on := ⟨_, rfl⟩
      have hjO : j ∈ (L j).orb := (hOr.2 j).2 (by rw [hR.one]; intro e; have := idL_length N; rw [e] at this; simp at this; omega)
      have h0n : 0 < on := by rw [← hon]; exact List.length_pos_of_mem hjO
      have hon20 : on ≤ N := by rw [← hon]; exact hOr.len hR
      obtain ⟨ob, oc, hoe, _⟩ := Cj.out.cO (by omega) hlt (j := 0) (by omega)
      rw [hoe, hon] at x2
      simp only [sval] at x2
      have Hon := Lib.hid hon
      have HjO := Lib.hid hjO
      have Hor := Lib.hid hOr
      have HR := Lib.hid hR
      have Hoe := Lib.hid hoe
      have Hb := Lib.hid hb
      have Hcell : Hid (∀ y, y < N → wr.cell? ⟨b, off + y, none⟩ = some (.int .i64 ((nx m1 y : Nat) : Int))) := Lib.hid fun y hy => by
        rw [hcell y (by rw [MP.out.2]; exact hy), nx_val MP.out.1 (by rw [MP.out.2]; exact hy)]
      have p0 : (0 : Int) ≤ j := by omega
      have p1 : (j : Int) < N := by omega
      clear hol hOr hR hb hcell es0 hon hjO hoe x1 x3
      go_wp2_with fail
      go_loopg [6, 8, 28] on (fun gg lv _ iv wx => ∃ (t z : Nat), t ≤ on ∧ on - t ≤ gg ∧ iv = .int .i64 (t : Nat) ∧ lv = .int .i64 (z : Nat) ∧ (∀ s, s < t → z ≤ nx m1 ((L j).orb.getD s 0)) ∧ (∃ y, y ∈ (L j).orb ∧ z = nx m1 y) ∧ wr = wx)
      case atStart => exact ⟨0, s0, Nat.zero_le _, by omega, rfl, rfl, fun s hs => absurd hs (by omega), ⟨j, HjO.out, Es0.out.symm⟩, rfl⟩
      case round =>
        obtain ⟨t, z, ht, hg2, rfl, rfl, hall, hex, rfl⟩ := hrel
        have All := Lib.hid hall
        have Ex := Lib.hid hex
        clear hall hex
        by_cases htl : t < on
        · obtain ⟨ob', oc', hoe', x6⟩ := Cj.out.cO (by omega) hlt (j := t) (by rw [Hon.out]; exact htl)
          obtain ⟨rfl, rfl⟩ : ob = ob' ∧ oc = oc' := by
            rw [Hoe.out] at hoe'
            injection hoe' with h1 h2
            injection h1 with h1
            injection h1 with h1
            injection h2 with _ h2
            exact ⟨h1, h2⟩
          obtain ⟨y, ey⟩ : ∃ y, (L j).orb.getD t 0 = y := ⟨_, rfl⟩
          rw [ey] at x6
          have hyO : y ∈ (L j).orb := by rw [← ey, List.getD_eq_getElem?_getD, List.getElem?_eq_getElem (by rw [Hon.out]; exact htl)]; exact List.getElem_mem _
          have hy : y < N := Hor.out.lt HR.out hyO
          have x7 := Hcell.out y hy
          obtain ⟨u, eu⟩ : ∃ u, nx m1 y = u := ⟨_, rfl⟩
          rw [eu] at x7
          have Ey := Lib.hid ey
          have Eu := Lib.hid eu
          have HyO := Lib.hid hyO
          have q0 : (0 : Int) ≤ t := by omega
          have q1 : (t : Int) < on := by omega
          have q2 : (0 : Int) ≤ y := by omega
          have q3 : (y : Int) < N := by omega
          clear hoe' ey hyO eu
          go_wp2_with fail
          · go_roundg (on - (t + 1))
            case rel =>
              refine ⟨t + 1, u, by omega, by omega, by go_num, rfl, fun s hs => ?_, ⟨y, HyO.out, Eu.out.symm⟩, rfl⟩
              rcases Nat.lt_or_ge s t with h | h
              · have := All.out s h; omega
              · obtain rfl : s = t := by omega
                rw [Ey.out, Eu.out]; exact Nat.le_refl _
            case measure => omega
          · go_roundg (on - (t + 1))
            case rel =>
              refine ⟨t + 1, z, by omega, by omega, by go_num, rfl, fun s hs => ?_, Ex.out, rfl⟩
              rcases Nat.lt_or_ge s t with h | h
              · exact All.out s h
              · obtain rfl : s = t := by omega
                rw [Ey.out, Eu.out]; omega
            case measure => omega
        · obtain rfl : t = on := by omega
          go_wp2_with fail
          refine (implWith base N k0 j c1 M c L (some ⟨b, off, none⟩) m1 (z : Nat) wr Cj.out (by omega) hlt HR Hm.out MP).mono ?_
          rintro e w2 ⟨A2, n2, c2, rfl, (⟨rfl, rfl, rfl, hno⟩ | ⟨g2, y, rfl, rfl, hy, hyv, hyr, hs⟩), b2⟩
          · exfalso
            obtain ⟨y, hyO, e⟩ := Ex.out
            exact (Hor.out.2 y).1 hyO (hno y (Hor.out.lt HR.out hyO) (by rw [e]))
          · have C2 := Lib.hid (Cj.out.up b2)
            have B2 : Hid (Below w.heap.size w w2) := Lib.hid (btr Be.out b2)
            have S2 : Hid (Slc w2 B (some ⟨g2, 0, none⟩) n2 c2 (compL (c.rep j y) m1)) := Lib.hid (hs.mono (by have := Be.out.size; omega))
            have G2 : Hid (GrTo n2 gs pre (compL (c.rep j y) m1) (j + 1)) := Lib.hid (Gr.out.step hw.out h1 h2 hg.out hlt hyr ⟨fun h => absurd h (by omega), fun _ v hv => by
              obtain ⟨y', hy', hr', rfl⟩ := chL_mem.1 hv
              obtain ⟨s, hs', es⟩ := List.mem_iff_getElem.1 ((Hor.out.2 y').2 hr')
              have h3 := All.out s (by rw [← Hon.out]; exact hs')
              rw [List.getD_eq_getElem?_getD, List.getElem?_eq_getElem hs', es] at h3
              have h3 : z ≤ nx m1 y' := h3
              omega⟩)
            have z4 := (C2.out.cB (by omega) hlt).2.2.2.2
            clear hs b2 hy hyv hyr x4
            go_wp2_with fail
            go_roundg (n2 - (j + 1))
            case rel => exact ⟨j + 1, c2, _, _, by omega, by omega, by omega, rfl, rfl, S2.out.ri_, .inr S2.out, G2.out, B2.out⟩
            case measure => omega
    · obtain rfl : j = N := by omega
      rw [ptr_end (Nat.le_refl _)]
      have Fin : Hid (Slc wr B A1 j c1 m1) := Lib.hid (by
        rcases Fr.out with ⟨e1, rfl, rfl, rfl⟩ | h
        · exact (hS.out e1.symm).up Be.out
        · exact h)
      go_wp2_with fail
      go_ret
      exact ⟨_, _, _, rfl, Fin.out, Gr.out, Be.out⟩

set_option maxHeartbeats 4000000 in
set_option maxRecDepth 100000 in
/-- MemberWithPrefix. -/
theorem implMemberWithPrefix : CtImsP 19 IsMw := by
  intro a A n c vs xss P np cp p w g s _
  have HX := Lib.hid g.rr
  have hlx : Hid (xss.length = n) := Lib.hid g.rr.lx
  have hn := g.hn
  have hl := Lib.hid g.hl
  have HP := Lib.hid s.ri
  have lp := Lib.hid s.lp
  have hnp := s.hn
  clear g s
  go_enter Try.func19, Try.ntmps19
  go_wp2_with fail
  refine (implGS a A n c vs xss w HX.out hn hl).mono ?_
  rintro e w1 ⟨rfl, b1⟩
  have B1 := Lib.hid b1
  have X1 := Lib.hid (HX.out.up b1)
  have P1 := Lib.hid (HP.out.up b1)
  clear b1
  rcases hs : gB a xss with _ | _
  · have Fin : Hid (IsMw a xss p [] false) := Lib.hid (.inr ⟨fun h => (by have := h.1; rw [hs] at this; cases this), rfl, rfl⟩)
    clear hs
    go_wp2_with fail
    go_ret2
    exact ⟨_, _, _, _, _, rfl, Slc.nil_, Fin.out, B1.out⟩
  · obtain ⟨N, rfl, hN1, hN2, hg8, hpm, hok⟩ := gB_pm hs
    have Hs := Lib.hid hs
    have Ok := Lib.hid hok
    have hn8 : n ≤ 8 := by rw [← hlx.out]; exact hg8
    clear hs hpm hok hg8
    by_cases hlen : np ≤ N
    · have d0 : decide ((N : Int) < (np : Int)) = false := by simp; omega
      go_wp2_with fail
      refine (implChainOf N n c A vs xss w1 X1.out hN1 hN2 hn8 Ok).mono ?_
      rintro e w3 ⟨ch, L, M, rfl, hc, ho, hw, b3⟩
      have W3 := Lib.hid hw
      have C3 := Lib.hid hc
      have O3 := Lib.hid ho
      have P3 := Lib.hid (P1.out.up b3)
      have B3 : Hid (Below w.heap.size w w3) := Lib.hid (btr B1.out b3)
      clear hc ho hw b3
      go_wp2_with fail
      refine (implMatch w1.heap.size N 0 np cp M ch L P p w3 C3.out (by omega) (Lib.hid W3.out.up) hN2 P3.out lp (by omega)).mono ?_
      rintro e w4 ⟨g, off, c', j, m, rfl, hm, hmt, hnm, hfr, b4⟩
      have B4 : Hid (Below w.heap.size w w4) := Lib.hid (btr B3.out b4)
      have C4 := Lib.hid (C3.out.up b4)
      have Hm := Lib.hid hm
      have hjN := hmt.jN
      have hjl : j = 0 ∨ j ≤ np := by have := hmt.jl; rw [lp.out] at this; exact this
      have Mt4 := Lib.hid hmt
      have Nm4 := Lib.hid hnm
      have hz4 := B4.out.size
      have Fr : Hid (j = N → Slc w4 w.heap.size (some ⟨g, off, none⟩) N c' m) := Lib.hid fun e => by
        rcases hfr with h | h
        · omega
        · exact h.mono (by have := B3.out.size; omega)
      clear hm hmt hnm hfr b4
      by_cases hj : j < np
      · have Fin : Hid (IsMw N xss p [] false) := Lib.hid (.inl ⟨Hs.out, by rw [lp.out]; omega, by
          rw [Int.toNat_natCast]
          refine .inr ⟨rfl, rfl, fun q hq hag => ?_⟩
          refine Nm4.out (by omega) (by rw [lp.out]; exact hj) q ((W3.out.mem q).2 hq) fun i _ hi => ?_
          exact hag i (by rw [lp.out]; omega)⟩)
        rw [ptr_at (show j < N by omega)]
        obtain ⟨x0, _⟩ := C4.out.cB (Nat.zero_le _) (show j < N by omega)
        have d1 : decide ((j : Int) < (np : Int)) = true := by simp; omega
        go_wp2_with fail
        go_ret2
        exact ⟨_, _, _, _, _, rfl, Slc.nil_, Fin.out, B4.out⟩
      · obtain rfl : j = np := by omega
        have Gr : Hid (GrTo N xss p m j) := Lib.hid ⟨(W3.out.mem m).1 Mt4.out.mb, fun i hi => ⟨fun _ => Mt4.out.ag i (Nat.zero_le _) hi, fun h => absurd h (by rw [lp.out]; omega)⟩⟩
        have K := implSmall w1.heap.size N 0 j c' w.heap.size M ch L xss p (some ⟨g, off, none⟩) m w4 C4.out O3.out W3 (Nat.zero_le _) hjN hN1 hN2 (Lib.hid Ok.out) Hm.out hz4 Fr Gr (by rw [lp.out]; exact Nat.le_refl _)
        have Kh := Lib.hid K
        clear K
        by_cases hjn : j < N
        · have K := Kh.out
          rw [ptr_at hjn] at K ⊢
          obtain ⟨x0, _⟩ := C4.out.cB (Nat.zero_le _) hjn
          have d1 : decide ((j : Int) < (j : Int)) = false := by simp
          go_wp2_with fail
          refine K.mono ?_
          rintro e w5 ⟨A5, c5, m5, rfl, s5, gr5, b5⟩
          have S5 := Lib.hid s5
          have B5 : Hid (Below w.heap.size w w5) := Lib.hid (btr B4.out b5)
          have Fin : Hid (IsMw N xss p m5 true) := Lib.hid (.inl ⟨Hs.out, by rw [lp.out]; omega, by rw [Int.toNat_natCast]; exact .inl ⟨rfl, gr5⟩⟩)
          clear K s5 gr5 b5
          go_wp2_with fail
          go_ret2
          exact ⟨_, _, _, _, _, rfl, S5.out, Fin.out, B5.out⟩
        · obtain rfl : j = N := by omega
          have K := Kh.out
          rw [ptr_end (Nat.le_refl _)] at K ⊢
          go_wp2_with fail
          refine K.mono ?_
          rintro e w5 ⟨A5, c5, m5, rfl, s5, gr5, b5⟩
          have S5 := Lib.hid s5
          have B5 : Hid (Below w.heap.size w w5) := Lib.hid (btr B4.out b5)
          have Fin : Hid (IsMw j xss p m5 true) := Lib.hid (.inl ⟨Hs.out, by rw [lp.out]; omega, by rw [Int.toNat_natCast]; exact .inl ⟨rfl, gr5⟩⟩)
          clear K s5 gr5 b5
          go_wp2_with fail
          go_ret2
          exact ⟨_, _, _, _, _, rfl, S5.out, Fin.out, B5.out⟩
    · have d0 : decide ((N : Int) < (np : Int)) = true := by simp; omega
      have Fin : Hid (IsMw N xss p [] false) := Lib.hid (.inr ⟨fun h => (by have := h.2; rw [lp.out] at this; omega), rfl, rfl⟩)
      go_wp2_with fail
      go_ret2
      exact ⟨_, _, _, _, _, rfl, Slc.nil_, Fin.out, B1.out⟩
end Go.Proofs.Ytooafmifbplbhaa

/- The walk of the law FnExactStrongGeneratingSet: it returns true at every input, and writes nothing that was there. No condition but the program's own contract. -/
namespace Go.Proofs.Ytooafmifbplbhaa
open Go.RowKit

set_option maxHeartbeats 4000000 in
set_option maxRecDepth 100000 in
/-- The law FnExactStrongGeneratingSet. -/
theorem lawStrongGeneratingSet (IM : CtImM 23 IsSgs) (i0 : Int) (g1A : Option Addr) (g1n g1c : Nat) (g1v : List SV) (g1x : List (List Int)) (w : World) (wfi0 : I64 i0) (hg1 : RR w w.heap.size g1A g1n g1v g1x) (hmg1 : g1n ≤ maxLen) (hkg1 : Hid (∀ i, i < g1n → (g1v.getD i sd0).2.1 ≤ maxLen)) :
    Calls Try.prog 10 #[.int .i64 i0, .slice g1A g1n g1c] w fun e w' => e = .returned (.bool true) ∧ Below w.heap.size w w' := by
  have Hg1 := Lib.hid hg1
  have hlxg1 := Lib.hid hg1.lx
  have hllg1 := Lib.hid hg1.lens
  clear hg1
  by_cases hT0 : ((g1n + tot g1v g1n : Nat) : Int) ≤ (1048576 : Int)
  · skip
    have HT0 := Lib.hid hT0
    obtain ⟨LE, eLE⟩ : ∃ L : Int, (1048576 : Int) - ((g1n + tot g1v g1n : Nat) : Int) = L := ⟨_, rfl⟩
    have hLE : ¬ LE < 0 := by omega
    have dLE : decide (LE < 0) = false := by simp; omega
    have ELE := Lib.hid eLE
    clear eLE
    have hng1 : g1n ≤ 1048576 := by omega
    have KTg1 : Hid (tot g1v g1n ≤ 1048576) := Lib.hid (by omega)
    have hlg1 : Hid (∀ i, i < g1n → (g1v.getD i sd0).2.1 ≤ 1048576) := Lib.hid fun i hi => by have := tot_row (vs := g1v) hi; have := KTg1.out; omega
    have hylg1 : Hid (∀ i, i < g1n → (g1x.getD i []).length ≤ 1048576) := Lib.hid fun i hi => by rw [hllg1.out i hi]; exact hlg1.out i hi
    clear hT0 
    go_enter Try.func10, Try.ntmps10
    go_wp2_with fail
    have K0 := szSS2 g1A g1n g1c 1048576 g1v g1x w Hg1.out hmg1 hkg1 (by decide) (by decide)
    refine K0.mono ?_
    rintro e w0 ⟨rfl, rfl⟩
    clear K0
    rw [if_pos HT0.out]
    rw [ELE.out]
    go_wp2_with fail
    refine (toSS g1A g1n g1c g1v g1x w Hg1.out hng1 hlg1).mono ?_
    rintro e w1 ⟨A1, c1, us1, rfl, s1, q1, b1⟩
    have Z1 : Hid (w.heap.size ≤ w1.heap.size) := Lib.hid b1.size
    have B1 : Hid (Below w.heap.size w w1) := Lib.hid b1
    have Ftg1_1 := Lib.hid s1
    have Ltg1 : Hid (Lies A1 g1n c1 w.heap.size w1.heap.size) := Lib.hid s1.lt_
    have Itg1 : Hid (∀ t, t < g1n → ∀ k, (sval (us1.getD t sd0)).ownBlock = some k → w.heap.size ≤ k ∧ k < w1.heap.size) := Lib.hid fun t ht => (s1.row t ht).lt_
    have Qtg1 := Lib.hid q1
    have hltg1 : Hid (∀ i, i < g1n → (us1.getD i sd0).2.1 ≤ 1048576) := Lib.hid fun i hi => by rw [q1 i hi]; exact hlg1.out i hi
    clear s1 b1 q1
    go_wp2_with fail
    have K2 := ctSgs i0 A1 g1n c1 us1 g1x w1 ⟨Ftg1_1.out.rr, hng1, hltg1.out⟩ wfi0
    refine K2.mono ?_
    clear K2
    rintro e w2 ⟨A2, n2, c2, us2, z2, rfl, s2, r2, b2⟩
    have m2 : n2 ≤ 1048576 := by have := (boundSgs r2).1; have := s2.lx; omega
    have Z2 : Hid (w1.heap.size ≤ w2.heap.size) := Lib.hid b2.size
    have B2 : Hid (Below w.heap.size w w2) := Lib.hid (btr B1.out b2)
    have Ftg1_2 := Lib.hid (Ftg1_1.out.up b2)
    clear Ftg1_1
    have HR := Lib.hid r2
    clear r2
    have FW_2 := Lib.hid s2
    have LW : Hid (Lies A2 n2 c2 w1.heap.size w2.heap.size) := Lib.hid s2.lt_
    have IW : Hid (∀ t, t < n2 → ∀ k, (sval (us2.getD t sd0)).ownBlock = some k → w1.heap.size ≤ k ∧ k < w2.heap.size) := Lib.hid fun t ht => (s2.row t ht).lt_
    clear s2 b2
    clear Ftg1_2
    go_wp2_with fail
    refine (toSS g1A g1n g1c g1v g1x w2 (Hg1.out.up B2.out) hng1 hlg1).mono ?_
    rintro e w3 ⟨A3, c3, us3, rfl, s3, q3, b3⟩
    have Z3 : Hid (w2.heap.size ≤ w3.heap.size) := Lib.hid b3.size
    have B3 : Hid (Below w.heap.size w w3) := Lib.hid (btr B2.out b3)
    have FW_3 := Lib.hid (FW_2.out.up b3)
    clear FW_2
    have Fxg1_3 := Lib.hid s3
    have Lxg1 : Hid (Lies A3 g1n c3 w2.heap.size w3.heap.size) := Lib.hid s3.lt_
    have Ixg1 : Hid (∀ t, t < g1n → ∀ k, (sval (us3.getD t sd0)).ownBlock = some k → w2.heap.size ≤ k ∧ k < w3.heap.size) := Lib.hid fun t ht => (s3.row t ht).lt_
    have Qxg1 := Lib.hid q3
    have hlxg1 : Hid (∀ i, i < g1n → (us3.getD i sd0).2.1 ≤ 1048576) := Lib.hid fun i hi => by rw [q3 i hi]; exact hlg1.out i hi
    clear s3 b3 q3
    go_wp2_with fail
    have K4 := IM i0 A3 g1n c3 us3 g1x w3 ⟨Fxg1_3.out.rr, hng1, hlxg1.out⟩ wfi0
    refine K4.mono ?_
    clear K4
    rintro e w4 ⟨A4, n4, c4, us4, z4, rfl, s4, r4, b4⟩
    have m4 : n4 ≤ 1048576 := by have := (boundSgs r4).1; have := s4.lx; omega
    have Z4 : Hid (w3.heap.size ≤ w4.heap.size) := Lib.hid b4.size
    have B4 : Hid (Below w.heap.size w w4) := Lib.hid (btr B3.out b4)
    have FW_4 := Lib.hid (FW_3.out.up b4)
    clear FW_3
    have Fxg1_4 := Lib.hid (Fxg1_3.out.up b4)
    clear Fxg1_3
    have e4 := HR.out.uniq r4
    subst e4
    clear r4
    have FG_4 := Lib.hid s4
    have LG : Hid (Lies A4 n4 c4 w3.heap.size w4.heap.size) := Lib.hid s4.lt_
    have IG : Hid (∀ t, t < n4 → ∀ k, (sval (us4.getD t sd0)).ownBlock = some k → w3.heap.size ≤ k ∧ k < w4.heap.size) := Lib.hid fun t ht => (s4.row t ht).lt_
    clear s4 b4
    go_wp2_with fail
    refine (eqRR_same A4 A2 n4 c4 n2 c2 us4 us2 _ w4 FG_4.out.rr FW_4.out.rr (by omega) (Lib.hid fun i hi => (boundSgs HR.out).2.1 i (by rw [FG_4.out.lx]; exact hi))).mono ?_
    rintro e w5 ⟨rfl, b5⟩
    have Z5 : Hid (w4.heap.size ≤ w5.heap.size) := Lib.hid b5.size
    have B5 : Hid (Below w.heap.size w w5) := Lib.hid (btr B4.out b5)
    have FW_5 := Lib.hid (FW_4.out.up b5)
    clear FW_4
    have Fxg1_5 := Lib.hid (Fxg1_4.out.up b5)
    clear Fxg1_4
    have FG_5 := Lib.hid (FG_4.out.up b5)
    clear FG_4
    clear b5
    go_wp2_with fail
    refine (toSS g1A g1n g1c g1v g1x w5 (Hg1.out.up B5.out) hng1 hlg1).mono ?_
    rintro e w6 ⟨A6, c6, us6, rfl, s6, q6, b6⟩
    have Z6 : Hid (w5.heap.size ≤ w6.heap.size) := Lib.hid b6.size
    have B6 : Hid (Below w.heap.size w w6) := Lib.hid (btr B5.out b6)
    have FW_6 := Lib.hid (FW_5.out.up b6)
    clear FW_5
    have Fxg1_6 := Lib.hid (Fxg1_5.out.up b6)
    clear Fxg1_5
    have FG_6 := Lib.hid (FG_5.out.up b6)
    clear FG_5
    have Fyg1_6 := Lib.hid s6
    have Lyg1 : Hid (Lies A6 g1n c6 w5.heap.size w6.heap.size) := Lib.hid s6.lt_
    have Iyg1 : Hid (∀ t, t < g1n → ∀ k, (sval (us6.getD t sd0)).ownBlock = some k → w5.heap.size ≤ k ∧ k < w6.heap.size) := Lib.hid fun t ht => (s6.row t ht).lt_
    have Qyg1 := Lib.hid q6
    have hlyg1 : Hid (∀ i, i < g1n → (us6.getD i sd0).2.1 ≤ 1048576) := Lib.hid fun i hi => by rw [q6 i hi]; exact hlg1.out i hi
    clear s6 b6 q6
    go_wp2_with fail
    refine (eqRR_same A3 A6 g1n c3 g1n c6 us3 us6 _ w6 Fxg1_6.out.rr Fyg1_6.out.rr (by omega) hylg1).mono ?_
    rintro e w7 ⟨rfl, b7⟩
    have Z7 : Hid (w6.heap.size ≤ w7.heap.size) := Lib.hid b7.size
    have B7 : Hid (Below w.heap.size w w7) := Lib.hid (btr B6.out b7)
    have FW_7 := Lib.hid (FW_6.out.up b7)
    clear FW_6
    have Fxg1_7 := Lib.hid (Fxg1_6.out.up b7)
    clear Fxg1_6
    have FG_7 := Lib.hid (FG_6.out.up b7)
    clear FG_6
    have Fyg1_7 := Lib.hid (Fyg1_6.out.up b7)
    clear Fyg1_6
    clear b7
    clear Fyg1_7
    have KTx : Hid (tot us3 g1n ≤ 1048576) := Lib.hid (by rw [tot_eq g1n Qxg1.out]; exact KTg1.out)
    go_wp2_with fail
    refine (markSS A3 g1n c3 _ _ us3 _ w7 Fxg1_7.out (by omega) KTx).mono ?_
    rintro e w8 ⟨rfl, s8, o8⟩
    have Z8 : Hid (w7.heap.size ≤ w8.heap.size) := Lib.hid o8.size
    have B8 : Hid (Below w.heap.size w w8) := Lib.hid (B7.out.trans (o8.below B7.out.size (fun t ht k e => by have h2 := Ixg1.out t ht k e; have := Z1.out; have := Z2.out; have := Z3.out; have := Z4.out; have := Z5.out; have := Z6.out; have := Z7.out; have := Z8.out; omega)))
    have FW_8 := Lib.hid (FW_7.out.only2 o8 (fun k hk t ht e => by have h1 := LW.out k hk; have h2 := Ixg1.out t ht k e; have := Z1.out; have := Z2.out; have := Z3.out; have := Z4.out; have := Z5.out; have := Z6.out; have := Z7.out; have := Z8.out; omega) (fun s hs k hk t ht e => by have h1 := IW.out s hs k hk; have h2 := Ixg1.out t ht k e; have := Z1.out; have := Z2.out; have := Z3.out; have := Z4.out; have := Z5.out; have := Z6.out; have := Z7.out; have := Z8.out; omega))
    clear FW_7
    have Fxg1_8 := Lib.hid s8
    clear Fxg1_7
    have FG_8 := Lib.hid (FG_7.out.only2 o8 (fun k hk t ht e => by have h1 := LG.out k hk; have h2 := Ixg1.out t ht k e; have := Z1.out; have := Z2.out; have := Z3.out; have := Z4.out; have := Z5.out; have := Z6.out; have := Z7.out; have := Z8.out; omega) (fun s hs k hk t ht e => by have h1 := IG.out s hs k hk; have h2 := Ixg1.out t ht k e; have := Z1.out; have := Z2.out; have := Z3.out; have := Z4.out; have := Z5.out; have := Z6.out; have := Z7.out; have := Z8.out; omega))
    clear FG_7
    clear s8 o8
    obtain ⟨T, eT⟩ : ∃ T, tot us3 g1n = T := ⟨_, rfl⟩
    have hT9 : T ≤ 1048576 := by rw [← eT]; exact KTx.out
    rw [eT]
    clear eT
    go_wp2_with fail
    refine (eqRR_same A4 A2 n4 c4 n2 c2 us4 us2 _ w8 FG_8.out.rr FW_8.out.rr (by omega) (Lib.hid fun i hi => (boundSgs HR.out).2.1 i (by rw [FG_8.out.lx]; exact hi))).mono ?_
    rintro e w9 ⟨rfl, b9⟩
    have Z9 : Hid (w8.heap.size ≤ w9.heap.size) := Lib.hid b9.size
    have B9 : Hid (Below w.heap.size w w9) := Lib.hid (btr B8.out b9)
    have FW_9 := Lib.hid (FW_8.out.up b9)
    clear FW_8
    have Fxg1_9 := Lib.hid (Fxg1_8.out.up b9)
    clear Fxg1_8
    have FG_9 := Lib.hid (FG_8.out.up b9)
    clear FG_8
    clear b9
    clear Fxg1_9
    have KG : Hid (tot us4 n4 ≤ 1048576) := Lib.hid (by
      have h9 := (boundSgs HR.out).2.2
      rw [FG_9.out.tot_sum]; exact h9)
    go_wp2_with fail
    refine (markSS A4 n4 c4 _ _ us4 _ w9 FG_9.out (by omega) KG).mono ?_
    rintro e w10 ⟨rfl, s10, o10⟩
    have Z10 : Hid (w9.heap.size ≤ w10.heap.size) := Lib.hid o10.size
    have B10 : Hid (Below w.heap.size w w10) := Lib.hid (B9.out.trans (o10.below B9.out.size (fun t ht k e => by have h2 := IG.out t ht k e; have := Z1.out; have := Z2.out; have := Z3.out; have := Z4.out; have := Z5.out; have := Z6.out; have := Z7.out; have := Z8.out; have := Z9.out; have := Z10.out; omega)))
    have FW_10 := Lib.hid (FW_9.out.only2 o10 (fun k hk t ht e => by have h1 := LW.out k hk; have h2 := IG.out t ht k e; have := Z1.out; have := Z2.out; have := Z3.out; have := Z4.out; have := Z5.out; have := Z6.out; have := Z7.out; have := Z8.out; have := Z9.out; have := Z10.out; omega) (fun s hs k hk t ht e => by have h1 := IW.out s hs k hk; have h2 := IG.out t ht k e; have := Z1.out; have := Z2.out; have := Z3.out; have := Z4.out; have := Z5.out; have := Z6.out; have := Z7.out; have := Z8.out; have := Z9.out; have := Z10.out; omega))
    clear FW_9
    have FG_10 := Lib.hid s10
    clear FG_9
    clear s10 o10
    obtain ⟨U, eU⟩ : ∃ U, tot us4 n4 = U := ⟨_, rfl⟩
    have EU := Lib.hid eU
    have hU9 : U ≤ 1048576 := by rw [← eU]; exact KG.out
    rw [eU]
    clear eU
    go_wp2_with fail
    refine (heldSS A4 n4 c4 _ _ us4 w10 FG_10.out (by omega) KG).mono ?_
    rintro e w' ⟨rfl, rfl⟩
    rw [EU.out]
    go_wp2_with fail
    refine (toSS g1A g1n g1c g1v g1x w10 (Hg1.out.up B10.out) hng1 hlg1).mono ?_
    rintro e w11 ⟨A11, c11, us11, rfl, s11, q11, b11⟩
    have Z11 : Hid (w10.heap.size ≤ w11.heap.size) := Lib.hid b11.size
    have B11 : Hid (Below w.heap.size w w11) := Lib.hid (btr B10.out b11)
    have FW_11 := Lib.hid (FW_10.out.up b11)
    clear FW_10
    have FG_11 := Lib.hid (FG_10.out.up b11)
    clear FG_10
    have Fzg1_11 := Lib.hid s11
    have Lzg1 : Hid (Lies A11 g1n c11 w10.heap.size w11.heap.size) := Lib.hid s11.lt_
    have Izg1 : Hid (∀ t, t < g1n → ∀ k, (sval (us11.getD t sd0)).ownBlock = some k → w10.heap.size ≤ k ∧ k < w11.heap.size) := Lib.hid fun t ht => (s11.row t ht).lt_
    have Qzg1 := Lib.hid q11
    have hlzg1 : Hid (∀ i, i < g1n → (us11.getD i sd0).2.1 ≤ 1048576) := Lib.hid fun i hi => by rw [q11 i hi]; exact hlg1.out i hi
    clear s11 b11 q11
    go_wp2_with fail
    have K12 := IM i0 A11 g1n c11 us11 g1x w11 ⟨Fzg1_11.out.rr, hng1, hlzg1.out⟩ wfi0
    refine K12.mono ?_
    clear K12
    rintro e w12 ⟨A12, n12, c12, us12, z12, rfl, s12, r12, b12⟩
    have m12 : n12 ≤ 1048576 := by have := (boundSgs r12).1; have := s12.lx; omega
    have Z12 : Hid (w11.heap.size ≤ w12.heap.size) := Lib.hid b12.size
    have B12 : Hid (Below w.heap.size w w12) := Lib.hid (btr B11.out b12)
    have FW_12 := Lib.hid (FW_11.out.up b12)
    clear FW_11
    have FG_12 := Lib.hid (FG_11.out.up b12)
    clear FG_11
    have Fzg1_12 := Lib.hid (Fzg1_11.out.up b12)
    clear Fzg1_11
    have e12 := HR.out.uniq r12
    subst e12
    clear r12
    have FH_12 := Lib.hid s12
    have LH : Hid (Lies A12 n12 c12 w11.heap.size w12.heap.size) := Lib.hid s12.lt_
    have IH : Hid (∀ t, t < n12 → ∀ k, (sval (us12.getD t sd0)).ownBlock = some k → w11.heap.size ≤ k ∧ k < w12.heap.size) := Lib.hid fun t ht => (s12.row t ht).lt_
    clear s12 b12
    clear Fzg1_12
    go_wp2_with fail
    refine (eqRR_same A12 A2 n12 c12 n2 c2 us12 us2 _ w12 FH_12.out.rr FW_12.out.rr (by omega) (Lib.hid fun i hi => (boundSgs HR.out).2.1 i (by rw [FH_12.out.lx]; exact hi))).mono ?_
    rintro e w13 ⟨rfl, b13⟩
    have Z13 : Hid (w12.heap.size ≤ w13.heap.size) := Lib.hid b13.size
    have B13 : Hid (Below w.heap.size w w13) := Lib.hid (btr B12.out b13)
    have FW_13 := Lib.hid (FW_12.out.up b13)
    clear FW_12
    have FG_13 := Lib.hid (FG_12.out.up b13)
    clear FG_12
    have FH_13 := Lib.hid (FH_12.out.up b13)
    clear FH_12
    clear b13
    go_wp2_with fail
    refine (heldSS A4 n4 c4 _ _ us4 w13 FG_13.out (by omega) KG).mono ?_
    rintro e w' ⟨rfl, rfl⟩
    rw [EU.out]
    go_wp2_with fail
    go_ret
    exact ⟨rfl, B13.out⟩
  · skip
    have HT0 := Lib.hid hT0
    clear hT0
    go_enter Try.func10, Try.ntmps10
    go_wp2_with fail
    have K0 := szSS2 g1A g1n g1c 1048576 g1v g1x w Hg1.out hmg1 hkg1 (by decide) (by decide)
    refine K0.mono ?_
    rintro e w0 ⟨rfl, rfl⟩
    clear K0
    rw [if_neg (Int.not_le.2 HT0.out)]
    go_wp2
    go_ret
    exact ⟨rfl, Below.refl _ _⟩
end Go.Proofs.Ytooafmifbplbhaa
