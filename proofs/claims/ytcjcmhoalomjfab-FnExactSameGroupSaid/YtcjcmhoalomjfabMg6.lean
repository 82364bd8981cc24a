/- Part 6 of the texts: PcA, PcC, PcF, PcG, PcN, PcS, Arg, RowB, DrawG, DrawX, DrawM, WalkI4. No condition of its own: each text tells its own. -/
import Derived.Test.YtcjcmhoalomjfabMg5
import Derived.Test.YtcjcmhoalomjfabMg4
import Derived.Test.YtcjcmhoalomjfabMg3
import Derived.Test.YtcjcmhoalomjfabMg1
import Derived.Test.YtcjcmhoalomjfabMg2
import Derived.Deep.CutRange
import Derived.Deep.LoopGhost
import Derived.ChangeArms
import Derived.ProofKit
import Derived.OpenShut
import Derived.ChangeSlices
set_option linter.unusedVariables false
set_option linter.unusedSimpArgs false

/- The program's add: a permutation that fixes every point before the base is added to a link. Conditions: at most 20 points; the chain whole from the link on. -/
namespace Go.Proofs.Ytcjcmhoalomjfab
open Go.RowKit

theorem boolOf (P : Prop) : ∃ b : Bool, b = true ↔ P := by
  by_cases h : P
  · exact ⟨true, fun _ => h, fun _ => rfl⟩
  · exact ⟨false, fun e => (Bool.false_ne_true e).elim, fun e => (h e).elim⟩

set_option maxHeartbeats 8000000 in
set_option maxRecDepth 100000 in
theorem implAdd1 (base N k : Nat) (hk : k < N) (h2N : N ≤ 20) (IN : k + 1 < N → INs base N k) : ADs base N k := by
  intro M c L A cp p w hc ho hd hP hF hU
  obtain ⟨ans, hans⟩ := boolOf (Mb (c.gen k) N p)
  have Ha := Lib.hid hans
  have HC := Lib.hid hc
  have HO := Lib.hid ho
  have HD := Lib.hid hd
  have HP := Lib.hid hP
  have HF := Lib.hid hF
  have HU := Lib.hid hU
  have hbs : base ≤ w.heap.size := by have := hc.mlt _ (hc.mm k 0 _ (Nat.le_refl _) hk (by decide) rfl); omega
  clear hc ho hd hP hF hU hans
  go_enter Try.func80, Try.ntmps80
  go_wp2_with fail
  refine (implContains base N k cp M c L A p w HC.out hk HU h2N HD.out.ri HP HF ans Ha).mono ?_
  rintro e w1 ⟨rfl, b1⟩
  have C1 := Lib.hid (HC.out.up b1)
  have D1 := Lib.hid (HD.out.up b1)
  have B1 := Lib.hid b1
  rcases ans with _ | _
  · have NM : Hid (¬ Mb (c.gen k) N p) := Lib.hid fun h => Bool.false_ne_true (Ha.out.2 h)
    have NS : Hid (¬ Sv N c k p) := Lib.hid fun h => NM.out ((HU.out.sv k (Nat.le_refl _) (by omega) p).1 h)
    have hk1 : k + 1 < N := by
      rcases Nat.lt_or_ge (k + 1) N with h | h
      · exact h
      · exact absurd (sv_last HU.out (by omega) (by omega) h2N HP.out HF.out) NS.out
    obtain ⟨b, hA⟩ : ∃ b : Nat × Nat, A = some ⟨b.1, b.2, none⟩ := by
      obtain ⟨b, off, e, _⟩ := D1.out.at_ (by rw [HP.out.2]; omega)
      exact ⟨(b, off), e⟩
    obtain ⟨b, off⟩ := b
    have hA : A = some ⟨b, off, none⟩ := hA
    subst hA
    obtain ⟨x0, x1, x2, x3, x4⟩ := C1.out.cB (Nat.le_refl _) hk
    have hl := C1.out.lk k (Nat.le_refl _) hk
    have ho := hl.gown
    obtain ⟨G, hG⟩ : ∃ G, (c.gen k).length = G := ⟨_, rfl⟩
    have HG := Lib.hid hG
    have hG4 : G ≤ 400 := by
      rw [← hG]
      have h1 := HU.out.len k (Nat.le_refl _) hk
      have h2 := cnt_le N c k
      have h3 := Nat.mul_le_mul h2N h2N
      omega
    rcases hgv : (L k).g with ⟨gA, gn, gc⟩
    rw [hgv, hG] at ho
    rw [hgv] at x1
    obtain rfl : gn = G := by
      rcases ho.2 with ⟨e, h0⟩ | ⟨g', cap, cur, e, _⟩
      · unfold sval at e; injection e with _ e2 _; have e2 : gn = 0 := e2; omega
      · unfold sval at e; injection e with _ e2 _
    have ho : w1.ownsRow base 47 1 (.slice gA gn gc) gn ((L k).ge.map sval) := ho
    simp only [sval] at x1
    have Ho := Lib.hid ho
    have Hgv := Lib.hid hgv
    rcases hov : (L k).o with ⟨oA, on, oc⟩
    have hol := C1.out.olen (Nat.le_refl _) hk
    rw [hov] at hol
    have hol : on = (L k).orb.length := hol
    have Hol := Lib.hid hol
    have Hov := Lib.hid hov
    have hO20 := (HO.out k (Nat.le_refl _) hk).len (HU.out.rep k (Nat.le_refl _) hk)
    have hon : on ≤ N := by omega
    clear hol hO20
    try clear hol
    clear hov
    have fzB := hl.blk.frozen 1
    have bw1 : base ≤ w1.heap.size := by have := B1.out.size; omega
    obtain ⟨Lt, hLt⟩ : ∃ Lt, Obj.cells #[Value.slice (some ⟨b, off, none⟩) N cp] 47 = Lt := ⟨_, rfl⟩
    have Lit : Hid ((w1.alloc (.cells #[.slice (some ⟨b, off, none⟩) N cp] 47)).cell? ⟨w1.heap.size, 0, none⟩ = some (sval (some ⟨b, off, none⟩, N, cp))) := Lib.hid (by rw [World.cell?_alloc_at _ _ _ _ rfl]; rfl)
    have BL : Hid (Below w1.heap.size w1 (w1.alloc (.cells #[.slice (some ⟨b, off, none⟩) N cp] 47))) := Lib.hid ((Below.refl _ _).alloc (Nat.le_refl _) _)
    have PA : Hid (∀ (A4 : Option Addr) (c4 : Nat) (w4 : World), w4.ownsRow base 47 1 (.slice A4 (gn + 1) c4) (gn + 1) ((L k).ge.map sval ++ [sval (some ⟨b, off, none⟩, N, cp)]) → (w1.alloc (.cells #[.slice (some ⟨b, off, none⟩) N cp] 47)).grownBy w4 (Value.slice gA gn gc).ownBlock →
        ((Value.slice A4 (gn + 1) c4).ownBlock = (Value.slice gA gn gc).ownBlock ∨ (Value.slice A4 (gn + 1) c4).ownBlock = some (w1.alloc (.cells #[.slice (some ⟨b, off, none⟩) N cp] 47)).heap.size) →
        (w4.setCell ⟨(L k).B, 1, none⟩ (.slice A4 (gn + 1) c4)).cell? ⟨(L k).B, 2, none⟩ = some (.slice oA on oc) ∧ w4.cell? ⟨(L k).B, 1, none⟩ = some (.slice gA gn gc) ∧ w4.frozen? ⟨(L k).B, 1, none⟩ = false ∧ ∃ (L' : Nat → LK) (M' : Nat → Prop), Ck (w4.setCell ⟨(L k).B, 1, none⟩ (.slice A4 (gn + 1) c4)) base N k M' (c.push k p) L' ∧ Orbs N k (c.push k p) L' ∧ Gw w (w4.setCell ⟨(L k).B, 1, none⟩ (.slice A4 (gn + 1) c4)) N k L L' M M' ∧ (L' k).orb = (L k).orb ∧ (L' k).g = (A4, gn + 1, c4)) := Lib.hid (by
      intro A4 c4 w4 s4 g4 hat
      obtain ⟨M', K1, K2⟩ := C1.out.pushg hk BL.out (q := p) (d := (some ⟨b, off, none⟩, N, cp)) (A := A4) (n := gn + 1) (cc := c4) (by rw [Hgv.out]; exact g4) (by rw [HG.out]; exact s4) (by rw [Hgv.out]; exact hat) D1.out
      have blk1 : Blk w4 (L k).B 69 #[.int .i64 (k : Nat), sval (L k).g, sval (L k).o, .slice (some ⟨(L k).mb, 0, none⟩) N N, ptr N L (k + 1)] := by
        have h0 := (C1.out.lk k (Nat.le_refl _) hk).blk
        have h1 := h0.chg (S := fun _ => False) (.of_below BL.out) (fun e => e)
        refine h1.grown g4 fun e => ?_
        have := (C1.out.dis k 0 k 1 (L k).B (Nat.le_refl _) hk (by decide) (Nat.le_refl _) hk (by decide) rfl (by show (sval (L k).g).ownBlock = _; rw [Hgv.out]; exact e.symm)).2
        omega
      refine ⟨?_, by rw [blk1.cell 1, Hgv.out]; rfl, blk1.frozen 1, _, M', K1, fun i a b => ?_, (Gw.of_below B1.out).trans K2, ?_, ?_⟩
      · have h3 := (K1.cB (Nat.le_refl _) hk).2.2.1
        rw [upd_at] at h3
        have h3 : (w4.setCell ⟨(L k).B, 1, none⟩ (.slice A4 (gn + 1) c4)).cell? ⟨(L k).B, 2, none⟩ = some (sval (L k).o) := h3
        rw [Hov.out] at h3; exact h3
      · by_cases ei : i = k
        · subst ei
          rw [upd_at]
          exact (HO.out i a b).congr fun z => rfl
        · rw [upd_ne ei]
          exact (HO.out i a b).congr fun z => rfl
      · rw [upd_at]
      · rw [upd_at])
    have P0 : Hid (Low N (c.push k p) k) := Lib.hid (HU.out.pushed hk (by omega) h2N HP.out HF.out)
    clear hl ho hG hgv b1 HC HD hLt
    go_wp2_with (first
      | (at_builtin; go_must (refine wpList_appP rfl _ _ rfl base (.slice gA gn gc) gn ((L k).ge.map sval) rfl (World.ownsRow.alloc Ho.out _) w1.heap.size (some ⟨b, off, none⟩, N, cp) rfl Lit.out (by omega) (by simp; omega) ?_); intro A4 c4 w4 s4 g4 hat4; obtain ⟨v0, v1, v2, v3⟩ := PA.out A4 c4 w4 s4 g4 hat4; have V3 := Lib.hid v3; clear s4 g4 hat4 v3))
    obtain ⟨L3, M3, hc3, ho3, hg3, horb3, hgk3⟩ := V3.out
    generalize w4.setCell ⟨(L k).B, 1, none⟩ (.slice A4 (gn + 1) c4) = w5 at v0 hc3 hg3 ⊢
    have St : Hid (Bf N k (c.push k p) (c.push k p) (L3 k).orb p on 0 0) := Lib.hid (by
      have h3 := Bf.start (p := p) P0.out (ho3 k (Nat.le_refl _) hk)
      have e3 : (L3 k).orb.length = on := by rw [horb3, Hol.out]
      rw [e3] at h3; exact h3)
    have C3 := Lib.hid hc3
    have O3 := Lib.hid ho3
    have G3 := Lib.hid hg3
    have glen : ((c.push k p).gen k).length = gn + 1 := by rw [push_at, List.length_append, HG.out]; rfl
    have Gl := Lib.hid glen
    clear hc3 ho3 hg3 horb3 hgk3 v1 v2 V3 PA glen BL Lit fzB x1 x0 x2 x3 x4
    go_loopg [5, 6, 7, 9] N (fun gg iv _ _ _ wr => ∃ (i : Nat) (cj : Ch) (Lj : Nat → LK) (Mj : Nat → Prop), i ≤ (Lj k).orb.length ∧ N - i ≤ gg ∧ iv = .int .i64 (i : Nat) ∧ Ck wr base N k Mj cj Lj ∧ Orbs N k cj Lj ∧ Gw w wr N k L Lj M Mj ∧ Bf N k (c.push k p) cj (Lj k).orb p on i 0)
    case atStart => exact ⟨0, c.push k p, L3, M3, Nat.zero_le _, by omega, rfl, C3.out, O3.out, G3.out, St.out⟩
    case round =>
      clear C3 O3 G3 St
      obtain ⟨i, cj, Lj, Mj, hi, hgg, rfl, hc, ho, hg, hbf⟩ := hrel
      have Cj := Lib.hid hc
      have Oj := Lib.hid ho
      have Gj := Lib.hid hg
      have Bj := Lib.hid hbf
      have hBk : (Lj k).B = (L k).B := hg.ptr k
      obtain ⟨x0, x1, x2, x3, x4⟩ := hc.cB (Nat.le_refl _) hk
      rw [hBk] at x0 x1 x2 x3 x4
      have hlenj := hc.olen (Nat.le_refl _) hk
      have hOr := ho k (Nat.le_refl _) hk
      have h20 := hOr.len hbf.low.rep
      have hbl := hbf.len
      have eg : (cj.gen k).length = gn + 1 := by rw [hbf.gen]; exact Gl.out
      obtain ⟨m, hm⟩ : ∃ m, (Lj k).orb.length = m := ⟨_, rfl⟩
      have Hm := Lib.hid hm
      rw [hm] at hi h20 hbl hlenj
      by_cases hlt : i < m
      · obtain ⟨ob, oc2, hoe, x6⟩ := hc.cO (Nat.le_refl _) hk (j := i) (by rw [hm]; exact hlt)
        rw [hoe] at x2
        rw [hm] at x2
        obtain ⟨y, ey⟩ : ∃ y, (Lj k).orb.getD i 0 = y := ⟨_, rfl⟩
        rw [ey] at x6
        have hyO : y ∈ (Lj k).orb := by rw [← ey, List.getD_eq_getElem?_getD, List.getElem?_eq_getElem (by rw [hm]; exact hlt)]; exact List.getElem_mem _
        have hry : cj.rep k y ≠ [] := (hOr.2 y).1 hyO
        obtain ⟨hy, hrP, hrF, hrk⟩ := hbf.low.rep.at_ y hry
        have x7 := hc.cM (Nat.le_refl _) hk hy
        have hrd := (hc.eM (Nat.le_refl _) hk hy).2 hry
        rcases hde : (Lj k).en.getD y sd0 with ⟨dA, dn, dc⟩
        rw [hde] at x7 hrd
        obtain ⟨gq, gcq, hge, hcap, x8, hrg⟩ := hc.cG (Nat.le_refl _) hk (j := 0) (by omega)
        rw [hge] at x1
        rw [eg] at x1 hcap
        simp only [sval] at x1 x2 x7
        have q0 : (0 : Int) ≤ i := by omega
        have q1 : (i : Int) < m := by omega
        have q2 : (0 : Int) ≤ y := by omega
        have q3 : (y : Int) < N := by omega
        have Ey := Lib.hid ey
        have Hry := Lib.hid hry
        have Rd0 := Lib.hid hrd
        have Hge := Lib.hid hge
        have RP := Lib.hid hrP
        clear hc ho hg hbf hlenj hOr hm hoe hyO hry hrP hrF hrk hde hrd hge x8 hrg ey eg
        go_wp2_with fail
        go_quiet (fail)
        have B3 : Hid (Below wr.heap.size wr (wr.drewN nq)) := Lib.hid (pcDrewBelow wr nq)
        obtain ⟨wz, hwz⟩ : ∃ wz, wr.drewN nq = wz := ⟨_, rfl⟩
        rw [hwz] at B3 ⊢
        have Cz := Lib.hid (Cj.out.up B3.out)
        have Rz := Lib.hid (Rd0.out.up B3.out)
        have Gz : Hid (Gw w wz N k L Lj M Mj) := Lib.hid (Gj.out.trans (.of_below B3.out))
        clear hwz B3 Cj Rd0 Gj
        go_upto_if 56 with fail
        go_cut [7] from 28 to 73 (fun gv wx => wx = wz ∧ ∃ (of gl cc : Nat), gv = .slice (some ⟨gq, of, none⟩) gl cc ∧ ((i < on ∧ of = gn ∧ gl = 1) ∨ (on ≤ i ∧ of = 0 ∧ gl = gn + 1)))
        case first =>
          by_cases hin : i < on
          · have d0 : decide ((i : Int) < (on : Int)) = true := by simp; omega
            go_wp2_with fail
            go_meet
            exact ⟨rfl, gn, 1, _, rfl, .inl ⟨hin, rfl, rfl⟩⟩
          · have d0 : decide ((i : Int) < (on : Int)) = false := by simp; omega
            go_wp2_with fail
            go_meet
            exact ⟨rfl, 0, gn + 1, _, rfl, .inr ⟨by omega, rfl, rfl⟩⟩
        case rest =>
          obtain ⟨rfl, of, gl, cc, rfl, hgs⟩ := hcut
          have Gs := Lib.hid hgs
          have Gal : Hid ((gsA on ((c.push k p).gen k) p i).length = gl) := Lib.hid (by
            unfold gsA
            rcases hgs with ⟨h1, _, h3⟩ | ⟨h1, _, h3⟩
            · rw [if_pos h1, h3]; rfl
            · rw [if_neg (by omega), Gl.out, h3])
          have hgl4 : gl ≤ 401 := by omega
          have hofl : of + gl = gn + 1 := by omega
          obtain rfl : dn = N := by have h3 : (cj.rep k y).length = dn := Rz.out.len; have := RP.out.2; omega
          clear hgs
          go_wp2_with fail
          go_loopg [9, 64] gl (fun gg _ jv wr => ∃ (j : Nat) (ci : Ch) (Li : Nat → LK) (Mi : Nat → Prop), j ≤ gl ∧ gl - j ≤ gg ∧ jv = .int .i64 (j : Nat) ∧ Ck wr base dn k Mi ci Li ∧ Orbs dn k ci Li ∧ Gw w wr dn k L Li M Mi ∧ Bf dn k (c.push k p) ci (Li k).orb p on i j ∧ (Li k).g = (Lj k).g ∧ (Lj k).orb <+: (Li k).orb ∧ ci.rep k y = cj.rep k y ∧ Rd wr Mi (dA, dn, dc) (cj.rep k y))
          case atStart => exact ⟨0, cj, Lj, Mj, Nat.zero_le _, by omega, rfl, Cz.out, Oj.out, Gz.out, Bj.out, rfl, List.prefix_rfl, rfl, Rz.out⟩
          case round =>
            clear Cz Gz Rz
            obtain ⟨j, ci, Li, Mi, hj, hgg2, rfl, hc, ho, hg, hbf, hgk, hpre, hrep, hrd⟩ := hrel
            have Ci := Lib.hid hc
            have Oi := Lib.hid ho
            have Gi := Lib.hid hg
            have Bi := Lib.hid hbf
            have Gk := Lib.hid hgk
            have Pre := Lib.hid hpre
            have Rep := Lib.hid hrep
            have Rdi := Lib.hid hrd
            have gen1 : ci.gen k = c.gen k ++ [p] := by rw [hbf.gen, push_at]
            by_cases hjl : j < gl
            · obtain ⟨gq', gc', hge', _, x8, hrg⟩ := hc.cG (Nat.le_refl _) hk (j := of + j) (by rw [gen1, List.length_append, HG.out]; simp; omega)
              rw [hgk, Hge.out] at hge'
              obtain ⟨rfl, rfl⟩ : gq = gq' ∧ gcq = gc' := by
                injection hge' with h1 h2
                injection h1 with h1
                injection h1 with h1
                injection h2 with _ h2
                exact ⟨h1, h2⟩
              rcases hde : (Li k).ge.getD (of + j) sd0 with ⟨eA, en, ec⟩
              rw [hde] at x8 hrg
              obtain ⟨h, eh⟩ : ∃ h, (ci.gen k).getD (of + j) [] = h := ⟨_, rfl⟩
              rw [eh] at hrg
              have egs : (gsA on ((c.push k p).gen k) p i).getD j [] = h := by
                rw [← eh, gen1]
                unfold gsA
                rcases Gs.out with ⟨h1, h2, h3⟩ | ⟨h1, h2, h3⟩
                · obtain rfl : j = 0 := by omega
                  rw [if_pos h1, h2, getD_snoc _ _ _ (gn + 0) (by rw [HG.out]; rfl)]; rfl
                · rw [if_neg (by omega), h2, push_at, Nat.zero_add]
              have hilt : i < (Li k).orb.length := Nat.lt_of_lt_of_le (by rw [Hm.out]; exact hlt) hpre.length_le
              have eyi : (Li k).orb.getD i 0 = y := by rw [getD_pre hpre (by rw [Hm.out]; exact hlt)]; exact Ey.out
              obtain ⟨k1, k2, k3⟩ := hbf.mb (ho k (Nat.le_refl _) hk) hilt (by rw [Gal.out]; exact hjl)
              rw [egs, eyi, hrep] at k1
              rw [egs] at k3
              have hP2 := (hbf.low.gp h k3).1
              obtain rfl : en = dn := by have h3 : h.length = en := hrg.len; have := hP2.2; omega
              have K1 := Lib.hid k1
              have Egs := Lib.hid egs
              have Eyi := Lib.hid eyi
              have Hp2 := Lib.hid hP2
              have Rgi := Lib.hid hrg
              have Hil := Lib.hid hilt
              simp only [sval] at x8
              have q4 : (0 : Int) ≤ j := by omega
              have q5 : (j : Int) < gl := by omega
              clear hc ho hg hbf hgk hpre hrep hrd gen1 hge' hde eh egs hilt eyi k1 k2 k3 hP2 hrg
              go_wp2_with fail
              refine (implThen dA eA dc ec en (cj.rep k y) h wr Rdi.out.ri Rgi.out.ri (Lib.hid RP.out.2) (Lib.hid Hp2.out.2) (Lib.hid RP.out.1) h2N).mono ?_
              rintro e w3 ⟨A3, c3, rfl, s3, b3⟩
              have C4 := Lib.hid (Ci.out.up b3)
              have R4 : Hid (Rd w3 Mi (A3, en, c3) (compL (cj.rep k y) h)) := Lib.hid (Rd.of_slc (d := (A3, en, c3)) s3 fun b e => (Ci.out.mlt b e).2)
              have G4 : Hid (Gw w w3 en k L Li M Mi) := Lib.hid (Gi.out.trans (.of_below b3))
              have D4 := Lib.hid (Rdi.out.up b3)
              have eBi : (Li k).B = (L k).B := Gi.out.ptr k
              have EBi := Lib.hid eBi
              clear s3 b3 eBi
              go_wp2_with fail
              have KI := IN hk1 Mi ci Li A3 c3 (compL (cj.rep k y) h) w3 C4.out Oi.out R4.out Bi.out.low K1.out
              rw [EBi.out] at KI
              refine KI.mono ?_
              rintro e w4 ⟨c', L', M', rfl, hc4, ho4, hg4, hic, hpre4, hgk4⟩
              have C5 := Lib.hid hc4
              have O5 := Lib.hid ho4
              have G5 : Hid (Gw w w4 en k L L' M M') := Lib.hid (G4.out.trans hg4)
              have Bf5 : Hid (Bf en k (c.push k p) c' (L' k).orb p on i (j + 1)) := Lib.hid (Bi.out.next (Oi.out k (Nat.le_refl _) hk) Hil.out hpre4 (by rw [Egs.out, Eyi.out, Rep.out]; exact hic))
              have Gk5 : Hid ((L' k).g = (Lj k).g) := Lib.hid (hgk4.trans Gk.out)
              have Pre5 : Hid ((Lj k).orb <+: (L' k).orb) := Lib.hid (Pre.out.trans hpre4)
              have Rep5 : Hid (c'.rep k y = cj.rep k y) := Lib.hid (by
                rw [← Rep.out]; exact hic.grw.keep _ _ (by rw [Rep.out]; exact Hry.out))
              have D5 : Hid (Rd w4 M' (dA, en, dc) (cj.rep k y)) := Lib.hid (D4.out.gw hg4 C4.out.muM)
              clear KI hc4 ho4 hg4 hic hpre4 hgk4
              go_wp2_with fail
              go_roundg (gl - (j + 1))
              case rel => exact ⟨j + 1, c', L', M', by omega, by omega, by go_num, C5.out, O5.out, G5.out, Bf5.out, Gk5.out, Pre5.out, Rep5.out, D5.out⟩
              case measure => omega
            · obtain rfl : j = gl := by omega
              have Bf6 : Hid (Bf dn k (c.push k p) ci (Li k).orb p on (i + 1) 0) := Lib.hid (Bf.round (by rw [Gal.out]; exact Bi.out))
              have hil : i + 1 ≤ (Li k).orb.length := Nat.lt_of_lt_of_le (by rw [Hm.out]; exact hlt) hpre.length_le
              clear hc ho hg hbf hgk hpre hrep hrd gen1
              go_wp2_with fail
              go_roundg (dn - (i + 1))
              case rel => exact ⟨i + 1, ci, Li, Mi, hil, by omega, by go_num, Ci.out, Oi.out, Gi.out, Bf6.out⟩
              case measure => omega
      · obtain rfl : i = m := by omega
        have Fin : Hid (Ap N k c cj p) := Lib.hid (Bf.all HU.out hk (by omega) h2N HP.out HF.out NS.out (by rw [Hm.out]; exact Bj.out) hOr)
        simp only [sval] at x2
        clear hc ho hg hbf
        rcases hoe : (Lj k).o with ⟨oA2, on2, oc2⟩
        rw [hoe] at x2 hlenj
        have hlenj : on2 = i := hlenj
        subst hlenj
        simp only at x2
        clear hoe
        go_wp2_with fail
        go_end0
        exact ⟨rfl, cj, Lj, Mj, Cj.out, Oj.out, Gj.out, Fin.out⟩
  · have Fin : Hid (Ap N k c c p) := Lib.hid (.same HU.out (by omega) (by omega) h2N ((HU.out.sv k (Nat.le_refl _) (by omega) p).2 (Ha.out.1 rfl)))
    go_wp2_with fail
    (try simp only [Exit.inBlock, Exit.then]); refine bodyPost_ret (results_none rfl _ _ _) rfl ?_
    first
      | exact ⟨c, L, M, rfl, C1.out, HO.out, .of_below B1.out, Fin.out⟩
      | exact ⟨rfl, c, L, M, C1.out, HO.out, .of_below B1.out, Fin.out⟩
theorem implAdd (base N : Nat) (h2N : N ≤ 20) : ∀ m k, k + m + 1 = N → ADs base N k
  | 0, k, e => implAdd1 base N k (by omega) h2N fun h => absurd h (by omega)
  | m + 1, k, e => implAdd1 base N k (by omega) h2N fun h => implInclude base N k h h2N (implAdd base N h2N m (k + 1) (by omega))
end Go.Proofs.Ytcjcmhoalomjfab

/- The program's chainOf: a chain whole from link 0 on, of what the generators generate. Conditions: at most 20 points, 8 generators. -/
namespace Go.Proofs.Ytcjcmhoalomjfab
open Go.RowKit

/-- One link more, ahead of the others, in blocks of its own. -/
theorem ck_cons {w w' : World} {base N k : Nat} {M : Nat → Prop} {c : Ch} {L : Nat → LK} {l : LK} (h : Ck w base N (k + 1) M c L) (hb : Below w.heap.size w w') (hbs : base ≤ w.heap.size)
    (hl : Lk w' base N k (fun b => M b ∨ ∃ t, t < 4 ∧ mu l t = some b) (c.rep k) (c.gen k) (ptr N L (k + 1)) l)
    (hf : ∀ t b, t < 4 → mu l t = some b → w.heap.size ≤ b ∧ b < w'.heap.size) (hd : ∀ t t' b, t < 4 → t' < 4 → mu l t = some b → mu l t' = some b → t = t') :
    Ck w' base N k (fun b => M b ∨ ∃ t, t < 4 ∧ mu l t = some b) c (upd L k l) := by
  have hp : ∀ i, k ≤ i → ptr N (upd L k l) (i + 1) = ptr N L (i + 1) := fun i hi => by unfold ptr; rw [upd_ne (by omega)]
  have hx : ∀ i t t' b, k < i → i < N → t < 4 → t' < 4 → mu (L i) t = some b → mu l t' = some b → False := fun i t t' b a1 a2 a3 a4 e e' => by
    have := (h.mlt b (h.mm i t b a1 a2 a3 e)).2
    have := (hf t' b a4 e').1
    omega
  refine ⟨fun i a b => ?_, fun i t b a1 a2 a3 e => ?_, fun b e => ?_, fun i t i' t' b a1 a2 a3 a4 a5 a6 e e' => ?_⟩
  · rw [hp i a]
    by_cases ei : i = k
    · subst ei; rw [upd_at]; exact hl
    · rw [upd_ne ei]
      exact (h.lk i (by omega) b).keep (S := fun _ => False) (.of_below hb) (fun _ _ _ _ e => e) (fun _ e => e.elim) fun b e => by
        rcases e with e | ⟨t, a, e⟩
        · exact .inl e
        · exact .inr (hf t b a e).1
  · by_cases ei : i = k
    · subst ei; rw [upd_at] at e; exact .inr ⟨t, a3, e⟩
    · rw [upd_ne ei] at e; exact .inl (h.mm i t b (by omega) a2 a3 e)
  · have := hb.size
    rcases e with e | ⟨t, a, e⟩
    · have := h.mlt b e; omega
    · have := hf t b a e; omega
  · by_cases ei : i = k <;> by_cases ei' : i' = k
    · subst ei; subst ei'
      rw [upd_at] at e e'
      exact ⟨rfl, hd t t' b a3 a6 e e'⟩
    · subst ei
      rw [upd_at] at e
      rw [upd_ne ei'] at e'
      exact (hx i' t' t b (by omega) a5 a6 a3 e' e).elim
    · subst ei'
      rw [upd_at] at e'
      rw [upd_ne ei] at e
      exact (hx i t t' b (by omega) a2 a3 a6 e e').elim
    · rw [upd_ne ei] at e
      rw [upd_ne ei'] at e'
      exact h.dis i t i' t' b (by omega) a2 a3 (by omega) a5 a6 e e'
theorem orb0 {N k : Nat} (h1 : 1 ≤ N) : Orb (ch0 N) k [k] := by
  refine ⟨by simp, fun y => ?_⟩
  rw [List.mem_singleton]
  show y = k ↔ (if y = k then idL N else []) ≠ []
  by_cases e : y = k
  · rw [if_pos e]; exact ⟨fun _ e2 => by have := idL_length N; rw [e2] at this; simp at this; omega, fun _ => e⟩
  · rw [if_neg e]; exact ⟨fun h => absurd h e, fun h => absurd rfl h⟩
def lk0 : LK := ⟨0, sd0, [], sd0, 0, [], []⟩
/-- The rows of a new link. -/
theorem madeP {w : World} {base g n : Nat} (h : w.ownsRow base 47 1 (.slice (some ⟨g, 0, none⟩) n n) n (madeCells (Value.slice none 0 0).cells (n * 1)).toList) : w.ownsRow base 47 1 (.slice (some ⟨g, 0, none⟩) n n) n ((List.replicate n sd0).map sval) := by
  have e : (madeCells (Value.slice none 0 0).cells (n * 1)).toList = (List.replicate n sd0).map sval := by
    show (madeCells #[Value.slice none 0 0] (n * 1)).toList = _
    rw [toList_madeCells_one]; simp [sval, sd0]
  rw [← e]; exact h

theorem ck_new {wr wA : World} {base N k B1 c2 : Nat} {M : Nat → Prop} {L : Nat → LK} {po : Option Addr} {A2 : Option Addr} (h : Ck wr base N (k + 1) M (ch0 N) L) (hk : k < N) (hpo : ptr N L (k + 1) = .pointer po) (BA : Below wr.heap.size wr wA)
    (RA : wA.ownsRow base 47 1 (.slice (some ⟨wr.heap.size, 0, none⟩) N N) N (((List.replicate N sd0).set k (A2, N, c2)).map sval)) (hB1 : wr.heap.size < B1) (SA : Slc wA B1 A2 N c2 (idL N)) (hbs : base ≤ wr.heap.size) :
    ∃ (L' : Nat → LK) (M' : Nat → Prop), Ck ((wA.alloc (.cells #[.int .i64 (k : Nat)] 2)).alloc (.cells #[.int .i64 (k : Nat), .slice none 0 0, .slice (some ⟨wA.heap.size, 0, none⟩) 1 1, .slice (some ⟨wr.heap.size, 0, none⟩) N N, .pointer po] 69)) base N k M' (ch0 N) L' ∧
      (L' k).B = wA.heap.size + 1 ∧ (∀ i, k < i → L' i = L i) ∧ (L' k).orb = [k] ∧ (∀ b, M b → M' b) ∧ (∀ b, Mu N k L' b → Mu N (k + 1) L b ∨ wr.heap.size ≤ b) := by
  obtain ⟨l, hl⟩ : ∃ l : LK, l = ⟨wA.heap.size + 1, sd0, [], (some ⟨wA.heap.size, 0, none⟩, 1, 1), wr.heap.size, (List.replicate N sd0).set k (A2, N, c2), [k]⟩ := ⟨_, rfl⟩
  obtain ⟨W, hW⟩ : ∃ W, (wA.alloc (.cells #[.int .i64 (k : Nat)] 2)).alloc (.cells #[.int .i64 (k : Nat), .slice none 0 0, .slice (some ⟨wA.heap.size, 0, none⟩) 1 1, .slice (some ⟨wr.heap.size, 0, none⟩) N N, .pointer po] 69) = W := ⟨_, rfl⟩
  have hz : W.heap.size = wA.heap.size + 2 := by rw [← hW]; simp
  have bAW : Below wA.heap.size wA W := by rw [← hW]; exact ((Below.refl _ _).alloc (Nat.le_refl _) _).alloc (by simp) _
  have hzA := BA.size
  have hA0 : wr.heap.size < wA.heap.size := (World.ownsRow.lt RA wr.heap.size rfl).2
  have hmu : ∀ t b, t < 4 → mu l t = some b → b = wA.heap.size + 1 ∨ b = wA.heap.size ∨ b = wr.heap.size := fun t b ht e => by
    subst hl
    rcases t with _ | _ | _ | t
    · injection e with e; exact .inl e.symm
    · cases e
    · injection e with e; exact .inr (.inl e.symm)
    · injection e with e; exact .inr (.inr e.symm)
  rw [hW]
  refine ⟨upd L k l, fun b => M b ∨ ∃ t, t < 4 ∧ mu l t = some b, ck_cons h (BA.trans (bAW.mono hzA)) hbs ?_ (fun t b ht e => ?_) (fun t t' b a1 a2 e e' => ?_), by rw [upd_at, hl], fun i hi => upd_ne (by omega), by rw [upd_at, hl], fun b e => .inl e, fun b ⟨i, t, a1, a2, a3, e⟩ => by
    by_cases ei : i = k
    · subst ei
      rw [upd_at] at e
      have := hmu t b a3 e
      exact .inr (by omega)
    · rw [upd_ne ei] at e
      exact .inl ⟨i, t, by omega, a2, a3, e⟩⟩
  · have hM : ∀ b, (M b ∨ ∃ t, t < 4 ∧ mu l t = some b) → b < wr.heap.size ∨ b = wA.heap.size + 1 ∨ b = wA.heap.size ∨ b = wr.heap.size := fun b e => by
      rcases e with e | ⟨t, a, e⟩
      · exact .inl (h.mlt b e).2
      · exact .inr (hmu t b a e)
    refine ⟨?_, by subst hl; show base ≤ wA.heap.size + 1; omega, ?_, by subst hl; rfl, fun y hy => absurd hy (by show ¬ y < 0; omega), ?_, ?_, by subst hl; simp, fun y hy => ?_⟩
    · rw [hpo, ← hW]
      have := Blk.new (wA.alloc (.cells #[.int .i64 (k : Nat)] 2)) 69 #[.int .i64 (k : Nat), .slice none 0 0, .slice (some ⟨wA.heap.size, 0, none⟩) 1 1, .slice (some ⟨wr.heap.size, 0, none⟩) N N, .pointer po]
      rw [World.size_alloc] at this
      subst hl; exact this
    · subst hl; exact World.ownsRow_nil _ _ _ _
    · subst hl
      show Slc W base (some ⟨wA.heap.size, 0, none⟩) 1 1 (ofP [k])
      have h1 : (wA.alloc (.cells #[.int .i64 (k : Nat)] 2)).ownsRow base 2 1 (.slice (some ⟨wA.heap.size, 0, none⟩) 1 1) 1 [.int .i64 (k : Nat)] := World.ownsRow_lit (size := 1) wA #[.int .i64 (k : Nat)] 1 (by omega) (by decide) rfl
      rw [← hW]
      exact ⟨rfl, World.ownsRow.alloc h1 _⟩
    · subst hl
      rw [← hW]
      exact World.ownsRow.alloc (World.ownsRow.alloc RA _) _
    · subst hl
      show ((if y = k then idL N else []) = [] → ((List.replicate N sd0).set k (A2, N, c2)).getD y sd0 = sd0) ∧ ((if y = k then idL N else []) ≠ [] → Rd W _ (((List.replicate N sd0).set k (A2, N, c2)).getD y sd0) (if y = k then idL N else []))
      by_cases e : y = k
      · subst e
        rw [if_pos rfl, getD_set_eq (by simp; exact hy)]
        refine ⟨fun e => ?_, fun _ => ?_⟩
        · have := idL_length N; rw [e] at this; simp at this; omega
        · refine ⟨SA.1, SA.le.1, fun hp => ?_⟩
          obtain ⟨b, off, e, hb, hc⟩ := SA.ri_ hp
          have e : A2 = some ⟨b, off, none⟩ := e
          have hlo : B1 ≤ b := by
            rcases SA.at_ with ⟨e0, _⟩ | ⟨g, e0, h1, _⟩
            · rw [e0] at e; cases e
            · rw [e0] at e; injection e with e; injection e with e _; omega
          refine ⟨b, off, e, by omega, fun hm => ?_, fun j hj => (bAW.cell (p := ⟨b, off + j, none⟩) hb).trans (hc j hj)⟩
          have := hM b hm
          omega
      · rw [if_neg e, getD_set_ne (fun e2 => e e2.symm), getD_rep]
        exact ⟨fun _ => rfl, fun h => absurd rfl h⟩
  · have := hmu t b ht e
    omega
  · subst hl
    have hx : ∀ t, t < 4 → mu (⟨wA.heap.size + 1, sd0, [], (some ⟨wA.heap.size, 0, none⟩, 1, 1), wr.heap.size, (List.replicate N sd0).set k (A2, N, c2), [k]⟩ : LK) t = some b → (t = 0 ∧ b = wA.heap.size + 1) ∨ (t = 2 ∧ b = wA.heap.size) ∨ (t = 3 ∧ b = wr.heap.size) := fun t ht e => by
      rcases t with _ | _ | _ | t
      · injection e with e; exact .inl ⟨rfl, e.symm⟩
      · cases e
      · injection e with e; exact .inr (.inl ⟨rfl, e.symm⟩)
      · injection e with e; exact .inr (.inr ⟨by omega, e.symm⟩)
    have h3 := hx t a1 e
    have h4 := hx t' a2 e'
    omega

set_option maxHeartbeats 8000000 in
set_option maxRecDepth 100000 in
/-- With blocks X, from base on, that stay apart from the chain. -/
theorem implChainOfX (base N n cc : Nat) (X : Nat → Prop) (A : Option Addr) (vs : List SV) (gs : List (List Int)) (w : World) (hx : RR w base A n vs gs) (hbs : base ≤ w.heap.size) (hX : Hid (∀ b, X b → base ≤ b ∧ b < w.heap.size)) (hN1 : 1 ≤ N) (hN : N ≤ 20) (hn : n ≤ 8) (ok : Hid (∀ g ∈ gs, IsP g ∧ g.length = N)) :
    Calls Try.prog 45 #[.int .i64 (N : Nat), .slice A n cc] w fun e w' => ∃ (c : Ch) (L : Nat → LK) (M : Nat → Prop), e = .returned (.pointer (some ⟨(L 0).B, 0, none⟩)) ∧ Ck w' base N 0 M c L ∧ Orbs N 0 c L ∧ Whole N gs c ∧ (∀ b, X b → M b) ∧ (∀ b, Mu N 0 L b → w.heap.size ≤ b) ∧ Below w.heap.size w w' := by
  obtain ⟨i0, hi, hz0, hz1, hz2⟩ := info_parts infoP
  have HXb := Lib.hid hx
  have HX : Hid (RR w w.heap.size A n vs gs) := Lib.hid (hx.more hbs)
  have hlx : Hid (gs.length = n) := Lib.hid hx.lx
  clear hx
  go_enter Try.func45, Try.ntmps45
  go_wp2_with fail
  go_loopg [5, 6, 7] N (fun gg ch bv _ wr => ∃ (m : Nat) (L : Nat → LK) (M : Nat → Prop), m ≤ N ∧ m ≤ gg ∧ bv = .int .i64 ((m : Int) - 1) ∧ ch = ptr N L m ∧ Ck wr base N m M (ch0 N) L ∧ Orbs N m (ch0 N) L ∧ (∀ b, X b → M b) ∧ (∀ b, Mu N m L b → w.heap.size ≤ b) ∧ Below w.heap.size w wr)
  case atStart => exact ⟨N, fun _ => lk0, X, Nat.le_refl _, Nat.le_refl _, by go_num, (if_neg (by omega)).symm, ⟨fun i a b => absurd b (by omega), fun i _ _ a b => absurd b (by omega), fun b e => hX.out b e, fun i _ _ _ _ a b => absurd b (by omega)⟩, fun i a b => absurd b (by omega), fun _ e => e, fun b ⟨i, t, a1, a2, _⟩ => absurd a2 (by omega), Below.refl _ _⟩
  case round =>
    obtain ⟨m, L, M, hm, hgg, rfl, rfl, hc, ho, hxm, hmu0, bel⟩ := hrel
    have XM := Lib.hid hxm
    have MU := Lib.hid hmu0
    have C1 := Lib.hid hc
    have O1 := Lib.hid ho
    have Be := Lib.hid bel
    have hzr := bel.size
    clear hc ho hxm hmu0 bel
    rcases m with _ | k
    · have ep : ptr N L 0 = .pointer (some ⟨(L 0).B, 0, none⟩) := if_pos (by omega)
      rw [ep]
      have d0 : decide ((((0 : Nat) : Int) - 1) ≥ 0) = false := by decide
      have U0 := Lib.hid (upTo0 N hN1 hN)
      clear ep
      go_wp2_with fail
      go_loopg [9, 32] n (fun gg _ jv wr => ∃ (j : Nat) (c : Ch) (L' : Nat → LK) (M : Nat → Prop), j ≤ n ∧ n - j ≤ gg ∧ jv = .int .i64 (j : Nat) ∧ (L' 0).B = (L 0).B ∧ Ck wr base N 0 M c L' ∧ Orbs N 0 c L' ∧ Whole N (gs.take j) c ∧ (∀ b, X b → M b) ∧ (∀ b, Mu N 0 L' b → w.heap.size ≤ b) ∧ Below w.heap.size w wr)
      case atStart => exact ⟨0, ch0 N, L, M, Nat.zero_le _, by omega, rfl, rfl, C1.out, O1.out, ⟨U0.out, fun q => by rw [List.take_zero]; exact Iff.rfl⟩, XM.out, MU.out, Be.out⟩
      case round =>
        clear C1 O1 U0 Be XM MU
        obtain ⟨j, c, L', M, hj, hg2, rfl, hB, hc, ho, hw, hxm, hmu0, bel⟩ := hrel
        have XM := Lib.hid hxm
        have MU := Lib.hid hmu0
        have C2 := Lib.hid hc
        have O2 := Lib.hid ho
        have W2 := Lib.hid hw
        have HB := Lib.hid hB
        have Be := Lib.hid bel
        clear hc ho hw hB hxm hmu0
        by_cases hlt : j < n
        · obtain ⟨b, off, A5, l, c5, y, rfl, hb, hv, ey, x1, ri, ly, hl5⟩ := (HX.out.up Be.out).at_ hlt
          have ri0 : RI w base A5 y := by
            have := HXb.out.rows j hlt
            rw [hv, ey] at this; exact this
          have hyP := ok.out y (by rw [← ey]; exact getD_memL (by rw [hlx.out]; exact hlt))
          obtain rfl : l = N := by omega
          have Rdy : Hid (Rd wr M (A5, l, c5) y) := Lib.hid (.of_ri (ri0.below Be.out hbs) ly hl5 (Nat.le_trans hbs Be.out.size) fun b e => (C2.out.mlt b e).1)
          have YP : Hid (Pn l y) := Lib.hid hyP
          have Ey := Lib.hid ey
          have q0 : (0 : Int) ≤ j := by omega
          have q1 : (j : Int) < n := by omega
          clear hv ey hb ri ri0 hyP bel
          go_wp2_with fail
          have K := implAdd base l hN (l - 1) 0 (by omega) M c L' A5 c5 y wr C2.out O2.out Rdy.out YP.out Fx.zero W2.out.up
          rw [HB.out] at K
          refine K.mono ?_
          rintro e w3 ⟨c', L3, M', rfl, hc3, ho3, hg3, hap⟩
          have C4 := Lib.hid hc3
          have O4 := Lib.hid ho3
          have B4 : Hid ((L3 0).B = (L 0).B) := Lib.hid ((hg3.ptr 0).trans HB.out)
          have Be3 : Hid (Below w.heap.size w w3) := Lib.hid (Be.out.trans (hg3.chg.below (fun k hk => MU.out k hk) Be.out.size))
          have XM3 : Hid (∀ b, X b → M' b) := Lib.hid fun b e => hg3.mm b (XM.out b e)
          have MU3 : Hid (∀ b, Mu l 0 L3 b → w.heap.size ≤ b) := Lib.hid fun b e => by
            rcases hg3.mu b e with h | h
            · exact MU.out b h
            · exact Nat.le_trans Be.out.size h
          have W4 : Hid (Whole l (gs.take (j + 1)) c') := Lib.hid (by
            rw [List.take_succ_eq_append_getElem (by rw [hlx.out]; exact hlt)]
            have e1 : gs[j]'(by rw [hlx.out]; exact hlt) = y := by rw [← Ey.out, List.getD_eq_getElem?_getD, List.getElem?_eq_getElem (by rw [hlx.out]; exact hlt)]; rfl
            rw [e1]
            exact W2.out.next hN1 hN (fun g hg => ok.out g (List.mem_of_mem_take hg)) YP.out hap)
          clear K hc3 ho3 hg3 hap
          go_wp2_with fail
          go_roundg (n - (j + 1))
          case rel => exact ⟨j + 1, c', L3, M', by omega, by omega, by go_num, B4.out, C4.out, O4.out, W4.out, XM3.out, MU3.out, Be3.out⟩
          case measure => omega
        · obtain rfl : j = n := by omega
          have W3 : Hid (Whole N gs c) := Lib.hid (by have := W2.out; rwa [List.take_of_length_le (by rw [hlx.out]; exact Nat.le_refl _)] at this)
          go_wp2_with fail
          go_ret
          exact ⟨c, L', M, by rw [HB.out]; rfl, C2.out, O2.out, W3.out, XM.out, MU.out, Be.out⟩
    · obtain ⟨po, hpo⟩ : ∃ po, ptr N L (k + 1) = .pointer po := by
        unfold ptr
        by_cases h : k + 1 < N
        · exact ⟨_, if_pos h⟩
        · exact ⟨_, if_neg h⟩
      have Hpo := Lib.hid hpo
      rw [hpo]
      clear hpo
      have ek : (((k + 1 : Nat) : Int) - 1) = (k : Int) := by omega
      rw [ek]
      have p0 : (0 : Int) ≤ k := by omega
      have p1 : (k : Int) < N := by omega
      have d0 : decide ((k : Int) ≥ 0) = true := by simp
      clear ek
      go_wp2_with (first | (at_make; go_must (refine wpList_make_full _ rfl _ _ 67 rfl base 47 i0 (.slice none 0 0) 1 Try.underlying67 hi hz0 hz1 .i64 .i64 _ _ N rfl rfl rfl rfl (by rw [hz2]; omega) (by unfold maxLen; omega) (by omega) ?_); intro w1 hown1 hgrow1))
      have b1 : Below wr.heap.size wr w1 := (Below.refl _ _).grown hgrow1 (Nat.le_refl _) (fun k e => nomatch e)
      have r1 := madeP hown1
      have R1 := Lib.hid r1
      have B1 := Lib.hid b1
      clear hown1 hgrow1 r1 b1
      go_wp2_with fail
      refine (implId_core N w1 hN1 hN).mono ?_
      rintro e w2 ⟨A2, c2, rfl, s2, b2⟩
      have S2 := Lib.hid s2
      have B2 := Lib.hid b2
      have hr2 := ownsRow_chg R1.out (.of_below (M := fun _ => False) b2) fun _ _ e => e
      have R2 := Lib.hid hr2
      have y1 := hr2.cellAt k (by omega)
      have ey : ((List.replicate N sd0).map sval)[k]? = some (Value.slice none 0 0) := by
        rw [List.getElem?_map, List.getElem?_replicate, if_pos (by omega)]; rfl
      rw [ey] at y1
      have fz := hr2.frozenAt k
      clear s2 b2 hr2 ey
      obtain ⟨wA, hwA⟩ : ∃ wA, w2.setCell ⟨wr.heap.size, k, none⟩ (.slice A2 N c2) = wA := ⟨_, rfl⟩
      have zA : Hid (wA.heap.size = w2.heap.size) := Lib.hid (by rw [← hwA]; simp)
      have St := R2.out.stored k (.slice A2 N c2)
      rw [hwA] at St
      have SA : Hid (Slc wA w1.heap.size A2 N c2 (idL N)) := Lib.hid (S2.out.chgS (.of_grown St.2 (M := fun b => b = wr.heap.size) (by intro b e; injection e with e; exact e.symm)) fun b e e2 => by
        have h1 := (S2.out.lt_ b e).1
        have h2 := (World.ownsRow.lt R1.out wr.heap.size rfl).2
        omega)
      have RA : Hid (wA.ownsRow base 47 1 (.slice (some ⟨wr.heap.size, 0, none⟩) N N) N (((List.replicate N sd0).set k (A2, N, c2)).map sval)) := Lib.hid (by rw [List.map_set]; exact St.1)
      have Bw1 : Hid (wr.heap.size < w1.heap.size) := Lib.hid (World.ownsRow.lt R1.out wr.heap.size rfl).2
      have BA : Hid (Below wr.heap.size wr wA) := Lib.hid ((B1.out.trans (B2.out.mono B1.out.size)).grown St.2 (Nat.le_trans B1.out.size B2.out.size) (by intro b e; injection e with e; omega))
      have NW := Lib.hid (ck_new C1.out (by omega) Hpo.out BA.out RA.out Bw1.out SA.out (Nat.le_trans hbs hzr))
      clear St R1 R2 S2
      go_wp2_with fail
      obtain ⟨L', M', K1, K2, K3, K4, K5, K6⟩ := NW.out
      go_roundg k
      case rel =>
        refine ⟨k, L', M', by omega, by omega, rfl, ?_, K1, fun i a b => ?_, fun b e => K5 b (XM.out b e), fun b e => ?_, ?_⟩
        · have e1 : ptr N L' k = .pointer (some ⟨(L' k).B, 0, none⟩) := if_pos (by omega)
          rw [e1, K2]
        · by_cases ei : i = k
          · subst ei; rw [K4]; exact orb0 hN1
          · rw [K3 i (by omega)]; exact O1.out i (by omega) b
        · rcases K6 b e with h | h
          · exact MU.out b h
          · exact Nat.le_trans hzr h
        · exact (Be.out.trans (BA.out.mono hzr)).trans ((((Below.refl wA.heap.size wA).alloc (Nat.le_refl _) _).alloc (by simp) _).mono (by have := BA.out.size; omega))
      case measure => omega
theorem implChainOf (N n cc : Nat) (A : Option Addr) (vs : List SV) (gs : List (List Int)) (w : World) (hx : RR w w.heap.size A n vs gs) (hN1 : 1 ≤ N) (hN : N ≤ 20) (hn : n ≤ 8) (ok : Hid (∀ g ∈ gs, IsP g ∧ g.length = N)) :
    Calls Try.prog 45 #[.int .i64 (N : Nat), .slice A n cc] w fun e w' => ∃ (c : Ch) (L : Nat → LK) (M : Nat → Prop), e = .returned (.pointer (some ⟨(L 0).B, 0, none⟩)) ∧ Ck w' w.heap.size N 0 M c L ∧ Orbs N 0 c L ∧ Whole N gs c ∧ Below w.heap.size w w' :=
  (implChainOfX w.heap.size N n cc (fun _ => False) A vs gs w hx (Nat.le_refl _) (Lib.hid fun _ e => e.elim) hN1 hN hn ok).mono fun _ _ ⟨c, L, M, e, a, b, d, _, _, bel⟩ => ⟨c, L, M, e, a, b, d, bel⟩
end Go.Proofs.Ytcjcmhoalomjfab

/- The program's order, OrbitSizes, GroupOrder, IsMember, LongestMemberPrefix. Conditions: at most 1048576 lists of at most 1048576 numbers. -/
namespace Go.Proofs.Ytcjcmhoalomjfab
open Go.RowKit

section
variable {N k i : Nat} {c : Ch} {L : Nat → LK} {O : List Nat} {gs : List (List Int)}
theorem orb_nr (h : Orb c i O) (hr : RepOK N c i) : nr N c i N = O.length := by
  have a : ((List.range N).filter fun y => !(c.rep i y).isEmpty).length ≤ O.length := nd_subP (List.nodup_range.filter _) fun y hy => by
    rw [List.mem_filter, Bool.not_eq_true', List.isEmpty_eq_false_iff] at hy
    exact (h.2 y).2 hy.2
  have b : O.length ≤ ((List.range N).filter fun y => !(c.rep i y).isEmpty).length := nd_subP h.1 fun y hy => by
    rw [List.mem_filter, Bool.not_eq_true', List.isEmpty_eq_false_iff, List.mem_range]
    exact ⟨h.lt hr hy, (h.2 y).1 hy⟩
  unfold nr; omega
theorem ptr_at (hi : i < N) : ptr N L i = .pointer (some ⟨(L i).B, 0, none⟩) := if_pos hi
theorem ptr_end (hi : N ≤ i) : ptr N L i = .pointer none := if_neg (by omega)
end

set_option maxHeartbeats 2000000 in
/-- order, from link k on. -/
theorem implOrder (base N k0 k : Nat) (M : Nat → Prop) (c : Ch) (L : Nat → LK) (gs : List (List Int)) (w : World) (hc : Ck w base N k0 M c L) (ho : Orbs N k0 c L) (hw : Hid (Whole N gs c)) (hk : k0 ≤ k) (hkN : k ≤ N) (h1 : 1 ≤ N) (h2 : N ≤ 20) (hg : Hid (∀ g ∈ gs, Pn N g)) :
    Calls Try.prog 47 #[ptr N L k] w fun e w' => e = .returned (.int .i64 (pr (osL N c N) k (N - k))) ∧ w = w' := by
  have HC := Lib.hid hc
  have HO := Lib.hid ho
  have Hos := Lib.hid (hw.out.os h1 h2)
  clear hc ho
  go_enter Try.func47, Try.ntmps47
  go_wp2_with fail
  go_loopg [3, 4] N (fun gg o l wr => ∃ j : Nat, k ≤ j ∧ j ≤ N ∧ N - j ≤ gg ∧ l = ptr N L j ∧ o = .int .i64 (pr (osL N c N) k (j - k)) ∧ w = wr)
  case atStart => exact ⟨k, Nat.le_refl _, hkN, by omega, rfl, by rw [Nat.sub_self]; rfl, rfl⟩
  case round =>
    obtain ⟨j, hkj, hjN, hgg, rfl, rfl, rfl⟩ := hrel
    by_cases hlt : j < N
    · rw [ptr_at hlt]
      obtain ⟨x0, x1, x2, x3, x4⟩ := HC.out.cB (by omega) hlt
      have hol := HC.out.olen (by omega) hlt
      rcases hoe : (L j).o with ⟨oA, on, oc⟩
      rw [hoe] at x2 hol
      have hol : on = (L j).orb.length := hol
      have en : (osL N c N).getD j 0 = (on : Int) := by
        rw [osL_at hlt, orb_nr (HO.out j (by omega) hlt) (hw.out.up.rep j (Nat.zero_le _) hlt), hol]
      have e1 : pr (osL N c N) k (j - k) * (on : Int) = pr (osL N c N) k (j + 1 - k) := by
        rw [show j + 1 - k = (j - k) + 1 by omega]
        show _ = pr (osL N c N) k (j - k) * (osL N c N).getD (k + (j - k)) 0
        rw [show k + (j - k) = j by omega, en]
      have b1 := Hos.out.pr_le hg.out h1 h2 k (j + 1 - k) (by omega)
      have b2 := facts_le h2 (k + (j + 1 - k)) (by omega)
      have wr1 : IntKind.i64.wrap (pr (osL N c N) k (j - k) * (on : Int)) = pr (osL N c N) k (j + 1 - k) := by rw [e1, IntKind.wrap_i64]; omega
      simp only [sval] at x2
      clear hol hoe en e1 b1 b2 x0 x1 x3
      go_wp2_with fail
      go_roundg (N - (j + 1))
      case rel => exact ⟨j + 1, by omega, by omega, by omega, rfl, rfl, rfl⟩
      case measure => omega
    · obtain rfl : j = N := by omega
      rw [ptr_end (Nat.le_refl _)]
      go_wp2_with fail
      go_ret
      exact ⟨rfl, rfl⟩

set_option maxHeartbeats 1000000 in
theorem implIsPOf (a : Int) (A : Option Addr) (n c : Nat) (xs : List Int) (ans : Bool) (w : World) (hx : RI w w.heap.size A xs) (lx : Hid (xs.length = n)) (hn : n ≤ 2097152) (ha : Hid ((decide ((n : Int) = a) && isP xs) = ans)) :
    Calls Try.prog 71 #[.int .i64 a, .slice A n c] w fun e w' => e = .returned (.bool ans) ∧ Below w.heap.size w w' := by
  have HX := Lib.hid hx
  clear hx
  by_cases e1 : (n : Int) = a
  · subst e1
    have e0 : ((n : Int) == (n : Int)) = true := by simp
    have h1 : Hid (isP xs = ans) := Lib.hid (by rw [← ha.out]; simp)
    go_enter Try.func71, Try.ntmps71
    go_wp2_with (first | (go_at_call 59; refine (implIsP A c n xs w HX.out lx hn).mono ?_; rintro e w1 ⟨rfl, b1⟩; rw [h1.out]))
    go_ret
    exact ⟨rfl, b1⟩
  · have e0 : ((n : Int) == a) = false := by simpa using e1
    have h1 : Hid (ans = false) := Lib.hid (by rw [← ha.out]; simp [e1])
    go_enter Try.func71, Try.ntmps71
    go_wp2_with fail
    go_ret
    exact ⟨ret_bool h1.out.symm, Below.refl _ _⟩
theorem implIsPOfT (A : Option Addr) (n c : Nat) (xs : List Int) (w : World) (hx : RI w w.heap.size A xs) (lx : Hid (xs.length = n)) (hn : n ≤ 2097152) (ha : Hid (isP xs = true)) :
    Calls Try.prog 71 #[.int .i64 (n : Nat), .slice A n c] w fun e w' => e = .returned (.bool true) ∧ Below w.heap.size w w' :=
  implIsPOf n A n c xs true w hx lx hn (Lib.hid (by simp [ha.out]))



set_option maxHeartbeats 4000000 in
set_option maxRecDepth 100000 in
/-- IsMember. -/
theorem implIsMember : CtImsB 35 IsMem := by
  intro a A n c vs xss P np cp p w g s _
  have HX := Lib.hid g.rr
  have hlx : Hid (xss.length = n) := Lib.hid g.rr.lx
  have hn := g.hn
  have hl := Lib.hid g.hl
  have HP := Lib.hid s.ri
  have lp := Lib.hid s.lp
  have hnp := s.hn
  clear g s
  obtain ⟨ip, hip⟩ : ∃ ip, (decide ((np : Int) = a) && isP p) = ip := ⟨_, rfl⟩
  have Hip := Lib.hid hip
  clear hip
  go_enter Try.func35, Try.ntmps35
  rcases hs : gB a xss with _ | _
  · have Fin : Hid (IsMem a xss p false) := Lib.hid ⟨fun h => (by cases h), fun h => by have := h.1; rw [hs] at this; cases this⟩
    have Hs := Lib.hid hs
    clear hs
    go_wp2_with (first
      | (go_at_call 44; refine (implGS a A n c vs xss w HX.out hn hl).mono ?_; rintro e w1 ⟨rfl, b1⟩; rw [Hs.out]; have B1 := Lib.hid b1; clear b1))
    go_ret
    exact ⟨_, rfl, Fin.out, B1.out⟩
  · have Hs := Lib.hid hs
    rcases ip with _ | _
    · have Fin : Hid (IsMem a xss p false) := Lib.hid ⟨fun h => (by cases h), fun h => by
        have h1 := h.2.1
        have h2 := h.2.2.1
        have h3 := Hip.out
        rw [lp.out] at h1
        rw [h2] at h3
        simp [h1] at h3⟩
      clear hs
      go_wp2_with (first
        | (go_at_call 44; refine (implGS a A n c vs xss w HX.out hn hl).mono ?_; rintro e w1 ⟨rfl, b1⟩; rw [Hs.out]; have B1 := Lib.hid b1; clear b1)
        | (go_at_call 71; refine (implIsPOf a P np cp p false w1 (HP.out.up B1.out) lp (by omega) Hip).mono ?_; rintro e w2 ⟨rfl, b2⟩; have B2 := Lib.hid b2; clear b2))
      go_ret
      exact ⟨_, rfl, Fin.out, btr B1.out B2.out⟩
    · obtain ⟨N, rfl, hN1, hN2, hg8, hpm, hok⟩ := gB_pm hs
      have h3 := Hip.out
      rw [Bool.and_eq_true, decide_eq_true_eq] at h3
      obtain rfl : np = N := by omega
      have PP : Hid (Pn np p) := Lib.hid ⟨isP_iff.1 h3.2, lp.out⟩
      have Hq := Lib.hid h3.2
      have Ok := Lib.hid hok
      have hn8 : n ≤ 8 := by rw [← hlx.out]; exact hg8
      obtain ⟨ans, hans⟩ := boolOf (Mb xss np p)
      have Ha := Lib.hid hans
      have Fin : Hid (IsMem np xss p ans) := Lib.hid ⟨fun h => ⟨Hs.out, by rw [lp.out], Hq.out, by rw [Int.toNat_natCast]; exact hans.1 h⟩, fun h => hans.2 (by have := h.2.2.2; rwa [Int.toNat_natCast] at this)⟩
      clear hs hpm hok hg8 h3 hans
      go_wp2_with (first
        | (go_at_call 44; refine (implGS np A n c vs xss w HX.out hn hl).mono ?_; rintro e w1 ⟨rfl, b1⟩; rw [Hs.out]; have B1 := Lib.hid b1; clear b1)
        | (go_at_call 71; refine (implIsPOfT P np cp p w1 (HP.out.up B1.out) lp (by omega) Hq).mono ?_; rintro e w2 ⟨rfl, b2⟩; have B2 : Hid (Below w.heap.size w w2) := Lib.hid (btr B1.out b2); clear b2)
        | (go_at_call 45; refine (implChainOf np n c A vs xss w2 (HX.out.up B2.out) hN1 hN2 hn8 Ok).mono ?_; rintro e w3 ⟨ch, L, M, rfl, hc, ho, hw, b3⟩; have W3 := Lib.hid hw; have C3 := Lib.hid hc; have B3 : Hid (Below w.heap.size w w3) := Lib.hid (btr B2.out b3); clear hc ho hw b3)
        | (go_at_call 72; refine (implContains w2.heap.size np 0 cp M ch L P p w3 C3.out (by omega) (Lib.hid W3.out.up) hN2 (HP.out.up B3.out) PP (Lib.hid Fx.zero) ans (Lib.hid (Ha.out.trans (W3.out.mem p).symm))).mono ?_; rintro e w4 ⟨rfl, b4⟩; have B4 : Hid (Below w.heap.size w w4) := Lib.hid (btr B3.out b4); clear b4))
      go_ret
      exact ⟨_, rfl, Fin.out, B4.out⟩

end Go.Proofs.Ytcjcmhoalomjfab

/- The program's smallestLike and MemberWithPrefix. Conditions: at most 1048576 lists of at most 1048576 numbers. -/
namespace Go.Proofs.Ytcjcmhoalomjfab
open Go.RowKit

set_option maxHeartbeats 4000000 in
set_option maxRecDepth 100000 in
/-- smallestLike, from link k on. -/
theorem implSmall (base N k0 k cp B : Nat) (M : Nat → Prop) (c : Ch) (L : Nat → LK) (gs : List (List Int)) (pre : List Int) (A : Option Addr) (m : List Int) (w : World) (hc : Ck w base N k0 M c L) (ho : Orbs N k0 c L) (hw : Hid (Whole N gs c)) (hk : k0 ≤ k) (hkN : k ≤ N) (h1 : 1 ≤ N) (h2 : N ≤ 20) (hg : Hid (∀ g ∈ gs, Pn N g))
    (hm : RI w w.heap.size A m) (hB : B ≤ w.heap.size) (hS : Hid (k = N → Slc w B A N cp m)) (hG : Hid (GrTo N gs pre m k)) (hpre : pre.length ≤ k) :
    Calls Try.prog 64 #[ptr N L k, .slice A N cp] w fun e w' => ∃ (A' : Option Addr) (c' : Nat) (m' : List Int), e = .returned (.slice A' N c') ∧ Slc w' B A' N c' m' ∧ Greedy N gs pre m' ∧ Below w.heap.size w w' := by
  have HC := Lib.hid hc
  have HO := Lib.hid ho
  have HM := Lib.hid hm
  clear hc ho hm
  go_enter Try.func64, Try.ntmps64
  go_wp2_with fail
  go_loopg [1, 5, 6, 8] N (fun gg mv l _ _ wr => ∃ (j c1 : Nat) (A1 : Option Addr) (m1 : List Int), k ≤ j ∧ j ≤ N ∧ N - j ≤ gg ∧ l = ptr N L j ∧ mv = .slice A1 N c1 ∧ RI wr wr.heap.size A1 m1 ∧ ((j = k ∧ A1 = A ∧ c1 = cp ∧ m1 = m) ∨ Slc wr B A1 N c1 m1) ∧ GrTo N gs pre m1 j ∧ Below w.heap.size w wr)
  case atStart => exact ⟨k, cp, A, m, Nat.le_refl _, hkN, by omega, rfl, rfl, HM.out, .inl ⟨rfl, rfl, rfl, rfl⟩, hG.out, Below.refl _ _⟩
  case round =>
    obtain ⟨j, c1, A1, m1, hkj, hjN, hgg, rfl, rfl, hm, hfr, hgr, bel⟩ := hrel
    have Hm := Lib.hid hm
    have Fr := Lib.hid hfr
    have Gr := Lib.hid hgr
    have Be := Lib.hid bel
    have MP := Lib.hid (hgr.1.pn hg.out h1 h2)
    have Cj := Lib.hid (HC.out.up bel)
    clear hm hfr hgr bel
    by_cases hlt : j < N
    · rw [ptr_at hlt]
      obtain ⟨x0, x1, x2, x3, x4⟩ := Cj.out.cB (by omega) hlt
      have hol := Cj.out.olen (by omega) hlt
      have hOr := HO.out j (by omega) hlt
      have hR := hw.out.up.rep j (Nat.zero_le _) hlt
      obtain ⟨b, off, rfl, hb, hcell⟩ := Hm.out (by rw [MP.out.2]; omega)
      have z1 := hcell j (by rw [MP.out.2]; exact hlt)
      rw [nx_val MP.out.1 (by rw [MP.out.2]; exact hlt)] at z1
      obtain ⟨s0, es0⟩ : ∃ s0, nx m1 j = s0 := ⟨_, rfl⟩
      rw [es0] at z1
      have Es0 := Lib.hid es0
      obtain ⟨on, hon⟩ : ∃ on, (L j).orb.length = on := ⟨_, rfl⟩
      have hjO : j ∈ (L j).orb := (hOr.2 j).2 (by rw [hR.one]; intro e; have := idL_length N; rw [e] at this; simp at this; omega)
      have h0n : 0 < on := by rw [← hon]; exact List.length_pos_of_mem hjO
      have hon20 : on ≤ N := by rw [← hon]; exact hOr.len hR
      obtain ⟨ob, oc, hoe, _⟩ := Cj.out.cO (by omega) hlt (j := 0) (by omega)
      rw [hoe, hon] at x2
      simp only [sval] at x2
      have Hon := Lib.hid hon
      have HjO := Lib.hid hjO
      have Hor := Lib.hid hOr
      have HR := Lib.hid hR
      have Hoe := Lib.hid hoe
      have Hb := Lib.hid hb
      have Hcell : Hid (∀ y, y < N → wr.cell? ⟨b, off + y, none⟩ = some (.int .i64 ((nx m1 y : Nat) : Int))) := Lib.hid fun y hy => by
        rw [hcell y (by rw [MP.out.2]; exact hy), nx_val MP.out.1 (by rw [MP.out.2]; exact hy)]
      have p0 : (0 : Int) ≤ j := by omega
      have p1 : (j : Int) < N := by omega
      clear hol hOr hR hb hcell es0 hon hjO hoe x1 x3
      go_wp2_with fail
      go_loopg [6, 8, 28] on (fun gg lv _ iv wx => ∃ (t z : Nat), t ≤ on ∧ on - t ≤ gg ∧ iv = .int .i64 (t : Nat) ∧ lv = .int .i64 (z : Nat) ∧ (∀ s, s < t → z ≤ nx m1 ((L j).orb.getD s 0)) ∧ (∃ y, y ∈ (L j).orb ∧ z = nx m1 y) ∧ wr = wx)
      case atStart => exact ⟨0, s0, Nat.zero_le _, by omega, rfl, rfl, fun s hs => absurd hs (by omega), ⟨j, HjO.out, Es0.out.symm⟩, rfl⟩
      case round =>
        obtain ⟨t, z, ht, hg2, rfl, rfl, hall, hex, rfl⟩ := hrel
        have All := Lib.hid hall
        have Ex := Lib.hid hex
        clear hall hex
        by_cases htl : t < on
        · obtain ⟨ob', oc', hoe', x6⟩ := Cj.out.cO (by omega) hlt (j := t) (by rw [Hon.out]; exact htl)
          obtain ⟨rfl, rfl⟩ : ob = ob' ∧ oc = oc' := by
            rw [Hoe.out] at hoe'
            injection hoe' with h1 h2
            injection h1 with h1
            injection h1 with h1
            injection h2 with _ h2
            exact ⟨h1, h2⟩
          obtain ⟨y, ey⟩ : ∃ y, (L j).orb.getD t 0 = y := ⟨_, rfl⟩
          rw [ey] at x6
          have hyO : y ∈ (L j).orb := by rw [← ey, List.getD_eq_getElem?_getD, List.getElem?_eq_getElem (by rw [Hon.out]; exact htl)]; exact List.getElem_mem _
          have hy : y < N := Hor.out.lt HR.out hyO
          have x7 := Hcell.out y hy
          obtain ⟨u, eu⟩ : ∃ u, nx m1 y = u := ⟨_, rfl⟩
          rw [eu] at x7
          have Ey := Lib.hid ey
          have Eu := Lib.hid eu
          have HyO := Lib.hid hyO
          have q0 : (0 : Int) ≤ t := by omega
          have q1 : (t : Int) < on := by omega
          have q2 : (0 : Int) ≤ y := by omega
          have q3 : (y : Int) < N := by omega
          clear hoe' ey hyO eu
          go_wp2_with fail
          all_goals
            go_roundg (on - (t + 1))
            case rel =>
              refine ⟨t + 1, min z u, by omega, by omega, by go_num, congrArg (Value.int .i64) (by omega), fun s hs => ?_, ?_, rfl⟩
              · rcases Nat.lt_or_ge s t with h | h
                · have := All.out s h; omega
                · obtain rfl : s = t := by omega
                  rw [Ey.out, Eu.out]; omega
              · rcases Nat.le_total u z with h | h
                · exact ⟨y, HyO.out, by rw [Eu.out]; omega⟩
                · obtain ⟨y', hy', e'⟩ := Ex.out
                  exact ⟨y', hy', by omega⟩
            case measure => omega
        · obtain rfl : t = on := by omega
          go_wp2_with fail
          refine (implWith base N k0 j c1 M c L (some ⟨b, off, none⟩) m1 (z : Nat) wr Cj.out (by omega) hlt HR Hm.out MP).mono ?_
          rintro e w2 ⟨A2, n2, c2, rfl, (⟨rfl, rfl, rfl, hno⟩ | ⟨g2, y, rfl, rfl, hy, hyv, hyr, hs⟩), b2⟩
          · exfalso
            obtain ⟨y, hyO, e⟩ := Ex.out
            exact (Hor.out.2 y).1 hyO (hno y (Hor.out.lt HR.out hyO) (by rw [e]))
          · have C2 := Lib.hid (Cj.out.up b2)
            have B2 : Hid (Below w.heap.size w w2) := Lib.hid (btr Be.out b2)
            have S2 : Hid (Slc w2 B (some ⟨g2, 0, none⟩) n2 c2 (compL (c.rep j y) m1)) := Lib.hid (hs.mono (by have := Be.out.size; omega))
            have G2 : Hid (GrTo n2 gs pre (compL (c.rep j y) m1) (j + 1)) := Lib.hid (Gr.out.step hw.out h1 h2 hg.out hlt hyr ⟨fun h => absurd h (by omega), fun _ v hv => by
              obtain ⟨y', hy', hr', rfl⟩ := chL_mem.1 hv
              obtain ⟨s, hs', es⟩ := List.mem_iff_getElem.1 ((Hor.out.2 y').2 hr')
              have h3 := All.out s (by rw [← Hon.out]; exact hs')
              rw [List.getD_eq_getElem?_getD, List.getElem?_eq_getElem hs', es] at h3
              have h3 : z ≤ nx m1 y' := h3
              omega⟩)
            have z4 := (C2.out.cB (by omega) hlt).2.2.2.2
            clear hs b2 hy hyv hyr x4
            go_wp2_with fail
            go_roundg (n2 - (j + 1))
            case rel => exact ⟨j + 1, c2, _, _, by omega, by omega, by omega, rfl, rfl, S2.out.ri_, .inr S2.out, G2.out, B2.out⟩
            case measure => omega
    · obtain rfl : j = N := by omega
      rw [ptr_end (Nat.le_refl _)]
      have Fin : Hid (Slc wr B A1 j c1 m1) := Lib.hid (by
        rcases Fr.out with ⟨e1, rfl, rfl, rfl⟩ | h
        · exact (hS.out e1.symm).up Be.out
        · exact h)
      go_wp2_with fail
      go_ret
      exact ⟨_, _, _, rfl, Fin.out, Gr.out, Be.out⟩

end Go.Proofs.Ytcjcmhoalomjfab

/- The program's containsAll. Conditions: at most 20 points, 8 generators. -/
namespace Go.Proofs.Ytcjcmhoalomjfab
open Go.RowKit

set_option maxHeartbeats 4000000 in
set_option maxRecDepth 100000 in
/-- containsAll. -/
theorem implContainsAll (base N n c : Nat) (M : Nat → Prop) (ch : Ch) (L : Nat → LK) (A : Option Addr) (vs : List SV) (gs xss : List (List Int)) (w : World) (hc : Ck w base N 0 M ch L) (hw : Hid (Whole N gs ch)) (hx : RR w w.heap.size A n vs xss) (ok : Hid (∀ g ∈ xss, IsP g ∧ g.length = N)) (h1 : 1 ≤ N) (h2 : N ≤ 20) (hn8 : n ≤ 8) (fin : Bool) (hf : Hid (fin = true ↔ ∀ x ∈ xss, Mb gs N x)) :
    Calls Try.prog 46 #[.pointer (some ⟨(L 0).B, 0, none⟩), .slice A n c] w fun e w' => e = .returned (.bool fin) ∧ Below w.heap.size w w' := by
  have HC := Lib.hid hc
  have HX := Lib.hid hx
  have hlx : Hid (xss.length = n) := Lib.hid hx.lx
  clear hc hx
  go_enter Try.func46, Try.ntmps46
  go_wp2_with fail
  go_loopg [6, 9] n (fun gg _ jv wr => ∃ j : Nat, j ≤ n ∧ n - j ≤ gg ∧ jv = .int .i64 (j : Nat) ∧ (∀ x ∈ xss.take j, Mb gs N x) ∧ Below w.heap.size w wr)
  case atStart => exact ⟨0, Nat.zero_le _, by omega, rfl, fun x hx => by simp at hx, Below.refl _ _⟩
  case round =>
    obtain ⟨j, hj, hgg, rfl, hall, bel⟩ := hrel
    have Al := Lib.hid hall
    have Be := Lib.hid bel
    have Cj := Lib.hid (HC.out.up bel)
    clear hall bel
    by_cases hlt : j < n
    · obtain ⟨b, off, A5, l, c5, y, rfl, hb, hv, ey, x1, ri, ly, hl5⟩ := (HX.out.up Be.out).at_ hlt
      have hym : y ∈ xss := by rw [← ey]; exact getD_memL (by rw [hlx.out]; exact hlt)
      have hyP := ok.out y hym
      obtain rfl : l = N := by omega
      have YP : Hid (Pn l y) := Lib.hid hyP
      have Ri := Lib.hid ri
      have Ey := Lib.hid ey
      obtain ⟨ans, hans⟩ := boolOf (Mb gs l y)
      have Ha := Lib.hid hans
      have Hym := Lib.hid hym
      have q0 : (0 : Int) ≤ j := by omega
      have q1 : (j : Int) < n := by omega
      clear hv ey hb ri hyP hans hym
      go_wp2_with fail
      refine (implContains base l 0 c5 M ch L A5 y wr Cj.out (by omega) (Lib.hid hw.out.up) h2 Ri.out YP (Lib.hid Fx.zero) ans (Lib.hid (Ha.out.trans (hw.out.mem y).symm))).mono ?_
      rintro e w4 ⟨rfl, b4⟩
      have B4 : Hid (Below w.heap.size w w4) := Lib.hid (btr Be.out b4)
      clear b4
      rcases ans with _ | _
      · have Fin : Hid (fin = false) := Lib.hid (by
          rcases hq : fin with _ | _
          · rfl
          · exact absurd (Ha.out.2 (hf.out.1 hq y Hym.out)) (by decide))
        go_wp2_with fail
        go_ret
        exact ⟨ret_bool Fin.out.symm, B4.out⟩
      · have Al2 : Hid (∀ x ∈ xss.take (j + 1), Mb gs l x) := Lib.hid fun x hx => by
          rw [List.take_succ_eq_append_getElem (by rw [hlx.out]; exact hlt)] at hx
          rcases List.mem_append.1 hx with hx | hx
          · exact Al.out x hx
          · have e1 : xss[j]'(by rw [hlx.out]; exact hlt) = y := by rw [← Ey.out, List.getD_eq_getElem?_getD, List.getElem?_eq_getElem (by rw [hlx.out]; exact hlt)]; rfl
            rw [List.mem_singleton.1 hx, e1]; exact Ha.out.1 rfl
        go_wp2_with fail
        go_roundg (n - (j + 1))
        case rel => exact ⟨j + 1, by omega, by omega, by go_num, Al2.out, B4.out⟩
        case measure => omega
    · obtain rfl : j = n := by omega
      have Fin : Hid (fin = true) := Lib.hid (hf.out.2 fun x hx => Al.out x (by rw [List.take_of_length_le (by rw [hlx.out]; exact Nat.le_refl _)]; exact hx))
      go_wp2_with fail
      go_ret
      exact ⟨ret_bool Fin.out.symm, Be.out⟩
end Go.Proofs.Ytcjcmhoalomjfab

/- The program's StrongGeneratingSet and SameGroup. Conditions: at most 1048576 lists of at most 1048576 numbers. -/
namespace Go.Proofs.Ytcjcmhoalomjfab
open Go.RowKit

/-- As many, and all of them among the others: the same. -/
theorem Crd.same {P Q : List Int → Prop} {v : Nat} (hP : Crd P v) (hQ : Crd Q v) (h : ∀ p, P p → Q p) : ∀ p, Q p → P p := fun p hp => by
  obtain ⟨l, d, m, e⟩ := hP
  obtain ⟨l', d', m', e'⟩ := hQ
  refine (m p).1 ?_
  by_cases hm : p ∈ l
  · exact hm
  · exfalso
    have hnd : (p :: l).Nodup := List.nodup_cons.2 ⟨hm, d⟩
    have := nd_subA hnd fun x hx => by
      rcases List.mem_cons.1 hx with rfl | hx
      · exact (m' _).2 hp
      · exact (m' x).2 (h x ((m x).1 hx))
    simp at this; omega
theorem preOf_at {N k y : Nat} {g : List Int} (hf : Fx k g) (e : nx g k = y) : ∀ i, i < k + 1 → (nx g i : Int) = (preOf (k, y)).getD i 0 := fun i hi => by
  unfold preOf
  rcases Nat.lt_or_ge i k with hl | hl
  · rw [getD_app _ _ _ i (by rw [idL_length]; exact hl), idL_getD hl, hf i hl]
  · obtain rfl : i = k := by omega
    rw [getD_snoc _ _ _ i (by rw [idL_length]), e]
theorem preOf_len (k y : Nat) : (preOf (k, y)).length = k + 1 := by unfold preOf; rw [List.length_append, idL_length]; rfl

set_option maxHeartbeats 8000000 in
set_option maxRecDepth 100000 in
/-- StrongGeneratingSet. -/
theorem implStrongGeneratingSet : CtImM 28 IsSgs := by
  intro a A n c vs xss w g _
  have q24 : ∀ (w : World) (a : Option Addr) (n c n' c' : Nat), (binOp .neq 47 (.slice a n c) (.slice none n' c')).run Try.prog w = .ok (.bool (!a.isNone)) w := fun w a n c n' c' => run_neq_slice_nil_any w _ _ a n c n' c' Try.underlying47
  have HX := Lib.hid g.rr
  have hlx : Hid (xss.length = n) := Lib.hid g.rr.lx
  have hn := g.hn
  have hl := Lib.hid g.hl
  clear g
  go_enter Try.func28, Try.ntmps28
  go_wp2_with fail
  refine (implGS a A n c vs xss w HX.out hn hl).mono ?_
  rintro e w1 ⟨rfl, b1⟩
  have B1 := Lib.hid b1
  have X1 := Lib.hid (HX.out.up b1)
  clear b1
  rcases hs : gB a xss with _ | _
  · have Fin : Hid (IsSgs a xss []) := Lib.hid (.inr ⟨hs, rfl⟩)
    clear hs
    go_wp2_with fail
    go_ret
    exact ⟨_, _, _, _, _, rfl, SS.nil_, Fin.out, B1.out⟩
  · obtain ⟨N, rfl, hN1, hN2, hg8, hpm, hok⟩ := gB_pm hs
    have Hs := Lib.hid hs
    have Ok := Lib.hid hok
    have hn8 : n ≤ 8 := by rw [← hlx.out]; exact hg8
    clear hs hpm hok hg8
    go_wp2_with fail
    refine (implChainOf N n c A vs xss w1 X1.out hN1 hN2 hn8 Ok).mono ?_
    rintro e w3 ⟨ch, L, M, rfl, hc, ho, hw, b3⟩
    have W3 := Lib.hid hw
    have C3 := Lib.hid hc
    have O3 := Lib.hid ho
    have B3 : Hid (Below w.heap.size w w3) := Lib.hid (btr B1.out b3)
    have hz3 := B3.out.size
    have Ep : Hid (ptr N L 0 = .pointer (some ⟨(L 0).B, 0, none⟩)) := Lib.hid (ptr_at (by omega))
    clear hc ho hw b3
    go_wp2_with fail
    go_loopg [5, 6, 7, 8] N (fun gg o l _ _ wr => ∃ (k : Nat) (A1 : Option Addr) (m1 c1 : Nat) (us : List SV) (ls : List (List Int)), k ≤ N ∧ N - k ≤ gg ∧ l = ptr N L k ∧ o = .slice A1 m1 c1 ∧ SS wr w3.heap.size w3.heap.size A1 m1 c1 us ls ∧ Sgs N xss (prs N k) ls ∧ Below w3.heap.size w3 wr)
    case atStart => exact ⟨0, none, 0, 0, [], [], Nat.zero_le _, by omega, Ep.out.symm, rfl, SS.nil_, rfl, Below.refl _ _⟩
    case round =>
      obtain ⟨k, A1, m1, c1, us, ls, hk, hgg, rfl, rfl, hs, hsg, bel⟩ := hrel
      have Ss := Lib.hid hs
      have Sg := Lib.hid hsg
      have Be := Lib.hid bel
      have Ck0 := Lib.hid (C3.out.up bel)
      clear hs hsg bel
      by_cases hlt : k < N
      · rw [ptr_at hlt]
        obtain ⟨x0, _⟩ := Ck0.out.cB (Nat.zero_le _) hlt
        go_wp2_with fail
        go_loopg [5, 7, 8] N (fun gg o yv _ wr => ∃ (j : Nat) (A1 : Option Addr) (m1 c1 : Nat) (us : List SV) (ls : List (List Int)), k + 1 + j ≤ N ∧ N - (k + 1 + j) ≤ gg ∧ yv = .int .i64 ((k + 1 + j : Nat) : Int) ∧ o = .slice A1 m1 c1 ∧ SS wr w3.heap.size w3.heap.size A1 m1 c1 us ls ∧ Sgs N xss (prs N k ++ prsI N k j) ls ∧ Below w3.heap.size w3 wr)
        case atStart => exact ⟨0, A1, m1, c1, us, ls, by omega, by omega, by go_num, rfl, Ss.out, by simpa [prsI] using Sg.out, Be.out⟩
        case round =>
          clear Ss Sg Be Ck0 x0
          obtain ⟨j, A1, m1, c1, us, ls, hj, hg2, rfl, rfl, hs, hsg, bel⟩ := hrel
          have Ss := Lib.hid hs
          have Sg := Lib.hid hsg
          have Be := Lib.hid bel
          have Cj := Lib.hid (C3.out.up bel)
          have Ok2 := Lib.hid (hsg.ok hN1 hN2 Ok.out)
          have hm1 : m1 ≤ 800 := by
            rw [← hs.lx]
            have h1 := Ok2.out.1
            have h2 := prs_len N k
            have h3 : (prsI N k j).length = j := by simp [prsI]
            have h4 := Nat.mul_le_mul (show k ≤ 20 by omega) hN2
            rw [List.length_append, h3] at h1
            omega
          have hzr := bel.size
          clear hs hsg bel
          by_cases hjt : k + 1 + j < N
          · obtain ⟨y0, y1, y2, y3, y4⟩ := Cj.out.cB (Nat.zero_le _) hlt
            have x7 := Cj.out.cM (Nat.zero_le _) hlt hjt
            have em := Cj.out.eM (Nat.zero_le _) hlt hjt
            have q0 : (0 : Int) ≤ ((k + 1 + j : Nat) : Int) := by omega
            have q1 : ((k + 1 + j : Nat) : Int) < N := by omega
            by_cases hz : ch.rep k (k + 1 + j) = []
            · rw [em.1 hz] at x7
              simp only [sval, sd0] at x7
              have Sg7 : Hid (Sgs N xss (prs N k ++ prsI N k (j + 1)) ls) := Lib.hid (by
                have h3 := Sg.out.snoc (m := []) (ok := false) (pr := (k, k + 1 + j)) (.inr ⟨rfl, rfl, fun q hq hag => by
                  refine (W3.out.rep_iff hN1 hN2 hlt).2 ⟨q, hq, fun i hi => ?_, ?_⟩ hz
                  · have h4 := hag i (by rw [preOf_len]; omega)
                    unfold preOf at h4
                    rw [getD_app _ _ _ i (by rw [idL_length]; exact hi), idL_getD hi] at h4
                    omega
                  · have h4 := hag k (by rw [preOf_len]; omega)
                    unfold preOf at h4
                    rw [getD_snoc _ _ _ k (by rw [idL_length])] at h4
                    have h4 : (nx q k : Int) = ((k + 1 + j : Nat) : Int) := h4
                    omega⟩)
                rw [prsI_succ, ← List.append_assoc]; simpa using h3)
              clear em hz y0 y1 y2 y4
              go_wp2_with fail
              go_roundg (N - (k + 1 + (j + 1)))
              case rel => exact ⟨j + 1, A1, m1, c1, us, ls, by omega, by omega, by go_num, rfl, Ss.out, Sg7.out, Be.out⟩
              case measure => omega
            · have hrd := em.2 hz
              rcases hde : (L k).en.getD (k + 1 + j) sd0 with ⟨dA, dn, dc⟩
              rw [hde] at x7 hrd
              obtain ⟨b, off, e⟩ := rd_not0 hrd hz
              have e : dA = some ⟨b, off, none⟩ := e
              subst e
              obtain ⟨a1, a2, a3, a4⟩ := W3.out.rep_mb hN1 hN2 hlt hz
              have RP := a1.pn Ok.out hN1 hN2
              obtain rfl : dn = N := by have h3 : (ch.rep k (k + 1 + j)).length = dn := hrd.len; have := RP.2; omega
              have Gr : Hid (GrTo dn xss (preOf (k, k + 1 + j)) (ch.rep k (k + 1 + j)) (k + 1)) := Lib.hid ⟨a1, fun i hi => ⟨fun _ => preOf_at (N := dn) a2 a3 i hi, fun h => absurd h (by rw [preOf_len]; omega)⟩⟩
              have K := implSmall w1.heap.size dn 0 (k + 1) dc wr.heap.size M ch L xss (preOf (k, k + 1 + j)) (some ⟨b, off, none⟩) (ch.rep k (k + 1 + j)) wr Cj.out O3.out W3 (Nat.zero_le _) hlt hN1 hN2 (Lib.hid Ok.out) hrd.ri (Nat.le_refl _) (Lib.hid fun e => absurd e (by omega)) Gr (by rw [preOf_len]; exact Nat.le_refl _)
              rw [ptr_at (show k + 1 < dn by omega)] at K y4
              have Kh := Lib.hid K
              simp only [sval] at x7
              clear em hz hrd hde a1 a2 a3 a4 RP y0 y1 y2 K
              go_wp2_with fail
              refine Kh.out.mono ?_
              rintro e w7 ⟨A7, c7, m7, rfl, s7, gr7, b7⟩
              have S7 := Lib.hid s7
              have B7 := Lib.hid b7
              have Ss7 := Lib.hid (Ss.out.up b7)
              have Be7 : Hid (Below w3.heap.size w3 w7) := Lib.hid (btr Be.out b7)
              have z7 := b7.size
              have Di := Lib.hid (lies_dis Ss.out s7.lies (Nat.le_refl _))
              have Sg7 : Hid (Sgs dn xss (prs dn k ++ prsI dn k (j + 1)) (ls ++ [m7])) := Lib.hid (by
                have h3 := Sg.out.snoc (m := m7) (ok := true) (pr := (k, k + 1 + j)) (.inl ⟨rfl, gr7⟩)
                rw [prsI_succ, ← List.append_assoc]; simpa using h3)
              clear s7 gr7 b7 Kh
              go_wp2_with (at_builtin; go_must (refine wpList_app2_at rfl _ _ rfl rfl (Ss7.out.alloc _) w7.heap.size A7 dn c7 m7 rfl (by rw [World.cell?_alloc_at _ _ _ _ rfl]; rfl) ((S7.out.mono hzr).alloc _) Di.out (by omega) (by simp; omega) ?_); intro A8 c8 w8 s8 g8 h8)
              have S8 := Lib.hid s8
              have Be8 : Hid (Below w3.heap.size w3 w8) := Lib.hid ((Be7.out.alloc (by omega) _).grown g8 (by simp; omega) (fun q hq => (Ss7.out.lt_ q hq).1))
              clear s8 g8 h8
              go_wp2_with fail
              go_roundg (dn - (k + 1 + (j + 1)))
              case rel => exact ⟨j + 1, A8, m1 + 1, c8, _, _, by omega, by omega, by go_num, rfl, S8.out, Sg7.out, Be8.out⟩
              case measure => omega
          · have hj2 : j = N - (k + 1) := by omega
            have Sg2 : Hid (Sgs N xss (prs N (k + 1)) ls) := Lib.hid (by rw [hj2] at Sg; exact Sg.out)
            obtain ⟨_, _, _, _, y4⟩ := Cj.out.cB (Nat.zero_le _) hlt
            go_wp2_with fail
            go_roundg (N - (k + 1))
            case rel => exact ⟨k + 1, A1, m1, c1, us, ls, by omega, by omega, rfl, rfl, Ss.out, Sg2.out, Be.out⟩
            case measure => omega
      · obtain rfl : k = N := by omega
        rw [ptr_end (Nat.le_refl _)]
        have Fin : Hid (IsSgs k xss ls) := Lib.hid (.inl ⟨Hs.out, by rw [Int.toNat_natCast]; exact Sg.out⟩)
        have S5 := Lib.hid (Ss.out.mono hz3 hz3)
        have B5 : Hid (Below w.heap.size w wr) := Lib.hid (btr B3.out Be.out)
        go_wp2_with fail
        go_ret
        exact ⟨_, _, _, us, ls, rfl, S5.out, Fin.out, B5.out⟩

set_option maxHeartbeats 8000000 in
set_option maxRecDepth 100000 in
/-- SameGroup. -/
theorem implSameGroup : CtImmB 16 IsSam := by
  intro a A n c vs xss Q m cm us yss w g s _
  have HX := Lib.hid g.rr
  have HY := Lib.hid s.rr
  have hlx : Hid (xss.length = n) := Lib.hid g.rr.lx
  have hly : Hid (yss.length = m) := Lib.hid s.rr.lx
  have hn := g.hn
  have hm := s.hn
  have hl := Lib.hid g.hl
  have hl2 := Lib.hid s.hl
  clear g s
  go_enter Try.func16, Try.ntmps16
  rcases hs : gB a xss with _ | _
  · have Fin : Hid (IsSam a xss yss false) := Lib.hid ⟨fun h => (by cases h), fun h => (by have := h.1; rw [hs] at this; cases this)⟩
    have Hs := Lib.hid hs
    clear hs
    go_wp2_with (first
      | (go_at_call 44; refine (implGS a A n c vs xss w HX.out hn hl).mono ?_; rintro e w1 ⟨rfl, b1⟩; rw [Hs.out]; have B1 := Lib.hid b1; clear b1))
    go_ret
    exact ⟨_, rfl, Fin.out, B1.out⟩
  · have Hs := Lib.hid hs
    rcases hs2 : gB a yss with _ | _
    · have Fin : Hid (IsSam a xss yss false) := Lib.hid ⟨fun h => (by cases h), fun h => (by have := h.2.1; rw [hs2] at this; cases this)⟩
      have Hs2 := Lib.hid hs2
      clear hs hs2
      go_wp2_with (first
        | (go_at_call_of 44 (Value.slice A n c); refine (implGS a A n c vs xss w HX.out hn hl).mono ?_; rintro e w1 ⟨rfl, b1⟩; rw [Hs.out]; have B1 := Lib.hid b1; clear b1)
        | (go_at_call_of 44 (Value.slice Q m cm); refine (implGS a Q m cm us yss w1 (HY.out.up B1.out) hm hl2).mono ?_; rintro e w2 ⟨rfl, b2⟩; rw [Hs2.out]; have B2 := Lib.hid b2; clear b2))
      go_ret
      exact ⟨_, rfl, Fin.out, btr B1.out B2.out⟩
    · obtain ⟨N, rfl, hN1, hN2, hg8, hpm, hok⟩ := gB_pm hs
      obtain ⟨N', eN, _, _, hg8b, _, hok2⟩ := gB_pm hs2
      obtain rfl : N = N' := by omega
      have Hs2 := Lib.hid hs2
      have Ok := Lib.hid hok
      have Ok2 := Lib.hid hok2
      have hn8 : n ≤ 8 := by rw [← hlx.out]; exact hg8
      have hm8 : m ≤ 8 := by rw [← hly.out]; exact hg8b
      clear hs hs2 hpm hok hok2 hg8 hg8b eN
      go_wp2_with (first
        | (go_at_call_of 44 (Value.slice A n c); refine (implGS N A n c vs xss w HX.out hn hl).mono ?_; rintro e w1 ⟨rfl, b1⟩; rw [Hs.out]; have B1 := Lib.hid b1; clear b1)
        | (go_at_call_of 44 (Value.slice Q m cm); refine (implGS N Q m cm us yss w1 (HY.out.up B1.out) hm hl2).mono ?_; rintro e w2 ⟨rfl, b2⟩; rw [Hs2.out]; have B2 : Hid (Below w.heap.size w w2) := Lib.hid (btr B1.out b2); clear b2)
        | (go_at_call 45; refine (implChainOf N m cm Q us yss w2 (HY.out.up B2.out) hN1 hN2 hm8 Ok2).mono ?_; rintro e w3 ⟨ch, L, M, rfl, hc, ho, hw, b3⟩; have W3 := Lib.hid hw; have C3 := Lib.hid hc; have O3 := Lib.hid ho; have B3 : Hid (Below w.heap.size w w3) := Lib.hid (btr B2.out b3); clear hc ho hw b3))
      obtain ⟨ans, hans⟩ := boolOf (∀ x ∈ xss, Mb yss N x)
      have Ha := Lib.hid hans
      clear hans
      refine (implContainsAll w2.heap.size N n c M ch L A vs yss xss w3 C3.out W3 (HX.out.up B3.out) Ok hN1 hN2 hn8 ans Ha).mono ?_
      rintro e w4 ⟨rfl, b4⟩
      have C4 := Lib.hid (C3.out.up b4)
      have B4 : Hid (Below w.heap.size w w4) := Lib.hid (btr B3.out b4)
      clear b4
      rcases ans with _ | _
      · have Fin : Hid (IsSam N xss yss false) := Lib.hid ⟨fun h => (by cases h), fun h => (by
          have h3 := h.2.2.2
          rw [Int.toNat_natCast] at h3
          exact absurd (Ha.out.2 h3) (by decide))⟩
        go_wp2_with fail
        go_ret
        exact ⟨_, rfl, Fin.out, B4.out⟩
      · have Sub : Hid (∀ g ∈ xss, Mb yss N g) := Lib.hid (Ha.out.1 rfl)
        go_wp2_with fail
        refine (implChainOf N n c A vs xss w4 (HX.out.up B4.out) hN1 hN2 hn8 Ok).mono ?_
        rintro e w5 ⟨ch2, L2, M2, rfl, hc5, ho5, hw5, b5⟩
        have B5 : Hid (Below w.heap.size w w5) := Lib.hid (btr B4.out b5)
        have K1 := implOrder w4.heap.size N 0 0 M2 ch2 L2 xss w5 hc5 ho5 (Lib.hid hw5) (Nat.le_refl _) (Nat.zero_le _) hN1 hN2 (Lib.hid Ok.out)
        have K2 := implOrder w2.heap.size N 0 0 M ch L yss w5 (C4.out.up b5) O3.out W3 (Nat.le_refl _) (Nat.zero_le _) hN1 hN2 (Lib.hid Ok2.out)
        rw [ptr_at (by omega)] at K1 K2
        have o1 := hw5.os hN1 hN2
        have o2 := W3.out.os hN1 hN2
        obtain ⟨v1, cr1, e1⟩ := o1.order Ok.out hN1 hN2
        obtain ⟨v2, cr2, e2⟩ := o2.order Ok2.out hN1 hN2
        have f1 : prodL (osL N ch2 N) = pr (osL N ch2 N) 0 (N - 0) := by rw [prodL_pr, osL_len]; rfl
        have f2 : prodL (osL N ch N) = pr (osL N ch N) 0 (N - 0) := by rw [prodL_pr, osL_len]; rfl
        rw [f1] at e1
        rw [f2] at e2
        have hsub : ∀ p, Mb xss N p → Mb yss N p := fun p hp => hp.sub hN1 hN2 Ok2.out Sub.out
        have Fin : Hid (IsSam N xss yss (pr (osL N ch2 N) 0 (N - 0) == pr (osL N ch N) 0 (N - 0))) := Lib.hid (by
          unfold IsSam
          rw [beq_iff_eq, e1, e2]
          constructor
          · intro h
            have hv : v1 = v2 := by omega
            subst hv
            refine ⟨Hs.out, Hs2.out, fun g hg => ?_, fun g hg => ?_⟩
            · rw [Int.toNat_natCast]
              exact cr1.same cr2 hsub g (.of (Ok2.out g hg) hg)
            · rw [Int.toNat_natCast]; exact Sub.out g hg
          · intro h
            have h3 := h.2.2.1
            rw [Int.toNat_natCast] at h3
            have := (cr1.congr fun p => ⟨hsub p, fun hp => hp.sub hN1 hN2 Ok.out h3⟩).uniq cr2
            omega)
        have Kh1 := Lib.hid K1
        have Kh2 := Lib.hid K2
        clear K1 K2 hc5 ho5 hw5 b5 o1 o2 cr1 cr2 e1 e2 f1 f2 hsub
        go_wp2_with fail
        refine Kh1.out.mono ?_
        rintro e w6 ⟨rfl, rfl⟩
        go_wp2_with fail
        refine Kh2.out.mono ?_
        rintro e w7 ⟨rfl, rfl⟩
        go_wp2_with fail
        go_ret
        exact ⟨_, rfl, Fin.out, B5.out⟩
end Go.Proofs.Ytcjcmhoalomjfab

/- What the frame of a proof knows of a slice of slices of int64 that came in. No condition. -/
namespace Go.Proofs.Ytcjcmhoalomjfab
open Go.ChangeShapes Go.WideShapes Go.ChangeAt Go.RowKit

theorem cellsS1 : Try.prog.cellsOf 22 = 1 := by kernel_rfl
theorem one_cell {W : World} {x : Addr} {cs : List Value} (h : W.cells? 0 x 1 = some cs) : ∃ c, cs = [c] ∧ W.cell? x = some c := by
  have e0 : x.add 0 = x := by simp [Addr.add]
  simp [World.cells?, List.range_succ, e0] at h
  cases hc : W.cell? x with
  | none => simp [hc] at h
  | some c =>
    simp [hc] at h
    exact ⟨c, h.symm, rfl⟩

theorem argSS {H : Type} {enc : TypeId × Value → H} {W : World} {a : Option Addr} {len cap : Nat} {d : DataW H} {ps : List MemPlace}
    (h : ∃ fuel, DataW.trod enc Try.prog W 0 (fun _ => true) true fuel 28 (Value.slice a len cap).cells.toList = some (d, ps)) :
    len ≤ maxLen ∧ ∃ vs xss, RR W W.heap.size a len vs xss ∧ ∀ i, i < len → (vs.getD i sd0).2.1 ≤ maxLen := by
  obtain ⟨fuel, hf⟩ := h
  rcases DataW.trod_slice Try.underlying28 hf with ⟨hcs, hx⟩ | ⟨a', len', cap', elems, rest, n, rfl, hcs, hx, _, hl, hm, hlen, hel, _, _⟩
  · simp [Value.cells] at hcs
    obtain ⟨rfl, rfl, rfl⟩ := hcs
    exact ⟨Nat.zero_le _, [], [], RR.nil_, fun i h => absurd h (by omega)⟩
  · simp [Value.cells] at hcs
    obtain ⟨rfl, rfl, rfl⟩ := hcs
    obtain ⟨b, off, spot⟩ := a'
    -- each element
    have key : ∀ i, i < len → ∃ (A : Option Addr) (l c : Nat) (xs : List Int), W.cell? (Addr.add ⟨b, off, spot⟩ i) = some (.slice A l c) ∧ xs.length = l ∧ l ≤ c ∧ c ≤ maxLen ∧ RI W W.heap.size A xs := by
      intro i hi
      have hE := hel i hi
      rw [cellsS1, Nat.mul_one, List.getElem?_eq_getElem (by omega)] at hE
      simp only [Option.bind_eq_some_iff] at hE
      obtain ⟨cs1, hc1, hy1⟩ := hE
      obtain ⟨c, rfl, hcc⟩ := one_cell hc1
      rcases open_ints Try.underlying22 Try.underlying2 (by kernel_rfl) hy1 with ⟨hcs, _⟩ | ⟨ia, il, ic, zs, hcs, _, hil, him, hiz, _, hicell, hiw⟩
      · injection hcs with hcs _
        subst hcs
        exact ⟨none, 0, 0, [], hcc, rfl, Nat.le_refl _, Nat.zero_le _, RI.nil_⟩
      · injection hcs with hcs _
        subst hcs
        have hiz' : zs.length = ic := by simpa using hiz
        obtain ⟨xs, hxl, hR⟩ := RI.of_row (w := W) (a := some ia) (len := il) (cap := ic) (zs := zs) (.inr ⟨ia, rfl, hil, him, hiz', hicell, hiw⟩)
        exact ⟨some ia, il, ic, xs, hcc, hxl.out, hil, him, hR⟩
    refine ⟨Nat.le_trans hl hm, ?_⟩
    have hch : ∃ f : Nat → SV × List Int, ∀ i, i < len → W.cell? (Addr.add ⟨b, off, spot⟩ i) = some (.slice (f i).1.1 (f i).1.2.1 (f i).1.2.2) ∧ (f i).2.length = (f i).1.2.1 ∧ (f i).1.2.1 ≤ (f i).1.2.2 ∧ (f i).1.2.2 ≤ maxLen ∧ RI W W.heap.size (f i).1.1 (f i).2 := by
      refine ⟨fun i => if hi : i < len then (((Classical.choose (key i hi)), Classical.choose (Classical.choose_spec (key i hi)), Classical.choose (Classical.choose_spec (Classical.choose_spec (key i hi)))), Classical.choose (Classical.choose_spec (Classical.choose_spec (Classical.choose_spec (key i hi))))) else (sd0, []), fun i hi => ?_⟩
      have := Classical.choose_spec (Classical.choose_spec (Classical.choose_spec (Classical.choose_spec (key i hi))))
      simp only [hi, dif_pos]
      exact this
    obtain ⟨f, hf⟩ := hch
    have g1 : ∀ j, j < len → ((List.range len).map fun i => (f i).1).getD j sd0 = (f j).1 := fun j hj => by
      rw [List.getD_eq_getElem?_getD, List.getElem?_map, List.getElem?_range hj]; rfl
    have g2 : ∀ j, j < len → ((List.range len).map fun i => (f i).2).getD j [] = (f j).2 := fun j hj => by
      rw [List.getD_eq_getElem?_getD, List.getElem?_map, List.getElem?_range hj]; rfl
    refine ⟨(List.range len).map fun i => (f i).1, (List.range len).map fun i => (f i).2, ⟨by simp, by simp, fun hp => ?_, fun j hj => ?_, fun j hj => ?_, fun j hj => ?_⟩, fun i hi => ?_⟩
    · have h0 := (hf 0 hp).1
      have hs : spot = none := by simpa [Addr.add] using World.cell?_spot h0
      subst hs
      refine ⟨b, off, rfl, ?_, fun j hj => ?_⟩
      · have := World.block_lt_of_cell? W _ h0
        simpa [Addr.add] using this
      · rw [g1 j hj, ← (hf j hj).1]
        unfold Addr.add
        split <;> simp_all
    · rw [g1 j hj, g2 j hj]; exact (hf j hj).2.2.2.2
    · rw [g1 j hj, g2 j hj]; exact (hf j hj).2.1
    · rw [g1 j hj]; exact (hf j hj).2.2.1
    · rw [g1 i hi]; exact Nat.le_trans (hf i hi).2.2.1 (hf i hi).2.2.2.1
end Go.Proofs.Ytcjcmhoalomjfab

/- What the frame of a proof knows of a slice of bytes that came in, in the words of the walks. No condition. -/
namespace Go.Proofs.Ytcjcmhoalomjfab
open Go.RowKit

theorem SB.of_rowB {w : World} {a : Option Addr} {len cap : Nat} {zs : List Int}
    (h : (a = none ∧ len = 0 ∧ cap = 0 ∧ zs = []) ∨ ∃ x, a = some x ∧ len ≤ cap ∧ cap ≤ maxLen ∧ zs.length = cap ∧ (∀ i, i < zs.length → w.cell? (x.add i) = some (.int .u8 (zs.getD i 0))) ∧ ∀ n ∈ zs, (Lit.int .u8 n).wf = true)
    (hw : ∀ n : Int, (Lit.int .u8 n).wf = true → 0 ≤ n ∧ n ≤ 255) : SB w w.heap.size a len := by
  rcases h with ⟨rfl, rfl, rfl, rfl⟩ | ⟨⟨b, off, spot⟩, rfl, hl, hm, hz, hc, hwf⟩
  · exact fun h => absurd h (by omega)
  · intro hp
    have h0 := hc 0 (by omega)
    have hspot : spot = none := by simpa [Addr.add] using World.cell?_spot h0
    subst hspot
    refine ⟨b, off, rfl, ?_, fun j hj => ?_⟩
    · have := World.block_lt_of_cell? w _ h0
      simpa [Addr.add] using this
    · have hjz : j < zs.length := by omega
      have hr := hw (zs.getD j 0) (hwf _ (by rw [List.getD_eq_getElem?_getD, List.getElem?_eq_getElem hjz]; exact List.getElem_mem _))
      refine ⟨(zs.getD j 0).toNat, by omega, ?_⟩
      rw [Int.toNat_of_nonneg hr.1, ← hc j hjz]
      unfold Addr.add
      split <;> simp_all
end Go.Proofs.Ytcjcmhoalomjfab

/- The model's draws of numbers, with their bounds; draws of generators and of groups. Condition: at most 4096 bytes. -/
namespace Go.Proofs.Ytcjcmhoalomjfab
open Go.RowKit

/-- The bounds of an int64. -/
def B64 (z : Int) : Prop := -9223372036854775808 ≤ z ∧ z ≤ 9223372036854775807
/-- A literal row of numbers, read later. -/
theorem lit_atB {w w1 : World} {g : Nat} {cs : Array Value} {r : Nat} (hg : g < w.heap.size) (hb : (w.alloc (.cells cs 2)).grownBy w1 (some g)) (hr : r < cs.size) (hall : ∀ (i : Nat) (h : i < cs.size), ∃ z : Int, cs[i] = .int .i64 z ∧ B64 z) : ∃ z : Int, w1.cell? ⟨w.heap.size, r, none⟩ = some (.int .i64 z) ∧ B64 z := by
  obtain ⟨z, hz, hB⟩ := hall r hr
  refine ⟨z, ?_, hB⟩
  rw [World.cell?_of_block (hb.block w.heap.size (by simp) (by intro e; injection e with e; omega)), World.cell?_alloc_at _ _ _ _ rfl]
  show cs[r]? = _
  rw [Array.getElem?_eq_getElem hr, hz]

set_option maxHeartbeats 1600000 in
theorem srcExtremeB (g : Nat) (w : World) (hs : Src w g) :
    Calls Try.prog 106 #[.pointer (some ⟨g, 0, none⟩)] w fun e w' => ∃ z : Int, e = .returned (.int .i64 z) ∧ B64 z ∧ Src w' g ∧ w.grownBy w' (some g) := by
  have hg := hs.lt
  have Hs := Lib.hid hs
  clear hs
  go_enter Try.func106, Try.ntmps106
  go_wp2_with fail
  refine (srcBelow g _ 10 _ (Hs.out.below ((Below.refl w.heap.size w).alloc (Nat.le_refl _) _) hg) rfl (by omega) (by omega)).mono ?_
  rintro e w1 ⟨r, hr, rfl, s1, g1⟩
  have S1 := Lib.hid s1
  have G1 : Hid (w.grownBy w1 (some g)) := Lib.hid (grown_trans' (grown_alloc2 (grown_refl _ _) _) g1)
  obtain ⟨z, hz, hzB⟩ := lit_atB (r := r) hg g1 hr (by
    intro i h
    have h : i < 10 := h
    rcases i with _ | _ | _ | _ | _ | _ | _ | _ | _ | _ | i
    all_goals first | exact ⟨_, rfl, by unfold B64; omega⟩ | omega)
  have p0 : (0 : Int) ≤ r := by omega
  have p1 : (r : Int) < 10 := by omega
  clear s1 g1
  go_wp2_with fail
  go_ret
  exact ⟨z, rfl, hzB, S1.out, G1.out⟩

set_option maxHeartbeats 1600000 in
theorem srcNumberB (g n : Nat) (w : World) (hs : Src w g) (h1 : 1 ≤ n) (hn : n ≤ 100) :
    Calls Try.prog 83 #[.pointer (some ⟨g, 0, none⟩), .int .i64 (n : Int)] w fun e w' => ∃ z : Int, e = .returned (.int .i64 z) ∧ B64 z ∧ Src w' g ∧ w.grownBy w' (some g) := by
  go_enter Try.func83, Try.ntmps83
  go_wp2_with fail
  refine (srcOne g _ 10 w hs rfl (by omega) (by omega)).mono ?_
  rintro e w1 ⟨b, rfl, s1, g1⟩
  have S1 := Lib.hid s1
  have G1 := Lib.hid g1
  clear s1 g1
  cases b
  · go_wp2_with fail
    refine (srcOne g _ 2 w1 S1.out rfl (by omega) (by omega)).mono ?_
    rintro e w2 ⟨b, rfl, s2, g2⟩
    have S2 := Lib.hid s2
    have G2 : Hid (w.grownBy w2 (some g)) := Lib.hid (grown_trans' G1.out g2)
    clear s2 g2
    cases b
    · go_wp2_with fail
      refine (srcBelow g _ (n + 1) w2 S2.out (by omega) (by omega) (by omega)).mono ?_
      rintro e w3 ⟨r, hr, rfl, s3, g3⟩
      have S3 := Lib.hid s3
      have G3 : Hid (w.grownBy w3 (some g)) := Lib.hid (grown_trans' G2.out g3)
      clear s3 g3
      go_wp2_with fail
      go_ret
      exact ⟨r, rfl, by unfold B64; omega, S3.out, G3.out⟩
    · by_cases h4 : n ≤ 4
      · have hm : (min (n : Int) 4) = (n : Int) := by omega
        have d4 : decide ((n : Int) ≤ 4) = true := by simp; omega
        go_wp2_with fail
        refine (srcBelow g _ (n + 1) w2 S2.out (by omega) (by omega) (by omega)).mono ?_
        rintro e w3 ⟨r, hr, rfl, s3, g3⟩
        have S3 := Lib.hid s3
        have G3 : Hid (w.grownBy w3 (some g)) := Lib.hid (grown_trans' G2.out g3)
        clear s3 g3
        go_wp2_with fail
        go_ret
        exact ⟨r, rfl, by unfold B64; omega, S3.out, G3.out⟩
      · have hm : (min (n : Int) 4) = 4 := by omega
        have d4 : decide ((n : Int) ≤ 4) = false := by simp; omega
        go_wp2_with fail
        refine (srcBelow g _ (5) w2 S2.out (by omega) (by omega) (by omega)).mono ?_
        rintro e w3 ⟨r, hr, rfl, s3, g3⟩
        have S3 := Lib.hid s3
        have G3 : Hid (w.grownBy w3 (some g)) := Lib.hid (grown_trans' G2.out g3)
        clear s3 g3
        go_wp2_with fail
        go_ret
        exact ⟨r, rfl, by unfold B64; omega, S3.out, G3.out⟩
  · go_wp2_with fail
    refine (srcExtremeB g w1 S1.out).mono ?_
    rintro e w2 ⟨z, rfl, hzB, s2, g2⟩
    have S2 := Lib.hid s2
    have hg2 := s2.lt
    have G2 : Hid (w.grownBy w2 (some g)) := Lib.hid (grown_trans' G1.out g2)
    clear s2 g2
    go_wp2_with fail
    refine (srcBelow g _ 4 _ (S2.out.below ((Below.refl w2.heap.size w2).alloc (Nat.le_refl _) _) hg2) rfl (by omega) (by omega)).mono ?_
    rintro e w3 ⟨r, hr, rfl, s3, g3⟩
    have S3 := Lib.hid s3
    have G3 : Hid (w.grownBy w3 (some g)) := Lib.hid (grown_trans' (grown_alloc2 G2.out _) g3)
    obtain ⟨y, hy, hyB⟩ := lit_atB (r := r) hg2 g3 hr (by
      intro i h
      have h : i < 4 := h
      rcases i with _ | _ | _ | _ | i
      all_goals first | exact ⟨_, rfl, by unfold B64; omega⟩ | exact ⟨_, rfl, hzB⟩ | omega)
    have p0 : (0 : Int) ≤ r := by omega
    have p1 : (r : Int) < 4 := by omega
    clear s3 g3
    go_wp2_with fail
    go_ret
    exact ⟨y, rfl, hyB, S3.out, G3.out⟩


section
variable {w w' : World} {base n c : Nat} {A : Option Addr} {vs : List SV} {xss : List (List Int)}
/-- Kept where a block turned that is none of its own. -/
theorem SS.farR {r lo hi : Nat} (h : SS w base base A n c vs xss) (hg : w.grownBy w' (some r)) (hA : ∀ k, (Value.slice A n c).ownBlock = some k → lo ≤ k ∧ k < hi) (hI : ∀ i, i < n → ∀ k, (sval (vs.getD i sd0)).ownBlock = some k → lo ≤ k ∧ k < hi) (hr : r < lo ∨ hi ≤ r) : SS w' base base A n c vs xss := by
  have ne : ∀ (v : Value), (∀ k, v.ownBlock = some k → lo ≤ k ∧ k < hi) → v.ownBlock = none ∨ v.ownBlock ≠ some r := fun v hv => by
    rcases e : v.ownBlock with _ | k
    · exact .inl rfl
    · exact .inr fun e2 => by injection e2 with e2; have := hv k e; omega
  exact ⟨World.ownsRow.kept h.own hg (ne _ hA), h.lv, h.lx, fun i hi' => (h.row i hi').kept hg (ne _ (hI i hi')), h.dis⟩
/-- A slice that can be read, appended onto a slice of slices of the call's own. -/
theorem wpList_app2R {ops : Array Oper} {rest : List Oper} {o : Oper} {a : Act} {Q : Exit → Act → World → Prop} (hgd : o.guard = none) (s x : Operand)
    (ho : o.op = .call { callee := .builtin .append, args := #[s, x], argTypes := #[28, 28] })
    (hs : a.eval s = .slice A n c) (hss : SS w base base A n c vs xss) (g : Nat) (dA : Option Addr) (dn dc lo : Nat) (ys : List Int) (hx : a.eval x = .slice (some ⟨g, 0, none⟩) 1 1)
    (hcell : w.cell? ⟨g, 0, none⟩ = some (.slice dA dn dc)) (hys : Pm w lo dA dn dc ys) (hlo : ∀ k, (Value.slice A n c).ownBlock = some k → k < lo) (hn : n ≤ 1000000000) (hbase : base ≤ w.heap.size)
    (h : ∀ A' c' w', RR w' w'.heap.size A' (n + 1) (vs ++ [(dA, dn, dc)]) (xss ++ [ys]) → w.grownBy w' (Value.slice A n c).ownBlock → wpList Try.prog ops Q rest (a.put o.dst (.slice A' (n + 1) c')) w') : wpList Try.prog ops Q (o :: rest) a w := by
  obtain ⟨i0, hi, hz0, hz1, hz2⟩ := info_parts infoS
  refine wpList_append_own (w := w) hgd s x 28 ho base 22 i0 (.slice none 0 0) 1 24 Try.underlying28 hi hz0 hz1 hz2 rfl (by decide) _ n _ hs hss.own ⟨g, 0, none⟩ 1 1 [.slice dA dn dc] hx rfl ?_ ?_ ?_ (by omega) hbase ?_
  · intro j v hj
    match j, hj with
    | 0, hj => simp at hj; subst hj; simpa [Addr.add] using hcell
    | j + 1, hj => simp at hj
  · intro v hv; simp at hv; subst hv; rfl
  · unfold maxLen; omega
  · intro v' w' hown' hg _
    rcases hown'.2 with ⟨rfl, h0⟩ | ⟨g', cap, cur, rfl, hb', hg', hnc, _⟩
    · omega
    · refine h (some ⟨g', 0, none⟩) cap w' ⟨by simp [hss.lv], by simp [hss.lx], fun _ => ⟨g', 0, rfl, (Array.getElem?_eq_some_iff.1 hg').1, fun j hj => ?_⟩, fun j hj => ?_, fun j hj => ?_, fun j hj => ?_⟩ hg
      · rw [Nat.zero_add, hown'.cellAt j (by omega)]
        by_cases e : j < n
        · rw [List.getElem?_append_left (by rw [List.length_map, hss.lv]; exact e), List.getElem?_map, getD_app _ _ _ _ (by rw [hss.lv]; exact e), List.getD_eq_getElem?_getD, List.getElem?_eq_getElem (by rw [hss.lv]; exact e)]; rfl
        · obtain rfl : j = n := by omega
          rw [List.getElem?_append_right (by rw [List.length_map, hss.lv]; exact Nat.le_refl _), List.length_map, hss.lv, Nat.sub_self, getD_snoc _ _ _ _ hss.lv.symm]; rfl
      · by_cases e : j < n
        · rw [getD_app _ _ _ _ (by rw [hss.lv]; exact e), getD_app _ _ _ _ (by rw [hss.lx]; exact e)]
          exact ((hss.row j e).kept hg (apart_types (hss.row j e) hss.own)).ri_
        · obtain rfl : j = n := by omega
          rw [getD_snoc _ _ _ _ hss.lv.symm, getD_snoc _ _ _ _ hss.lx.symm]
          intro hp
          obtain ⟨b, off, e1, h1, h2, hc⟩ := hys.2.2 (by rw [← hys.1]; exact hp)
          refine ⟨b, off, e1, Nat.lt_of_lt_of_le h2 hg.size, fun t ht => (World.cell?_of_block (a := ⟨b, off + t, none⟩) (hg.block b h2 fun e2 => ?_)).trans (hc t (by rw [← hys.1]; exact ht))⟩
          have := hlo b e2.symm
          omega
      · by_cases e : j < n
        · rw [getD_app _ _ _ _ (by rw [hss.lx]; exact e), getD_app _ _ _ _ (by rw [hss.lv]; exact e)]; exact (hss.row j e).1
        · obtain rfl : j = n := by omega
          rw [getD_snoc _ _ _ _ hss.lx.symm, getD_snoc _ _ _ _ hss.lv.symm]; exact hys.1
      · by_cases e : j < n
        · rw [getD_app _ _ _ _ (by rw [hss.lv]; exact e)]; exact (hss.row j e).le.1
        · obtain rfl : j = n := by omega
          rw [getD_snoc _ _ _ _ hss.lv.symm]; exact hys.2.1
end
theorem wrap_pos2 (k : Nat) (h : k ≤ 1000) : IntKind.i64.wrap ((k : Int) + 1) = (k : Int) + 1 := by rw [IntKind.wrap_i64]; omega
theorem grown_new2 {a b c : World} {g : Nat} {row : Option Nat} (h : a.grownBy b (some g)) (h2 : b.grownBy c row) (hr : ∀ j, row = some j → a.heap.size ≤ j) : a.grownBy c (some g) :=
  ⟨h2.os.trans h.os, h2.tape.trans h.tape, h2.output.trans h.output, Nat.le_trans h.size h2.size, fun i hi hne => (h2.block i (Nat.lt_of_lt_of_le hi h.size) (fun e => by have := hr _ e.symm; omega)).trans (h.block i hi hne)⟩
theorem Src.gro2 {g : Nat} {row : Option Nat} {w w' : World} (h : Src w g) (hb : w.grownBy w' row) (hg : ∀ r, row = some r → g < r) : Src w' g := by
  obtain ⟨A, len, cap, k, x, h1, h2, h3, h4⟩ := h
  refine ⟨A, len, cap, k, x, h1, h2, h3.keep fun p hp => World.cell?_of_block (hb.block p.block (by have := h4.lt; omega) (fun e => by have := hg _ e.symm; omega)), h4.grown hb (fun e => by have := hg _ e.symm; omega)⟩

set_option maxHeartbeats 4000000 in
set_option maxRecDepth 100000 in
/-- drawGenerators. -/
theorem drawGens (g n : Nat) (w : World) (hs : Src w g) (h1 : 1 ≤ n) (hn : n ≤ 20) :
    Calls Try.prog 93 #[.pointer (some ⟨g, 0, none⟩), .int .i64 (n : Int)] w fun e w' => ∃ A m c us xss, e = .returned (.slice A m c) ∧ SS w' w.heap.size w.heap.size A m c us xss ∧ (∀ i, i < m → (us.getD i sd0).2.1 = n) ∧ m ≤ 3 ∧ Src w' g ∧ w.grownBy w' (some g) := by
  have hg := hs.lt
  have Sr0 : Hid (Src (w.alloc (.cells #[] 22)) g) := Lib.hid (hs.below ((Below.refl w.heap.size w).alloc (Nat.le_refl _) _) hg)
  have Ss0 := Lib.hid (SS.lit0 w w.heap.size w.heap.size (Nat.le_refl _))
  have G0 : Hid (w.grownBy (w.alloc (.cells #[] 22)) (some g)) := Lib.hid (grown_alloc2 (grown_refl _ _) _)
  clear hs
  go_enter Try.func93, Try.ntmps93
  go_wp2_with fail
  refine (srcBelow g _ 3 _ Sr0.out rfl (by omega) (by omega)).mono ?_
  rintro e w1 ⟨r, hr, rfl, s1, g1⟩
  have Sr1 := Lib.hid s1
  have Ss1 : Hid (SS w1 w.heap.size w.heap.size (some ⟨w.heap.size, 0, none⟩) 0 0 [] []) := Lib.hid (Ss0.out.farR (lo := w.heap.size) (hi := w.heap.size + 1) g1 (fun k e => by simp [Value.ownBlock] at e; omega) (fun i hi => absurd hi (by omega)) (.inl hg))
  have G1 : Hid (w.grownBy w1 (some g)) := Lib.hid (grown_trans' G0.out g1)
  have wr1 : IntKind.i64.wrap (1 + (r : Int)) = ((r + 1 : Nat) : Int) := by rw [IntKind.wrap_i64]; omega
  clear s1 g1 Sr0 Ss0 G0
  go_wp2_with fail
  go_loopg [5, 6] 4 (fun gg v kk wr => ∃ (k : Nat) (A : Option Addr) (m c : Nat) (us : List SV) (xss : List (List Int)), m + k ≤ 3 ∧ k ≤ gg ∧ kk = .int .i64 (k : Nat) ∧ v = .slice A m c ∧ SS wr w.heap.size w.heap.size A m c us xss ∧ (∀ i, i < m → (us.getD i sd0).2.1 = n) ∧ Src wr g ∧ w.grownBy wr (some g))
  case atStart => exact ⟨r + 1, _, 0, _, [], [], by omega, by omega, rfl, rfl, Ss1.out, fun i hi => absurd hi (by omega), Sr1.out, G1.out⟩
  case round =>
    clear Sr1 Ss1 G1 wr1
    obtain ⟨k0, A, m, c, us, xss, hmk, hgk, rfl, rfl, ss, ln, sr, gr⟩ := hrel
    have Ss := Lib.hid ss
    have Ln := Lib.hid ln
    have Sr := Lib.hid sr
    have Gr := Lib.hid gr
    have hwz : w.heap.size ≤ wr.heap.size := gr.size
    clear ss ln sr gr
    by_cases hk0 : 0 < k0
    · obtain ⟨k, rfl⟩ : ∃ k, k0 = k + 1 := ⟨k0 - 1, by omega⟩
      have wk : IntKind.i64.wrap (((k + 1 : Nat) : Int) - 1) = (k : Int) := by rw [IntKind.wrap_i64]; omega
      have LA : Hid (∀ j, (Value.slice A m c).ownBlock = some j → w.heap.size ≤ j ∧ j < wr.heap.size) := Lib.hid Ss.out.lt_
      have LI : Hid (∀ t, t < m → ∀ j, (sval (us.getD t sd0)).ownBlock = some j → w.heap.size ≤ j ∧ j < wr.heap.size) := Lib.hid fun t ht => (Ss.out.row t ht).lt_
      go_wp2_with fail
      refine (specIdent n wr (by omega)).mono ?_
      rintro e w2 ⟨A1, c1, rfl, s2, b2⟩
      have Sr2 := Lib.hid (Sr.out.below b2 Sr.out.lt)
      have Ss2 := Lib.hid (Ss.out.up b2)
      have G2 : Hid (w.grownBy w2 (some g)) := Lib.hid (grown_below2 Gr.out b2)
      rcases Slc.at_ s2 with ⟨_, _, e0, _⟩ | ⟨q, rfl, hq1, hq2⟩
      · omega
      have Sl2 := Lib.hid s2
      have hz2 := b2.size
      clear s2 b2
      go_wp2_with fail
      refine (srcBelow g _ 4 w2 Sr2.out rfl (by omega) (by omega)).mono ?_
      rintro e w3 ⟨r3, hr3, rfl, s3, g3⟩
      have Sr3 := Lib.hid s3
      have Ss3 := Lib.hid (Ss2.out.farR g3 LA.out LI.out (.inl hg))
      have Sl3 : Hid (Slc w3 wr.heap.size (some ⟨q, 0, none⟩) n c1 (idL n)) := Lib.hid (Sl2.out.kept g3 (.inr (by simp [Value.ownBlock]; omega)))
      have G3 : Hid (w.grownBy w3 (some g)) := Lib.hid (grown_trans' G2.out g3)
      have hz3 := g3.size
      clear s3 g3
      obtain rfl | rfl | hr23 : r3 = 0 ∨ r3 = 1 ∨ (r3 = 2 ∨ r3 = 3) := by omega
      · clear Sl3 Sl2 hq1 hq2
        go_wp2_with fail
        refine (drawPermK g n _ w3 Sr3.out rfl (by omega)).mono ?_
        rintro e w4 ⟨q, c1, ys, rfl, s4, r4, g4⟩
        have Sr4 := Lib.hid r4
        have Ss4 := Lib.hid (Ss3.out.farR g4 LA.out LI.out (.inl hg))
        have hq1 : wr.heap.size ≤ q := by have := (s4.lt_ q rfl).1; omega
        have Sl4 : Hid (Slc w4 w.heap.size (some ⟨q, 0, none⟩) n c1 ys) := Lib.hid (s4.mono (by omega))
        have G4 : Hid (w.grownBy w4 (some g)) := Lib.hid (grown_trans' G3.out g4)
        clear s4 r4 g4
        have D5 := Lib.hid (show ∀ t, t < m → (sval (us.getD t sd0)).ownBlock = none ∨ (sval (us.getD t sd0)).ownBlock ≠ (Value.slice (some ⟨q, 0, none⟩) n c1).ownBlock from fun t ht => by
          rcases e9 : (sval (us.getD t sd0)).ownBlock with _ | z
          · exact .inl rfl
          · exact .inr fun e8 => by have := (LI.out t ht z e9).2; simp [Value.ownBlock] at e8; omega)
        have hzT : w.heap.size ≤ w4.heap.size := G4.out.size
        go_wp2_with (first
          | (at_builtin
             refine wpList_app2 rfl _ _ rfl rfl (Ss4.out.alloc _) w4.heap.size (some ⟨q, 0, none⟩) n c1 ys rfl (by rw [World.cell?_alloc_at _ _ _ _ rfl]; rfl) ((Sl4.out).alloc _) D5.out (by omega) (by simp; omega) ?_
             intro A7 c7 w7 ss7 g7))
        have S7 : Hid (SS w7 w.heap.size w.heap.size A7 (m + 1) c7 (us ++ [(some ⟨q, 0, none⟩, n, c1)]) (xss ++ [ys])) := Lib.hid ss7
        have Sr7 : Hid (Src w7 g) := Lib.hid ((Sr4.out.below ((Below.refl w4.heap.size w4).alloc (Nat.le_refl _) (.cells #[.slice (some ⟨q, 0, none⟩) n c1] 22)) Sr4.out.lt).gro2 g7 (fun j hj => by have := (Ss4.out.lt_ j hj).1; omega))
        have G7 : Hid (w.grownBy w7 (some g)) := Lib.hid (grown_new2 (grown_alloc2 G4.out (.cells #[.slice (some ⟨q, 0, none⟩) n c1] 22)) g7 (fun j hj => (Ss4.out.lt_ j hj).1))
        have Ln7 : Hid (∀ i, i < m + 1 → ((us ++ [((some ⟨q, 0, none⟩, n, c1) : SV)]).getD i sd0).2.1 = n) := Lib.hid fun i hi => by
          by_cases e9 : i < m
          · rw [getD_app _ _ _ _ (by rw [Ss4.out.lv]; exact e9)]; exact Ln.out i e9
          · rw [getD_snoc _ _ _ _ (by rw [Ss4.out.lv]; omega)]
        clear ss7 g7
        go_wp2_with fail
        go_roundg k
        case rel => exact ⟨k, A7, m + 1, c7, _, _, by omega, by omega, by go_num, rfl, S7.out, Ln7.out, Sr7.out, G7.out⟩
        case measure => omega
      · have row3 : Hid (Row w3 wr.heap.size q n c1 (idL n)) := Lib.hid (Row.of_own (by have h2 := Sl3.out.2; rw [← Sl3.out.1] at h2 ⊢; exact h2))
        go_wp2_with fail
        obtain ⟨wl, rfl⟩ : ∃ wl, wl = wr := ⟨_, rfl⟩
        go_loopg [8] n (fun gg iv wr2 => ∃ (i : Nat) (ys : List Int), i ≤ n ∧ n - i ≤ gg ∧ iv = .int .i64 (i : Nat) ∧ Row wr2 wl.heap.size q n c1 ys ∧ SS wr2 w.heap.size w.heap.size A m c us xss ∧ Src wr2 g ∧ w.grownBy wr2 (some g))
        case atStart => exact ⟨0, _, Nat.zero_le _, by omega, rfl, row3.out, Ss3.out, Sr3.out, G3.out⟩
        case round =>
          obtain ⟨i, ys, hi, hgi, rfl, row, ss5, sr5, g5⟩ := hrel
          have Ro := Lib.hid row
          have Ss5 := Lib.hid ss5
          have Sr5 := Lib.hid sr5
          have G5 := Lib.hid g5
          clear row ss5 sr5 g5
          by_cases hil : i < n
          · have c5 := Ro.out.cell hil
            have f5 := Ro.out.free i
            obtain ⟨u, hu⟩ : ∃ u, ((i : Int) + 1).tmod (n : Int) = u := ⟨_, rfl⟩
            have wi := wrap_pos2 i (by omega)
            have hn0 : ¬ ((n : Int) = 0) := by omega
            have p0 : (0 : Int) ≤ i := by omega
            have p1 : (i : Int) < n := by omega
            have Ro6 := Lib.hid (Ro.out.store i u)
            have Ss6 : Hid (SS (wr.setCell ⟨q, i, none⟩ (.int .i64 u)) w.heap.size w.heap.size A m c us xss) := Lib.hid (Ss5.out.farR (r := q) (grown_set (grown_refl _ _) _ _) LA.out LI.out (.inr hq1))
            have Sr6 : Hid (Src (wr.setCell ⟨q, i, none⟩ (.int .i64 u)) g) := Lib.hid (Sr5.out.gro (grown_set (grown_refl _ (some q)) i _) (by omega))
            have G6 : Hid (w.grownBy (wr.setCell ⟨q, i, none⟩ (.int .i64 u)) (some g)) := Lib.hid (grown_far G5.out (by omega) i _)
            obtain ⟨z5, hz5⟩ : ∃ z5, ys.getD i 0 = z5 := ⟨_, rfl⟩
            rw [hz5] at c5
            clear hz5
            go_wp2_with fail
            go_roundg (n - (i + 1))
            case rel => exact ⟨i + 1, _, by omega, by omega, by go_num, Ro6.out, Ss6.out, Sr6.out, G6.out⟩
            case measure => omega
          · have hin : i = n := by omega
            have Sl5 : Hid (Slc wr w.heap.size (some ⟨q, 0, none⟩) n c1 ys) := Lib.hid (Ro.out.slc.mono (by omega))
            clear hin
            have D5 := Lib.hid (show ∀ t, t < m → (sval (us.getD t sd0)).ownBlock = none ∨ (sval (us.getD t sd0)).ownBlock ≠ (Value.slice (some ⟨q, 0, none⟩) n c1).ownBlock from fun t ht => by
              rcases e9 : (sval (us.getD t sd0)).ownBlock with _ | z
              · exact .inl rfl
              · exact .inr fun e8 => by have := (LI.out t ht z e9).2; simp [Value.ownBlock] at e8; omega)
            have hzT : w.heap.size ≤ wr.heap.size := G5.out.size
            go_wp2_with (first
              | (at_builtin
                 refine wpList_app2 rfl _ _ rfl rfl (Ss5.out.alloc _) wr.heap.size (some ⟨q, 0, none⟩) n c1 ys rfl (by rw [World.cell?_alloc_at _ _ _ _ rfl]; rfl) ((Sl5.out).alloc _) D5.out (by omega) (by simp; omega) ?_
                 intro A7 c7 w7 ss7 g7))
            have S7 : Hid (SS w7 w.heap.size w.heap.size A7 (m + 1) c7 (us ++ [(some ⟨q, 0, none⟩, n, c1)]) (xss ++ [ys])) := Lib.hid ss7
            have Sr7 : Hid (Src w7 g) := Lib.hid ((Sr5.out.below ((Below.refl wr.heap.size wr).alloc (Nat.le_refl _) (.cells #[.slice (some ⟨q, 0, none⟩) n c1] 22)) Sr5.out.lt).gro2 g7 (fun j hj => by have := (Ss5.out.lt_ j hj).1; omega))
            have G7 : Hid (w.grownBy w7 (some g)) := Lib.hid (grown_new2 (grown_alloc2 G5.out (.cells #[.slice (some ⟨q, 0, none⟩) n c1] 22)) g7 (fun j hj => (Ss5.out.lt_ j hj).1))
            have Ln7 : Hid (∀ i, i < m + 1 → ((us ++ [((some ⟨q, 0, none⟩, n, c1) : SV)]).getD i sd0).2.1 = n) := Lib.hid fun i hi => by
              by_cases e9 : i < m
              · rw [getD_app _ _ _ _ (by rw [Ss5.out.lv]; exact e9)]; exact Ln.out i e9
              · rw [getD_snoc _ _ _ _ (by rw [Ss5.out.lv]; omega)]
            clear ss7 g7
            go_wp2_with fail
            go_roundg k
            case rel => exact ⟨k, A7, m + 1, c7, _, _, by omega, by omega, by go_num, rfl, S7.out, Ln7.out, Sr7.out, G7.out⟩
            case measure => omega
      · have d30 : ((r3 : Int) == 0) = false := by simp; omega
        have d31 : ((r3 : Int) == 1) = false := by simp; omega
        clear hr23 hr3
        go_wp2_with fail
        refine (srcBelow g _ n w3 Sr3.out rfl (by omega) (by omega)).mono ?_
        rintro e w4 ⟨x, hx, rfl, s4, g4⟩
        have Sr4 := Lib.hid s4
        have Ss4 := Lib.hid (Ss3.out.farR g4 LA.out LI.out (.inl hg))
        have Sl4 : Hid (Slc w4 wr.heap.size (some ⟨q, 0, none⟩) n c1 (idL n)) := Lib.hid (Sl3.out.kept g4 (.inr (by simp [Value.ownBlock]; omega)))
        have G4 : Hid (w.grownBy w4 (some g)) := Lib.hid (grown_trans' G3.out g4)
        clear s4 g4
        go_wp2_with fail
        refine (srcBelow g _ n w4 Sr4.out rfl (by omega) (by omega)).mono ?_
        rintro e w5 ⟨y, hy, rfl, s5, g5⟩
        have Sr5 := Lib.hid s5
        have Ss5 := Lib.hid (Ss4.out.farR g5 LA.out LI.out (.inl hg))
        have Sl5 : Hid (Slc w5 wr.heap.size (some ⟨q, 0, none⟩) n c1 (idL n)) := Lib.hid (Sl4.out.kept g5 (.inr (by simp [Value.ownBlock]; omega)))
        have G5 : Hid (w.grownBy w5 (some g)) := Lib.hid (grown_trans' G4.out g5)
        clear s5 g5
        have row5 : Row w5 wr.heap.size q n c1 (idL n) := Row.of_own (by have h2 := Sl5.out.2; rw [← Sl5.out.1] at h2 ⊢; exact h2)
        have c5 := row5.cell hx
        have f5 := row5.free x
        rw [idL_getD hx] at c5
        have row6 := row5.store x (y : Int)
        have c6 := row6.cell hy
        have f6 := row6.free y
        obtain ⟨z6, hz6⟩ : ∃ z6, ((idL n).set x (y : Int)).getD y 0 = z6 := ⟨_, rfl⟩
        rw [hz6] at c6
        have Ro7 := Lib.hid (row6.store y (x : Int))
        obtain ⟨w6, hw6⟩ : ∃ w6, w5.setCell ⟨q, x, none⟩ (.int .i64 (y : Int)) = w6 := ⟨_, rfl⟩
        have Ss6 : Hid (SS w6 w.heap.size w.heap.size A m c us xss) := Lib.hid (by rw [← hw6]; exact Ss5.out.farR (r := q) (grown_set (grown_refl _ _) _ _) LA.out LI.out (.inr hq1))
        have Sr6 : Hid (Src w6 g) := Lib.hid (by rw [← hw6]; exact Sr5.out.gro (grown_set (grown_refl _ (some q)) x _) (by omega))
        have G6 : Hid (w.grownBy w6 (some g)) := Lib.hid (by rw [← hw6]; exact grown_far G5.out (by omega) x _)
        have Ss8 : Hid (SS (w6.setCell ⟨q, y, none⟩ (.int .i64 (x : Int))) w.heap.size w.heap.size A m c us xss) := Lib.hid (Ss6.out.farR (r := q) (grown_set (grown_refl _ _) _ _) LA.out LI.out (.inr hq1))
        have Sr8 : Hid (Src (w6.setCell ⟨q, y, none⟩ (.int .i64 (x : Int))) g) := Lib.hid (Sr6.out.gro (grown_set (grown_refl _ (some q)) y _) (by omega))
        have G8 : Hid (w.grownBy (w6.setCell ⟨q, y, none⟩ (.int .i64 (x : Int))) (some g)) := Lib.hid (grown_far G6.out (by omega) y _)
        obtain ⟨w8, hw8⟩ : ∃ w8, w6.setCell ⟨q, y, none⟩ (.int .i64 (x : Int)) = w8 := ⟨_, rfl⟩
        rw [hw8] at Ss8 Sr8 G8
        rw [hw6] at c6 f6 Ro7
        rw [hw8] at Ro7
        have Sl8 : Hid (Slc w8 w.heap.size (some ⟨q, 0, none⟩) n c1 (((idL n).set x (y : Int)).set y (x : Int))) := Lib.hid (Ro7.out.slc.mono (by omega))
        have x0 : (0 : Int) ≤ x := by omega
        have x1 : (x : Int) < n := by omega
        have y0 : (0 : Int) ≤ y := by omega
        have y1 : (y : Int) < n := by omega
        clear row5 row6 hz6
        have D5 := Lib.hid (show ∀ t, t < m → (sval (us.getD t sd0)).ownBlock = none ∨ (sval (us.getD t sd0)).ownBlock ≠ (Value.slice (some ⟨q, 0, none⟩) n c1).ownBlock from fun t ht => by
          rcases e9 : (sval (us.getD t sd0)).ownBlock with _ | z
          · exact .inl rfl
          · exact .inr fun e8 => by have := (LI.out t ht z e9).2; simp [Value.ownBlock] at e8; omega)
        have hzT : w.heap.size ≤ w8.heap.size := G8.out.size
        go_wp2_with (first
          | (at_builtin
             refine wpList_app2 rfl _ _ rfl rfl (Ss8.out.alloc _) w8.heap.size (some ⟨q, 0, none⟩) n c1 (((idL n).set x (y : Int)).set y (x : Int)) rfl (by rw [World.cell?_alloc_at _ _ _ _ rfl]; rfl) ((Sl8.out).alloc _) D5.out (by omega) (by simp; omega) ?_
             intro A7 c7 w7 ss7 g7))
        have S7 : Hid (SS w7 w.heap.size w.heap.size A7 (m + 1) c7 (us ++ [(some ⟨q, 0, none⟩, n, c1)]) (xss ++ [(((idL n).set x (y : Int)).set y (x : Int))])) := Lib.hid ss7
        have Sr7 : Hid (Src w7 g) := Lib.hid ((Sr8.out.below ((Below.refl w8.heap.size w8).alloc (Nat.le_refl _) (.cells #[.slice (some ⟨q, 0, none⟩) n c1] 22)) Sr8.out.lt).gro2 g7 (fun j hj => by have := (Ss8.out.lt_ j hj).1; omega))
        have G7 : Hid (w.grownBy w7 (some g)) := Lib.hid (grown_new2 (grown_alloc2 G8.out (.cells #[.slice (some ⟨q, 0, none⟩) n c1] 22)) g7 (fun j hj => (Ss8.out.lt_ j hj).1))
        have Ln7 : Hid (∀ i, i < m + 1 → ((us ++ [((some ⟨q, 0, none⟩, n, c1) : SV)]).getD i sd0).2.1 = n) := Lib.hid fun i hi => by
          by_cases e9 : i < m
          · rw [getD_app _ _ _ _ (by rw [Ss8.out.lv]; exact e9)]; exact Ln.out i e9
          · rw [getD_snoc _ _ _ _ (by rw [Ss8.out.lv]; omega)]
        clear ss7 g7
        go_wp2_with fail
        go_roundg k
        case rel => exact ⟨k, A7, m + 1, c7, _, _, by omega, by omega, by go_num, rfl, S7.out, Ln7.out, Sr7.out, G7.out⟩
        case measure => omega
    · have hk00 : k0 = 0 := by omega
      subst hk00
      go_wp2_with fail
      go_ret
      exact ⟨_, _, _, _, _, rfl, Ss.out, Ln.out, by omega, Sr.out, Gr.out⟩

theorem SS.lens_le {w : World} {bo bi n c : Nat} {A : Option Addr} {us : List SV} {xss : List (List Int)} (_h : SS w bo bi A n c us xss) {N : Nat} (hl : ∀ i, i < n → (us.getD i sd0).2.1 = N) (hN : N ≤ 21) : ∀ i, i < n → (us.getD i sd0).2.1 ≤ 21 := fun i hi => by rw [hl i hi]; exact hN

set_option maxHeartbeats 4000000 in
set_option maxRecDepth 100000 in
/-- drawGroup. -/
theorem drawGroupT (g : Nat) (w : World) (hs : Src w g) :
    Calls Try.prog 63 #[.pointer (some ⟨g, 0, none⟩)] w fun e w' => ∃ (z : Int) (A : Option Addr) (m c : Nat) (vs : List SV) (xss : List (List Int)), e = .returned (.tuple #[.int .i64 z, .slice A m c]) ∧ B64 z ∧ RR w' w'.heap.size A m vs xss ∧ m ≤ 9 ∧ (∀ i, i < m → (vs.getD i sd0).2.1 ≤ 21) ∧ Src w' g ∧ w.grownBy w' (some g) := by
  have hg := hs.lt
  go_enter Try.func63, Try.ntmps63
  go_wp2_with fail
  refine (srcBetween g 2 5 w hs (by omega) (by omega)).mono ?_
  rintro e w1 ⟨n1, h11, h12, rfl, s1, g1⟩
  have Sr1 := Lib.hid s1
  have G1 := Lib.hid g1
  clear s1 g1 hs
  go_wp2_with fail
  refine (srcOne g _ 6 w1 Sr1.out rfl (by omega) (by omega)).mono ?_
  rintro e w2 ⟨b, rfl, s2, g2⟩
  have Sr2 := Lib.hid s2
  have G2 : Hid (w.grownBy w2 (some g)) := Lib.hid (grown_trans' G1.out g2)
  clear s2 g2
  go_upto_if 9 with fail
  go_cut [4] from 6 to 48 (fun nn wx => ∃ n : Nat, 1 ≤ n ∧ n ≤ 7 ∧ nn = .int .i64 (n : Nat) ∧ Src wx g ∧ w.grownBy wx (some g))
  case first =>
    cases b
    · go_wp2_with fail
      go_meet
      exact ⟨n1, by omega, by omega, rfl, Sr2.out, G2.out⟩
    · go_wp2_with fail
      refine (srcBetween g 1 7 w2 Sr2.out (by omega) (by omega)).mono ?_
      rintro e w3 ⟨n3, h31, h32, rfl, s3, g3⟩
      have Sr3 := Lib.hid s3
      have G3 : Hid (w.grownBy w3 (some g)) := Lib.hid (grown_trans' G2.out g3)
      clear s3 g3
      go_wp2_with fail
      go_meet
      exact ⟨n3, by omega, by omega, rfl, Sr3.out, G3.out⟩
  case rest =>
    obtain ⟨n, hn1, hn7, rfl, src, grc⟩ := hcut
    have Sr3 := Lib.hid src
    have G3 := Lib.hid grc
    clear src grc Sr2 G2 Sr1 G1
    go_wp2_with fail
    refine (drawGens g n wc Sr3.out hn1 (by omega)).mono ?_
    rintro e w4 ⟨A, m, c, us, xss, rfl, ss4, ln4, hm4, s4, g4⟩
    have Ss4 := Lib.hid ss4
    have Ln4 := Lib.hid ln4
    have Sr4 := Lib.hid s4
    have G4 : Hid (w.grownBy w4 (some g)) := Lib.hid (grown_trans' G3.out g4)
    have hgc : g < wc.heap.size := Sr3.out.lt
    have hz4 := G4.out.size
    have LA : Hid (∀ j, (Value.slice A m c).ownBlock = some j → wc.heap.size ≤ j ∧ j < w4.heap.size) := Lib.hid ss4.lt_
    have LI : Hid (∀ t, t < m → ∀ j, (sval (us.getD t sd0)).ownBlock = some j → wc.heap.size ≤ j ∧ j < w4.heap.size) := Lib.hid fun t ht => (ss4.row t ht).lt_
    have hzc4 := g4.size
    clear ss4 ln4 s4 g4
    go_wp2_with fail
    refine (srcOne g _ 20 w4 Sr4.out rfl (by omega) (by omega)).mono ?_
    rintro e w5 ⟨b5, rfl, s5, g5⟩
    have Sr5 := Lib.hid s5
    have Ss5 := Lib.hid (Ss4.out.farR g5 LA.out LI.out (.inl hgc))
    have G5 : Hid (w.grownBy w5 (some g)) := Lib.hid (grown_trans' G4.out g5)
    have hz5 := g5.size
    clear s5 g5
    cases b5
    · go_wp2_with fail
      go_ret2
      exact ⟨_, _, _, _, us, xss, rfl, by unfold B64; omega, Ss5.out.rr, by omega, Ss5.out.lens_le Ln4.out (by omega), Sr5.out, G5.out⟩
    · go_wp2_with fail
      refine (srcBelow g _ 4 w5 Sr5.out rfl (by omega) (by omega)).mono ?_
      rintro e w6 ⟨r6, hr6, rfl, s6, g6⟩
      have Sr6 := Lib.hid s6
      have Ss6 := Lib.hid (Ss5.out.farR g6 LA.out LI.out (.inl hgc))
      have G6 : Hid (w.grownBy w6 (some g)) := Lib.hid (grown_trans' G5.out g6)
      have hz6 := g6.size
      clear s6 g6
      obtain rfl | rfl | rfl | rfl : r6 = 0 ∨ r6 = 1 ∨ r6 = 2 ∨ r6 = 3 := by omega
      · go_wp2_with fail
        refine (srcNumberB g 20 w6 Sr6.out (by omega) (by omega)).mono ?_
        rintro e w7 ⟨z7, rfl, hB7, s7, g7⟩
        have Sr7 := Lib.hid s7
        have Ss7 := Lib.hid (Ss6.out.farR g7 LA.out LI.out (.inl hgc))
        have G7 : Hid (w.grownBy w7 (some g)) := Lib.hid (grown_trans' G6.out g7)
        have HB7 := Lib.hid hB7
        clear s7 g7 hB7
        go_wp2_with fail
        go_ret2
        exact ⟨_, _, _, _, us, xss, rfl, HB7.out, Ss7.out.rr, by omega, Ss7.out.lens_le Ln4.out (by omega), Sr7.out, G7.out⟩
      · go_wp2_with fail
        refine (drawAny g n w6 Sr6.out (by omega) (by omega)).mono ?_
        rintro e w7 ⟨A7, m7, c7, ys, rfl, p7, hm7, s7, g7⟩
        have Sr7 := Lib.hid s7
        have Ss7 := Lib.hid (Ss6.out.farR g7 LA.out LI.out (.inl hgc))
        have G7 : Hid (w.grownBy w7 (some g)) := Lib.hid (grown_trans' G6.out g7)
        have P7 : Hid (Pm (w7.alloc (.cells #[.slice A7 m7 c7] 22)) w6.heap.size A7 m7 c7 ys) := Lib.hid (p7.up ((Below.refl w7.heap.size w7).alloc (Nat.le_refl _) _))
        have hz7 := G7.out.size
        have hz67 := g7.size
        have hlt7 : Hid (∀ j, (Value.slice A m c).ownBlock = some j → j < w6.heap.size) := Lib.hid fun j hj => by have := (LA.out j hj).2; omega
        clear s7 g7 p7
        go_wp2_with (first
          | (at_builtin
             refine wpList_app2R rfl _ _ rfl rfl (Ss7.out.alloc _) w7.heap.size A7 m7 c7 w6.heap.size ys rfl (by rw [World.cell?_alloc_at _ _ _ _ rfl]; rfl) P7.out hlt7.out (by omega) (by simp; omega) ?_
             intro A8 c8 w8 rr8 g8))
        have R8 := Lib.hid rr8
        have Sr8 : Hid (Src w8 g) := Lib.hid ((Sr7.out.below ((Below.refl w7.heap.size w7).alloc (Nat.le_refl _) (.cells #[.slice A7 m7 c7] 22)) Sr7.out.lt).gro2 g8 (fun j hj => by have := (LA.out j hj).1; omega))
        have G8 : Hid (w.grownBy w8 (some g)) := Lib.hid (grown_new2 (grown_alloc2 G7.out (.cells #[.slice A7 m7 c7] 22)) g8 (fun j hj => by have := (LA.out j hj).1; have := G3.out.size; omega))
        have Ln8 : Hid (∀ i, i < m + 1 → ((us ++ [((A7, m7, c7) : SV)]).getD i sd0).2.1 ≤ 21) := Lib.hid fun i hi => by
          by_cases e9 : i < m
          · rw [getD_app _ _ _ _ (by rw [Ss7.out.lv]; exact e9), Ln4.out i e9]; omega
          · rw [getD_snoc _ _ _ _ (by rw [Ss7.out.lv]; omega)]; exact hm7
        clear rr8 g8
        go_wp2_with fail
        go_ret2
        exact ⟨_, _, _, _, _, _, rfl, by unfold B64; omega, R8.out, by omega, Ln8.out, Sr8.out, G8.out⟩
      · have hw6 := G6.out.size
        have Sr7 : Hid (Src (w6.alloc (.cells #[] 22)) g) := Lib.hid (Sr6.out.below ((Below.refl w6.heap.size w6).alloc (Nat.le_refl _) _) Sr6.out.lt)
        have G7 : Hid (w.grownBy (w6.alloc (.cells #[] 22)) (some g)) := Lib.hid (grown_alloc2 G6.out _)
        go_wp2_with fail
        go_ret2
        exact ⟨_, _, 0, _, [], [], rfl, by unfold B64; omega, RR.nil_, by omega, fun i hi => absurd hi (by omega), Sr7.out, G7.out⟩
      · go_wp2_with fail
        go_loopg [5] 10 (fun gg v wr => ∃ (A : Option Addr) (m c : Nat) (us : List SV) (xss : List (List Int)), m ≤ 9 ∧ 9 - m ≤ gg ∧ v = .slice A m c ∧ SS wr wc.heap.size wc.heap.size A m c us xss ∧ (∀ i, i < m → (us.getD i sd0).2.1 = n) ∧ Src wr g ∧ w.grownBy wr (some g) ∧ wc.heap.size ≤ wr.heap.size)
        case atStart => exact ⟨_, m, _, _, _, by omega, by omega, rfl, Ss6.out, Ln4.out, Sr6.out, G6.out, by omega⟩
        case round =>
          clear LA LI Ss4 Ss5 Ss6
          obtain ⟨A, m, c, us, xss, hm9, hgm, rfl, ss, ln, sr, gr, hzc⟩ := hrel
          have Ss := Lib.hid ss
          have Ln := Lib.hid ln
          have Sr := Lib.hid sr
          have Gr := Lib.hid gr
          have LA : Hid (∀ j, (Value.slice A m c).ownBlock = some j → wc.heap.size ≤ j ∧ j < wr.heap.size) := Lib.hid ss.lt_
          have LI : Hid (∀ t, t < m → ∀ j, (sval (us.getD t sd0)).ownBlock = some j → wc.heap.size ≤ j ∧ j < wr.heap.size) := Lib.hid fun t ht => (ss.row t ht).lt_
          clear ss ln sr gr
          go_wp2_with fail
          refine (srcBelow g _ 2 wr Sr.out rfl (by omega) (by omega)).mono ?_
          rintro e w7 ⟨r7, hr7, rfl, s7, g7⟩
          have Sr7 := Lib.hid s7
          have Ss7 := Lib.hid (Ss.out.farR g7 LA.out LI.out (.inl hgc))
          have G7 : Hid (w.grownBy w7 (some g)) := Lib.hid (grown_trans' Gr.out g7)
          have hz7 := g7.size
          have w88 : IntKind.i64.wrap (8 + (r7 : Int)) = 8 + (r7 : Int) := by rw [IntKind.wrap_i64]; omega
          have w89 : IntKind.i64.wrap (r7 : Int) = (r7 : Int) := by rw [IntKind.wrap_i64]; omega
          clear s7 g7
          by_cases hlt : (m : Int) < 8 + (r7 : Int)
          · have d7 : decide ((m : Int) < 8 + (r7 : Int)) = true := decide_eq_true hlt
            have hm8 : m ≤ 8 := by omega
            go_wp2_with fail
            refine (specIdent n w7 (by omega)).mono ?_
            rintro e w8 ⟨A8, c8, rfl, s8, b8⟩
            have Sr8 := Lib.hid (Sr7.out.below b8 Sr7.out.lt)
            have Ss8 := Lib.hid (Ss7.out.up b8)
            have G8 : Hid (w.grownBy w8 (some g)) := Lib.hid (grown_below2 G7.out b8)
            have D8 := Lib.hid (lies_dis Ss7.out s8.lies (Nat.le_refl _))
            have hz8 := b8.size
            have Sl8 := Lib.hid (s8.mono (show wc.heap.size ≤ w7.heap.size by omega))
            clear s8 b8
            go_wp2_with (first
              | (at_builtin
                 refine wpList_app2 rfl _ _ rfl rfl (Ss8.out.alloc _) w8.heap.size A8 n c8 (idL n) rfl (by rw [World.cell?_alloc_at _ _ _ _ rfl]; rfl) (Sl8.out.alloc _) D8.out (by omega) (by simp; omega) ?_
                 intro A9 c9 w9 ss9 g9))
            have Ss9 : Hid (SS w9 wc.heap.size wc.heap.size A9 (m + 1) c9 (us ++ [(A8, n, c8)]) (xss ++ [idL n])) := Lib.hid ss9
            have Sr9 : Hid (Src w9 g) := Lib.hid ((Sr8.out.below ((Below.refl w8.heap.size w8).alloc (Nat.le_refl _) (.cells #[.slice A8 n c8] 22)) Sr8.out.lt).gro2 g9 (fun j hj => by have := (LA.out j hj).1; omega))
            have G9 : Hid (w.grownBy w9 (some g)) := Lib.hid (grown_new2 (grown_alloc2 G8.out (.cells #[.slice A8 n c8] 22)) g9 (fun j hj => by have := (LA.out j hj).1; have := G3.out.size; omega))
            have hz9 : wc.heap.size ≤ w9.heap.size := by have := g9.size; simp at this; omega
            have Ln9 : Hid (∀ i, i < m + 1 → ((us ++ [((A8, n, c8) : SV)]).getD i sd0).2.1 = n) := Lib.hid fun i hi => by
              by_cases e9 : i < m
              · rw [getD_app _ _ _ _ (by rw [Ss8.out.lv]; exact e9)]; exact Ln.out i e9
              · rw [getD_snoc _ _ _ _ (by rw [Ss8.out.lv]; omega)]
            clear ss9 g9
            go_wp2_with fail
            go_roundg (9 - (m + 1))
            case rel => exact ⟨A9, m + 1, c9, _, _, by omega, by omega, rfl, Ss9.out, Ln9.out, Sr9.out, G9.out, hz9⟩
            case measure => omega
          · have d7 : decide ((m : Int) < 8 + (r7 : Int)) = false := decide_eq_false hlt
            go_wp2_with fail
            go_ret2
            exact ⟨_, _, _, _, us, xss, rfl, by unfold B64; omega, Ss7.out.rr, by omega, Ss7.out.lens_le Ln.out (by omega), Sr7.out, G7.out⟩
end Go.Proofs.Ytcjcmhoalomjfab

/- A draw of a group, with where its slices lie. Condition: at most 4096 bytes. -/
namespace Go.Proofs.Ytcjcmhoalomjfab
open Go.RowKit

/-- Slices of numbers that can be read, all in blocks from lo on. -/
structure RX (w : World) (lo : Nat) (A : Option Addr) (n : Nat) (vs : List SV) (xss : List (List Int)) : Prop where
  rr : RR w w.heap.size A n vs xss
  outer : 0 < n → ∀ b off, A = some ⟨b, off, none⟩ → lo ≤ b
  inner : ∀ j, j < n → ∀ b off, (vs.getD j sd0).1 = some ⟨b, off, none⟩ → 0 < (xss.getD j []).length → lo ≤ b
section
variable {w w' : World} {lo g n : Nat} {A : Option Addr} {vs : List SV} {xss : List (List Int)}
theorem RX.nil_ {c : Option Addr} : RX w lo c 0 [] [] := ⟨RR.nil_, fun h => absurd h (Nat.lt_irrefl _), fun j h => absurd h (Nat.not_lt_zero _)⟩
theorem RX.of_ss {bo bi c : Nat} (h : SS w bo bi A n c vs xss) (h1 : lo ≤ bo) (h2 : lo ≤ bi) : RX w lo A n vs xss :=
  ⟨h.rr, fun _ b off e => by have := (h.lt_ b (by subst e; rfl)).1; omega, fun j hj b off e _ => by have := ((h.row j hj).lt_ b (by rw [e]; rfl)).1; omega⟩
theorem RX.gro (h : RX w lo A n vs xss) (hg : w.grownBy w' (some g)) (hl : g < lo) : RX w' lo A n vs xss :=
  ⟨⟨h.rr.lv, h.rr.lx, fun hn => by
      obtain ⟨b, off, e, hb, hc⟩ := h.rr.cells hn
      have := h.outer hn b off e
      exact ⟨b, off, e, Nat.lt_of_lt_of_le hb hg.size, fun j hj => (World.cell?_of_block (a := ⟨b, off + j, none⟩) (hg.block b hb (by intro e2; injection e2 with e2; omega))).trans (hc j hj)⟩,
    fun j hj hp => by
      obtain ⟨b, off, e, hb, hc⟩ := h.rr.rows j hj hp
      have := h.inner j hj b off e hp
      exact ⟨b, off, e, Nat.lt_of_lt_of_le hb hg.size, fun t ht => (World.cell?_of_block (a := ⟨b, off + t, none⟩) (hg.block b hb (by intro e2; injection e2 with e2; omega))).trans (hc t ht)⟩, h.rr.lens, h.rr.caps⟩, h.outer, h.inner⟩
theorem RX.up (h : RX w lo A n vs xss) (hb : Below w.heap.size w w') : RX w' lo A n vs xss := ⟨h.rr.up hb, h.outer, h.inner⟩
end
section
variable {w w' : World} {base n c : Nat} {A : Option Addr} {vs : List SV} {xss : List (List Int)}
/-- A slice that can be read, appended onto a slice of slices of the call's own. -/
theorem wpList_app2X {ops : Array Oper} {rest : List Oper} {o : Oper} {a : Act} {Q : Exit → Act → World → Prop} (hgd : o.guard = none) (s x : Operand)
    (ho : o.op = .call { callee := .builtin .append, args := #[s, x], argTypes := #[28, 28] })
    (hs : a.eval s = .slice A n c) (hss : SS w base base A n c vs xss) (g : Nat) (dA : Option Addr) (dn dc lo : Nat) (ys : List Int) (hx : a.eval x = .slice (some ⟨g, 0, none⟩) 1 1)
    (hcell : w.cell? ⟨g, 0, none⟩ = some (.slice dA dn dc)) (hys : Pm w lo dA dn dc ys) (hlo : ∀ k, (Value.slice A n c).ownBlock = some k → k < lo) (hn : n ≤ 1000000000) (hbase : base ≤ w.heap.size) (l0 : Nat) (hl0 : l0 ≤ base) (hl1 : l0 ≤ lo)
    (h : ∀ A' c' w', RX w' l0 A' (n + 1) (vs ++ [(dA, dn, dc)]) (xss ++ [ys]) → w.grownBy w' (Value.slice A n c).ownBlock → wpList Try.prog ops Q rest (a.put o.dst (.slice A' (n + 1) c')) w') : wpList Try.prog ops Q (o :: rest) a w := by
  obtain ⟨i0, hi, hz0, hz1, hz2⟩ := info_parts infoS
  refine wpList_append_own (w := w) hgd s x 28 ho base 22 i0 (.slice none 0 0) 1 24 Try.underlying28 hi hz0 hz1 hz2 rfl (by decide) _ n _ hs hss.own ⟨g, 0, none⟩ 1 1 [.slice dA dn dc] hx rfl ?_ ?_ ?_ (by omega) hbase ?_
  · intro j v hj
    match j, hj with
    | 0, hj => simp at hj; subst hj; simpa [Addr.add] using hcell
    | j + 1, hj => simp at hj
  · intro v hv; simp at hv; subst hv; rfl
  · unfold maxLen; omega
  · intro v' w' hown' hg _
    rcases hown'.2 with ⟨rfl, h0⟩ | ⟨g', cap, cur, rfl, hb', hg', hnc, _⟩
    · omega
    · refine h (some ⟨g', 0, none⟩) cap w' ⟨⟨by simp [hss.lv], by simp [hss.lx], fun _ => ⟨g', 0, rfl, (Array.getElem?_eq_some_iff.1 hg').1, fun j hj => ?_⟩, fun j hj => ?_, fun j hj => ?_, fun j hj => ?_⟩, fun _ b off e => ?_, fun j hj b off e hp => ?_⟩ hg
      · rw [Nat.zero_add, hown'.cellAt j (by omega)]
        by_cases e : j < n
        · rw [List.getElem?_append_left (by rw [List.length_map, hss.lv]; exact e), List.getElem?_map, getD_app _ _ _ _ (by rw [hss.lv]; exact e), List.getD_eq_getElem?_getD, List.getElem?_eq_getElem (by rw [hss.lv]; exact e)]; rfl
        · obtain rfl : j = n := by omega
          rw [List.getElem?_append_right (by rw [List.length_map, hss.lv]; exact Nat.le_refl _), List.length_map, hss.lv, Nat.sub_self, getD_snoc _ _ _ _ hss.lv.symm]; rfl
      · by_cases e : j < n
        · rw [getD_app _ _ _ _ (by rw [hss.lv]; exact e), getD_app _ _ _ _ (by rw [hss.lx]; exact e)]
          exact ((hss.row j e).kept hg (apart_types (hss.row j e) hss.own)).ri_
        · obtain rfl : j = n := by omega
          rw [getD_snoc _ _ _ _ hss.lv.symm, getD_snoc _ _ _ _ hss.lx.symm]
          intro hp
          obtain ⟨b, off, e1, h1, h2, hc⟩ := hys.2.2 (by rw [← hys.1]; exact hp)
          refine ⟨b, off, e1, Nat.lt_of_lt_of_le h2 hg.size, fun t ht => (World.cell?_of_block (a := ⟨b, off + t, none⟩) (hg.block b h2 fun e2 => ?_)).trans (hc t (by rw [← hys.1]; exact ht))⟩
          have := hlo b e2.symm
          omega
      · by_cases e : j < n
        · rw [getD_app _ _ _ _ (by rw [hss.lx]; exact e), getD_app _ _ _ _ (by rw [hss.lv]; exact e)]; exact (hss.row j e).1
        · obtain rfl : j = n := by omega
          rw [getD_snoc _ _ _ _ hss.lx.symm, getD_snoc _ _ _ _ hss.lv.symm]; exact hys.1
      · by_cases e : j < n
        · rw [getD_app _ _ _ _ (by rw [hss.lv]; exact e)]; exact (hss.row j e).le.1
        · obtain rfl : j = n := by omega
          rw [getD_snoc _ _ _ _ hss.lv.symm]; exact hys.2.1
      · injection e with e; injection e with e; omega
      · by_cases e9 : j < n
        · rw [getD_app _ _ _ _ (by rw [hss.lv]; exact e9)] at e
          have := ((hss.row j e9).lt_ b (by rw [e]; rfl)).1
          omega
        · obtain rfl : j = n := by omega
          rw [getD_snoc _ _ _ _ hss.lv.symm] at e
          rw [getD_snoc _ _ _ _ hss.lx.symm] at hp
          obtain ⟨b2, off2, e1, h1, _⟩ := hys.2.2 (by rw [← hys.1]; exact hp)
          have e3 : (some ⟨b, off, none⟩ : Option Addr) = some ⟨b2, off2, none⟩ := e.symm.trans e1
          injection e3 with e3; injection e3 with e3; omega
end

set_option maxHeartbeats 4000000 in
set_option maxRecDepth 100000 in
/-- drawGroup. -/
theorem drawGroupX (g : Nat) (w : World) (hs : Src w g) :
    Calls Try.prog 63 #[.pointer (some ⟨g, 0, none⟩)] w fun e w' => ∃ (z : Int) (A : Option Addr) (m c : Nat) (vs : List SV) (xss : List (List Int)), e = .returned (.tuple #[.int .i64 z, .slice A m c]) ∧ B64 z ∧ RX w' w.heap.size A m vs xss ∧ m ≤ 9 ∧ (∀ i, i < m → (vs.getD i sd0).2.1 ≤ 21) ∧ Src w' g ∧ w.grownBy w' (some g) := by
  have hg := hs.lt
  go_enter Try.func63, Try.ntmps63
  go_wp2_with fail
  refine (srcBetween g 2 5 w hs (by omega) (by omega)).mono ?_
  rintro e w1 ⟨n1, h11, h12, rfl, s1, g1⟩
  have Sr1 := Lib.hid s1
  have G1 := Lib.hid g1
  clear s1 g1 hs
  go_wp2_with fail
  refine (srcOne g _ 6 w1 Sr1.out rfl (by omega) (by omega)).mono ?_
  rintro e w2 ⟨b, rfl, s2, g2⟩
  have Sr2 := Lib.hid s2
  have G2 : Hid (w.grownBy w2 (some g)) := Lib.hid (grown_trans' G1.out g2)
  clear s2 g2
  go_upto_if 9 with fail
  go_cut [4] from 6 to 48 (fun nn wx => ∃ n : Nat, 1 ≤ n ∧ n ≤ 7 ∧ nn = .int .i64 (n : Nat) ∧ Src wx g ∧ w.grownBy wx (some g))
  case first =>
    cases b
    · go_wp2_with fail
      go_meet
      exact ⟨n1, by omega, by omega, rfl, Sr2.out, G2.out⟩
    · go_wp2_with fail
      refine (srcBetween g 1 7 w2 Sr2.out (by omega) (by omega)).mono ?_
      rintro e w3 ⟨n3, h31, h32, rfl, s3, g3⟩
      have Sr3 := Lib.hid s3
      have G3 : Hid (w.grownBy w3 (some g)) := Lib.hid (grown_trans' G2.out g3)
      clear s3 g3
      go_wp2_with fail
      go_meet
      exact ⟨n3, by omega, by omega, rfl, Sr3.out, G3.out⟩
  case rest =>
    obtain ⟨n, hn1, hn7, rfl, src, grc⟩ := hcut
    have Sr3 := Lib.hid src
    have G3 := Lib.hid grc
    clear src grc Sr2 G2 Sr1 G1
    have hwc := G3.out.size
    go_wp2_with fail
    refine (drawGens g n wc Sr3.out hn1 (by omega)).mono ?_
    rintro e w4 ⟨A, m, c, us, xss, rfl, ss4, ln4, hm4, s4, g4⟩
    have Ss4 := Lib.hid ss4
    have Ln4 := Lib.hid ln4
    have Sr4 := Lib.hid s4
    have G4 : Hid (w.grownBy w4 (some g)) := Lib.hid (grown_trans' G3.out g4)
    have hgc : g < wc.heap.size := Sr3.out.lt
    have hz4 := G4.out.size
    have LA : Hid (∀ j, (Value.slice A m c).ownBlock = some j → wc.heap.size ≤ j ∧ j < w4.heap.size) := Lib.hid ss4.lt_
    have LI : Hid (∀ t, t < m → ∀ j, (sval (us.getD t sd0)).ownBlock = some j → wc.heap.size ≤ j ∧ j < w4.heap.size) := Lib.hid fun t ht => (ss4.row t ht).lt_
    have hzc4 := g4.size
    clear ss4 ln4 s4 g4
    go_wp2_with fail
    refine (srcOne g _ 20 w4 Sr4.out rfl (by omega) (by omega)).mono ?_
    rintro e w5 ⟨b5, rfl, s5, g5⟩
    have Sr5 := Lib.hid s5
    have Ss5 := Lib.hid (Ss4.out.farR g5 LA.out LI.out (.inl hgc))
    have G5 : Hid (w.grownBy w5 (some g)) := Lib.hid (grown_trans' G4.out g5)
    have hz5 := g5.size
    clear s5 g5
    cases b5
    · go_wp2_with fail
      go_ret2
      exact ⟨_, _, _, _, us, xss, rfl, by unfold B64; omega, (RX.of_ss Ss5.out (by omega) (by omega)), by omega, Ss5.out.lens_le Ln4.out (by omega), Sr5.out, G5.out⟩
    · go_wp2_with fail
      refine (srcBelow g _ 4 w5 Sr5.out rfl (by omega) (by omega)).mono ?_
      rintro e w6 ⟨r6, hr6, rfl, s6, g6⟩
      have Sr6 := Lib.hid s6
      have Ss6 := Lib.hid (Ss5.out.farR g6 LA.out LI.out (.inl hgc))
      have G6 : Hid (w.grownBy w6 (some g)) := Lib.hid (grown_trans' G5.out g6)
      have hz6 := g6.size
      clear s6 g6
      obtain rfl | rfl | rfl | rfl : r6 = 0 ∨ r6 = 1 ∨ r6 = 2 ∨ r6 = 3 := by omega
      · go_wp2_with fail
        refine (srcNumberB g 20 w6 Sr6.out (by omega) (by omega)).mono ?_
        rintro e w7 ⟨z7, rfl, hB7, s7, g7⟩
        have Sr7 := Lib.hid s7
        have Ss7 := Lib.hid (Ss6.out.farR g7 LA.out LI.out (.inl hgc))
        have G7 : Hid (w.grownBy w7 (some g)) := Lib.hid (grown_trans' G6.out g7)
        have HB7 := Lib.hid hB7
        clear s7 g7 hB7
        go_wp2_with fail
        go_ret2
        exact ⟨_, _, _, _, us, xss, rfl, HB7.out, (RX.of_ss Ss7.out (by omega) (by omega)), by omega, Ss7.out.lens_le Ln4.out (by omega), Sr7.out, G7.out⟩
      · go_wp2_with fail
        refine (drawAny g n w6 Sr6.out (by omega) (by omega)).mono ?_
        rintro e w7 ⟨A7, m7, c7, ys, rfl, p7, hm7, s7, g7⟩
        have Sr7 := Lib.hid s7
        have Ss7 := Lib.hid (Ss6.out.farR g7 LA.out LI.out (.inl hgc))
        have G7 : Hid (w.grownBy w7 (some g)) := Lib.hid (grown_trans' G6.out g7)
        have P7 : Hid (Pm (w7.alloc (.cells #[.slice A7 m7 c7] 22)) w6.heap.size A7 m7 c7 ys) := Lib.hid (p7.up ((Below.refl w7.heap.size w7).alloc (Nat.le_refl _) _))
        have hz7 := G7.out.size
        have hz67 := g7.size
        have hlt7 : Hid (∀ j, (Value.slice A m c).ownBlock = some j → j < w6.heap.size) := Lib.hid fun j hj => by have := (LA.out j hj).2; omega
        clear s7 g7 p7
        go_wp2_with (first
          | (at_builtin
             refine wpList_app2X rfl _ _ rfl rfl (Ss7.out.alloc _) w7.heap.size A7 m7 c7 w6.heap.size ys rfl (by rw [World.cell?_alloc_at _ _ _ _ rfl]; rfl) P7.out hlt7.out (by omega) (by simp; omega) w.heap.size (by omega) (by omega) ?_
             intro A8 c8 w8 rr8 g8))
        have R8 := Lib.hid rr8
        have Sr8 : Hid (Src w8 g) := Lib.hid ((Sr7.out.below ((Below.refl w7.heap.size w7).alloc (Nat.le_refl _) (.cells #[.slice A7 m7 c7] 22)) Sr7.out.lt).gro2 g8 (fun j hj => by have := (LA.out j hj).1; omega))
        have G8 : Hid (w.grownBy w8 (some g)) := Lib.hid (grown_new2 (grown_alloc2 G7.out (.cells #[.slice A7 m7 c7] 22)) g8 (fun j hj => by have := (LA.out j hj).1; have := G3.out.size; omega))
        have Ln8 : Hid (∀ i, i < m + 1 → ((us ++ [((A7, m7, c7) : SV)]).getD i sd0).2.1 ≤ 21) := Lib.hid fun i hi => by
          by_cases e9 : i < m
          · rw [getD_app _ _ _ _ (by rw [Ss7.out.lv]; exact e9), Ln4.out i e9]; omega
          · rw [getD_snoc _ _ _ _ (by rw [Ss7.out.lv]; omega)]; exact hm7
        clear rr8 g8
        go_wp2_with fail
        go_ret2
        exact ⟨_, _, _, _, _, _, rfl, by unfold B64; omega, R8.out, by omega, Ln8.out, Sr8.out, G8.out⟩
      · have hw6 := G6.out.size
        have Sr7 : Hid (Src (w6.alloc (.cells #[] 22)) g) := Lib.hid (Sr6.out.below ((Below.refl w6.heap.size w6).alloc (Nat.le_refl _) _) Sr6.out.lt)
        have G7 : Hid (w.grownBy (w6.alloc (.cells #[] 22)) (some g)) := Lib.hid (grown_alloc2 G6.out _)
        go_wp2_with fail
        go_ret2
        exact ⟨_, _, 0, _, [], [], rfl, by unfold B64; omega, RX.nil_, by omega, fun i hi => absurd hi (by omega), Sr7.out, G7.out⟩
      · go_wp2_with fail
        go_loopg [5] 10 (fun gg v wr => ∃ (A : Option Addr) (m c : Nat) (us : List SV) (xss : List (List Int)), m ≤ 9 ∧ 9 - m ≤ gg ∧ v = .slice A m c ∧ SS wr wc.heap.size wc.heap.size A m c us xss ∧ (∀ i, i < m → (us.getD i sd0).2.1 = n) ∧ Src wr g ∧ w.grownBy wr (some g) ∧ wc.heap.size ≤ wr.heap.size)
        case atStart => exact ⟨_, m, _, _, _, by omega, by omega, rfl, Ss6.out, Ln4.out, Sr6.out, G6.out, by omega⟩
        case round =>
          clear LA LI Ss4 Ss5 Ss6
          obtain ⟨A, m, c, us, xss, hm9, hgm, rfl, ss, ln, sr, gr, hzc⟩ := hrel
          have Ss := Lib.hid ss
          have Ln := Lib.hid ln
          have Sr := Lib.hid sr
          have Gr := Lib.hid gr
          have LA : Hid (∀ j, (Value.slice A m c).ownBlock = some j → wc.heap.size ≤ j ∧ j < wr.heap.size) := Lib.hid ss.lt_
          have LI : Hid (∀ t, t < m → ∀ j, (sval (us.getD t sd0)).ownBlock = some j → wc.heap.size ≤ j ∧ j < wr.heap.size) := Lib.hid fun t ht => (ss.row t ht).lt_
          clear ss ln sr gr
          go_wp2_with fail
          refine (srcBelow g _ 2 wr Sr.out rfl (by omega) (by omega)).mono ?_
          rintro e w7 ⟨r7, hr7, rfl, s7, g7⟩
          have Sr7 := Lib.hid s7
          have Ss7 := Lib.hid (Ss.out.farR g7 LA.out LI.out (.inl hgc))
          have G7 : Hid (w.grownBy w7 (some g)) := Lib.hid (grown_trans' Gr.out g7)
          have hz7 := g7.size
          have w88 : IntKind.i64.wrap (8 + (r7 : Int)) = 8 + (r7 : Int) := by rw [IntKind.wrap_i64]; omega
          have w89 : IntKind.i64.wrap (r7 : Int) = (r7 : Int) := by rw [IntKind.wrap_i64]; omega
          clear s7 g7
          by_cases hlt : (m : Int) < 8 + (r7 : Int)
          · have d7 : decide ((m : Int) < 8 + (r7 : Int)) = true := decide_eq_true hlt
            have hm8 : m ≤ 8 := by omega
            go_wp2_with fail
            refine (specIdent n w7 (by omega)).mono ?_
            rintro e w8 ⟨A8, c8, rfl, s8, b8⟩
            have Sr8 := Lib.hid (Sr7.out.below b8 Sr7.out.lt)
            have Ss8 := Lib.hid (Ss7.out.up b8)
            have G8 : Hid (w.grownBy w8 (some g)) := Lib.hid (grown_below2 G7.out b8)
            have D8 := Lib.hid (lies_dis Ss7.out s8.lies (Nat.le_refl _))
            have hz8 := b8.size
            have Sl8 := Lib.hid (s8.mono (show wc.heap.size ≤ w7.heap.size by omega))
            clear s8 b8
            go_wp2_with (first
              | (at_builtin
                 refine wpList_app2 rfl _ _ rfl rfl (Ss8.out.alloc _) w8.heap.size A8 n c8 (idL n) rfl (by rw [World.cell?_alloc_at _ _ _ _ rfl]; rfl) (Sl8.out.alloc _) D8.out (by omega) (by simp; omega) ?_
                 intro A9 c9 w9 ss9 g9))
            have Ss9 : Hid (SS w9 wc.heap.size wc.heap.size A9 (m + 1) c9 (us ++ [(A8, n, c8)]) (xss ++ [idL n])) := Lib.hid ss9
            have Sr9 : Hid (Src w9 g) := Lib.hid ((Sr8.out.below ((Below.refl w8.heap.size w8).alloc (Nat.le_refl _) (.cells #[.slice A8 n c8] 22)) Sr8.out.lt).gro2 g9 (fun j hj => by have := (LA.out j hj).1; omega))
            have G9 : Hid (w.grownBy w9 (some g)) := Lib.hid (grown_new2 (grown_alloc2 G8.out (.cells #[.slice A8 n c8] 22)) g9 (fun j hj => by have := (LA.out j hj).1; have := G3.out.size; omega))
            have hz9 : wc.heap.size ≤ w9.heap.size := by have := g9.size; simp at this; omega
            have Ln9 : Hid (∀ i, i < m + 1 → ((us ++ [((A8, n, c8) : SV)]).getD i sd0).2.1 = n) := Lib.hid fun i hi => by
              by_cases e9 : i < m
              · rw [getD_app _ _ _ _ (by rw [Ss8.out.lv]; exact e9)]; exact Ln.out i e9
              · rw [getD_snoc _ _ _ _ (by rw [Ss8.out.lv]; omega)]
            clear ss9 g9
            go_wp2_with fail
            go_roundg (9 - (m + 1))
            case rel => exact ⟨A9, m + 1, c9, _, _, by omega, by omega, rfl, Ss9.out, Ln9.out, Sr9.out, G9.out, hz9⟩
            case measure => omega
          · have d7 : decide ((m : Int) < 8 + (r7 : Int)) = false := decide_eq_false hlt
            go_wp2_with fail
            go_ret2
            exact ⟨_, _, _, _, us, xss, rfl, by unfold B64; omega, (RX.of_ss Ss7.out (by omega) (by omega)), by omega, Ss7.out.lens_le Ln.out (by omega), Sr7.out, G7.out⟩
end Go.Proofs.Ytcjcmhoalomjfab

/- The draws of chapter 4's named laws. Condition: at most 4096 bytes. -/
namespace Go.Proofs.Ytcjcmhoalomjfab
open Go.RowKit

theorem drawAnyK (g n : Nat) (N : Int) (w : World) (hs : Src w g) (hN : N = (n : Int)) (h1 : 1 ≤ n) (hn : n ≤ 20) :
    Calls Try.prog 50 #[.pointer (some ⟨g, 0, none⟩), .int .i64 N] w fun e w' => ∃ A m c xs, e = .returned (.slice A m c) ∧ Pm w' w.heap.size A m c xs ∧ m ≤ 21 ∧ Src w' g ∧ w.grownBy w' (some g) := by
  subst hN; exact drawAny g n w hs h1 hn

end Go.Proofs.Ytcjcmhoalomjfab

/- The walk of the law FnMembership: it returns true at every input, and writes nothing that was there. No condition but the program's own contracts. -/
namespace Go.Proofs.Ytcjcmhoalomjfab
open Go.RowKit

set_option maxHeartbeats 400000 in
theorem bigF4 (A : Option Addr) (len cap : Nat) (w : World) (hl : len ≤ 4096) : Calls Try.prog 18 #[.slice A len cap] w fun e w' => e = .returned (.bool false) ∧ w = w' := by
  have d : decide ((4096 : Int) < (len : Int)) = false := by simp; omega
  go_enter Try.func18, Try.ntmps18
  go_wp2
  go_ret
  exact ⟨rfl, rfl⟩
set_option maxHeartbeats 400000 in
theorem bigT4 (A : Option Addr) (len cap : Nat) (w : World) (hl : 4096 < len) : Calls Try.prog 18 #[.slice A len cap] w fun e w' => e = .returned (.bool true) ∧ w = w' := by
  have d : decide ((4096 : Int) < (len : Int)) = true := by simp; omega
  go_enter Try.func18, Try.ntmps18
  go_wp2
  go_ret
  exact ⟨rfl, rfl⟩
theorem below_gro4 {w0 w w' : World} {g : Nat} (h : Below w0.heap.size w0 w) (hg : w.grownBy w' (some g)) (hB : w0.heap.size ≤ g) : Below w0.heap.size w0 w' := h.grown hg h.size (fun k e => by injection e with e; omega)
theorem likeI_eq (A B : Option Addr) (c d n m : Nat) (xs : List Int) (w : World) (hx : RI w w.heap.size A xs) (hy : RI w w.heap.size B xs) (lx : Hid (xs.length = n)) (ly : Hid (xs.length = m)) (hn : n ≤ 2097152) :
    Calls Try.prog 25 #[.slice A n c, .slice B m d] w fun e w' => e = .returned (.bool true) ∧ Below w.heap.size w w' :=
  (quiet_below (likeI_any A B c d n m _ _ w hx hy lx ly hn (by rw [← ly.out, lx.out]; exact hn))).mono fun e w' ⟨he, hb⟩ => ⟨he.trans (ret_bool (by simp)), hb⟩


/-! ### what the answers tell of each other -/
section
variable {N k np : Nat} {gs : List (List Int)} {p m : List Int}
theorem take_at {t : Nat} (h : t < (p.take k).length) : (p.take k).getD t 0 = p.getD t 0 := by
  rw [List.length_take] at h
  rw [List.getD_eq_getElem?_getD, List.getElem?_take, if_pos (by omega), ← List.getD_eq_getElem?_getD]
theorem lmp_all (hp : Pn N p) (h1 : 1 ≤ N) (h2 : N ≤ 20) (hg : ∀ g ∈ gs, Pn N g) (h : LmpOK N gs p k) : Mb gs N p ↔ k = N := by
  obtain ⟨a, ⟨q, hq, hq2⟩, b⟩ := h
  constructor
  · intro hm
    rcases Nat.lt_or_ge k N with hl | hl
    · exact absurd ⟨p, hm, fun _ _ => rfl⟩ (b hl)
    · omega
  · rintro rfl
    have : q = p := (hq.pn hg h1 h2).ext hp fun x hx => hq2 x hx
    exact this ▸ hq
theorem lmp_pre (hp : Pn N p) (h : LmpOK N gs p k) : ¬ NoMem N gs (p.take k) := by
  obtain ⟨a, ⟨q, hq, hq2⟩, _⟩ := h
  refine fun hn => hn q hq fun t ht => ?_
  rw [take_at ht]
  rw [List.length_take] at ht
  rw [hq2 t (by omega), nx_val hp.1 (by rw [hp.2]; omega)]
theorem lmp_none (hp : Pn N p) (h : LmpOK N gs p k) (hk : k < N) : ∀ q, Mb gs N q → ¬ ∀ t, t < (p.take (k + 1)).length → (nx q t : Int) = (p.take (k + 1)).getD t 0 := fun q hq hq2 => by
  refine h.2.2 hk ⟨q, hq, fun t ht => ?_⟩
  have h3 := hq2 t (by rw [List.length_take, hp.2]; omega)
  rw [take_at (by rw [List.length_take, hp.2]; omega), nx_val hp.1 (by rw [hp.2]; omega)] at h3
  omega
theorem greedy_all (hp : Pn N p) (h1 : 1 ≤ N) (h2 : N ≤ 20) (hg : ∀ g ∈ gs, Pn N g) (h : Greedy N gs p m) : m = p :=
  (h.1.pn hg h1 h2).ext hp fun x hx => by
    have := (h.2 x hx).1 (by rw [hp.2]; exact hx)
    rw [nx_val hp.1 (by rw [hp.2]; exact hx)] at this
    omega
end

end Go.Proofs.Ytcjcmhoalomjfab
