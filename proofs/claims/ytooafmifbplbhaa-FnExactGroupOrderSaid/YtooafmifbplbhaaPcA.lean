/- The program's add: a permutation that fixes every point before the base is added to a link. Conditions: at most 20 points; the chain whole from the link on. -/
import Derived.Test.YtooafmifbplbhaaPcI
import Derived.Deep.CutRange
import Derived.Deep.LoopGhost
namespace Go.Proofs.Ytooafmifbplbhaa
open Go.RowKit

theorem boolOf (P : Prop) : ∃ b : Bool, b = true ↔ P := by
  by_cases h : P
  · exact ⟨true, fun _ => h, fun _ => rfl⟩
  · exact ⟨false, fun e => (Bool.false_ne_true e).elim, fun e => (h e).elim⟩

set_option maxHeartbeats 8000000 in
set_option maxRecDepth 100000 in
theorem implAdd1 (base N k : Nat) (hk : k < N) (h2N : N ≤ 20) (IN : k + 1 < N → INs base N k) : ADs base N k := by
  intro M c L A cp p w hc ho hd hP hF hU
  obtain ⟨ans, hans⟩ := boolOf (Mb (c.gen k) N p)
  have Ha := Lib.hid hans
  have HC := Lib.hid hc
  have HO := Lib.hid ho
  have HD := Lib.hid hd
  have HP := Lib.hid hP
  have HF := Lib.hid hF
  have HU := Lib.hid hU
  have hbs : base ≤ w.heap.size := by have := hc.mlt _ (hc.mm k 0 _ (Nat.le_refl _) hk (by decide) rfl); omega
  clear hc ho hd hP hF hU hans
  go_enter Try.func79, Try.ntmps79
  go_wp2_with fail
  refine (implContains base N k cp M c L A p w HC.out hk HU h2N HD.out.ri HP HF ans Ha).mono ?_
  rintro e w1 ⟨rfl, b1⟩
  have C1 := Lib.hid (HC.out.up b1)
  have D1 := Lib.hid (HD.out.up b1)
  have B1 := Lib.hid b1
  rcases ans with _ | _
  · have NM : Hid (¬ Mb (c.gen k) N p) := Lib.hid fun h => Bool.false_ne_true (Ha.out.2 h)
    have NS : Hid (¬ Sv N c k p) := Lib.hid fun h => NM.out ((HU.out.sv k (Nat.le_refl _) (by omega) p).1 h)
    have hk1 : k + 1 < N := by
      rcases Nat.lt_or_ge (k + 1) N with h | h
      · exact h
      · exact absurd (sv_last HU.out (by omega) (by omega) h2N HP.out HF.out) NS.out
    obtain ⟨b, hA⟩ : ∃ b : Nat × Nat, A = some ⟨b.1, b.2, none⟩ := by
      obtain ⟨b, off, e, _⟩ := D1.out.at_ (by rw [HP.out.2]; omega)
      exact ⟨(b, off), e⟩
    obtain ⟨b, off⟩ := b
    have hA : A = some ⟨b, off, none⟩ := hA
    subst hA
    obtain ⟨x0, x1, x2, x3, x4⟩ := C1.out.cB (Nat.le_refl _) hk
    have hl := C1.out.lk k (Nat.le_refl _) hk
    have ho := hl.gown
    obtain ⟨G, hG⟩ : ∃ G, (c.gen k).length = G := ⟨_, rfl⟩
    have HG := Lib.hid hG
    have hG4 : G ≤ 400 := by
      rw [← hG]
      have h1 := HU.out.len k (Nat.le_refl _) hk
      have h2 := cnt_le N c k
      have h3 := Nat.mul_le_mul h2N h2N
      omega
    rcases hgv : (L k).g with ⟨gA, gn, gc⟩
    rw [hgv, hG] at ho
    rw [hgv] at x1
    obtain rfl : gn = G := by
      rcases ho.2 with ⟨e, h0⟩ | ⟨g', cap, cur, e, _⟩
      · unfold sval at e; injection e with _ e2 _; have e2 : gn = 0 := e2; omega
      · unfold sval at e; injection e with _ e2 _
    have ho : w1.ownsRow base 53 1 (.slice gA gn gc) gn ((L k).ge.map sval) := ho
    simp only [sval] at x1
    have Ho := Lib.hid ho
    have Hgv := Lib.hid hgv
    rcases hov : (L k).o with ⟨oA, on, oc⟩
    have hol := C1.out.olen (Nat.le_refl _) hk
    rw [hov] at hol
    have hol : on = (L k).orb.length := hol
    have Hol := Lib.hid hol
    have Hov := Lib.hid hov
    have hO20 := (HO.out k (Nat.le_refl _) hk).len (HU.out.rep k (Nat.le_refl _) hk)
    have hon : on ≤ N := by omega
    clear hol hO20
    try clear hol
    clear hov
    have fzB := hl.blk.frozen 1
    have bw1 : base ≤ w1.heap.size := by have := B1.out.size; omega
    obtain ⟨Lt, hLt⟩ : ∃ Lt, Obj.cells #[Value.slice (some ⟨b, off, none⟩) N cp] 53 = Lt := ⟨_, rfl⟩
    have Lit : Hid ((w1.alloc (.cells #[.slice (some ⟨b, off, none⟩) N cp] 53)).cell? ⟨w1.heap.size, 0, none⟩ = some (sval (some ⟨b, off, none⟩, N, cp))) := Lib.hid (by rw [World.cell?_alloc_at _ _ _ _ rfl]; rfl)
    have BL : Hid (Below w1.heap.size w1 (w1.alloc (.cells #[.slice (some ⟨b, off, none⟩) N cp] 53))) := Lib.hid ((Below.refl _ _).alloc (Nat.le_refl _) _)
    have PA : Hid (∀ (A4 : Option Addr) (c4 : Nat) (w4 : World), w4.ownsRow base 53 1 (.slice A4 (gn + 1) c4) (gn + 1) ((L k).ge.map sval ++ [sval (some ⟨b, off, none⟩, N, cp)]) → (w1.alloc (.cells #[.slice (some ⟨b, off, none⟩) N cp] 53)).grownBy w4 (Value.slice gA gn gc).ownBlock →
        ((Value.slice A4 (gn + 1) c4).ownBlock = (Value.slice gA gn gc).ownBlock ∨ (Value.slice A4 (gn + 1) c4).ownBlock = some (w1.alloc (.cells #[.slice (some ⟨b, off, none⟩) N cp] 53)).heap.size) →
        (w4.setCell ⟨(L k).B, 1, none⟩ (.slice A4 (gn + 1) c4)).cell? ⟨(L k).B, 2, none⟩ = some (.slice oA on oc) ∧ w4.cell? ⟨(L k).B, 1, none⟩ = some (.slice gA gn gc) ∧ w4.frozen? ⟨(L k).B, 1, none⟩ = false ∧ ∃ (L' : Nat → LK) (M' : Nat → Prop), Ck (w4.setCell ⟨(L k).B, 1, none⟩ (.slice A4 (gn + 1) c4)) base N k M' (c.push k p) L' ∧ Orbs N k (c.push k p) L' ∧ Gw w (w4.setCell ⟨(L k).B, 1, none⟩ (.slice A4 (gn + 1) c4)) N k L L' M M' ∧ (L' k).orb = (L k).orb ∧ (L' k).g = (A4, gn + 1, c4)) := Lib.hid (by
      intro A4 c4 w4 s4 g4 hat
      obtain ⟨M', K1, K2⟩ := C1.out.pushg hk BL.out (q := p) (d := (some ⟨b, off, none⟩, N, cp)) (A := A4) (n := gn + 1) (cc := c4) (by rw [Hgv.out]; exact g4) (by rw [HG.out]; exact s4) (by rw [Hgv.out]; exact hat) D1.out
      have blk1 : Blk w4 (L k).B 58 #[.int .i64 (k : Nat), sval (L k).g, sval (L k).o, .slice (some ⟨(L k).mb, 0, none⟩) N N, ptr N L (k + 1)] := by
        have h0 := (C1.out.lk k (Nat.le_refl _) hk).blk
        have h1 := h0.chg (S := fun _ => False) (.of_below BL.out) (fun e => e)
        refine h1.grown g4 fun e => ?_
        have := (C1.out.dis k 0 k 1 (L k).B (Nat.le_refl _) hk (by decide) (Nat.le_refl _) hk (by decide) rfl (by show (sval (L k).g).ownBlock = _; rw [Hgv.out]; exact e.symm)).2
        omega
      refine ⟨?_, by rw [blk1.cell 1, Hgv.out]; rfl, blk1.frozen 1, _, M', K1, fun i a b => ?_, (Gw.of_below B1.out).trans K2, ?_, ?_⟩
      · have h3 := (K1.cB (Nat.le_refl _) hk).2.2.1
        rw [upd_at] at h3
        have h3 : (w4.setCell ⟨(L k).B, 1, none⟩ (.slice A4 (gn + 1) c4)).cell? ⟨(L k).B, 2, none⟩ = some (sval (L k).o) := h3
        rw [Hov.out] at h3; exact h3
      · by_cases ei : i = k
        · subst ei
          rw [upd_at]
          exact (HO.out i a b).congr fun z => rfl
        · rw [upd_ne ei]
          exact (HO.out i a b).congr fun z => rfl
      · rw [upd_at]
      · rw [upd_at])
    have P0 : Hid (Low N (c.push k p) k) := Lib.hid (HU.out.pushed hk (by omega) h2N HP.out HF.out)
    clear hl ho hG hgv b1 HC HD hLt
    go_wp2_with (first
      | (at_builtin; go_must (refine wpList_appP rfl _ _ rfl base (.slice gA gn gc) gn ((L k).ge.map sval) rfl (World.ownsRow.alloc Ho.out _) w1.heap.size (some ⟨b, off, none⟩, N, cp) rfl Lit.out (by omega) (by simp; omega) ?_); intro A4 c4 w4 s4 g4 hat4; obtain ⟨v0, v1, v2, v3⟩ := PA.out A4 c4 w4 s4 g4 hat4; have V3 := Lib.hid v3; clear s4 g4 hat4 v3))
    obtain ⟨L3, M3, hc3, ho3, hg3, horb3, hgk3⟩ := V3.out
    generalize w4.setCell ⟨(L k).B, 1, none⟩ (.slice A4 (gn + 1) c4) = w5 at v0 hc3 hg3 ⊢
    have St : Hid (Bf N k (c.push k p) (c.push k p) (L3 k).orb p on 0 0) := Lib.hid (by
      have h3 := Bf.start (p := p) P0.out (ho3 k (Nat.le_refl _) hk)
      have e3 : (L3 k).orb.length = on := by rw [horb3, Hol.out]
      rw [e3] at h3; exact h3)
    have C3 := Lib.hid hc3
    have O3 := Lib.hid ho3
    have G3 := Lib.hid hg3
    have glen : ((c.push k p).gen k).length = gn + 1 := by rw [push_at, List.length_append, HG.out]; rfl
    have Gl := Lib.hid glen
    clear hc3 ho3 hg3 horb3 hgk3 v1 v2 V3 PA glen BL Lit fzB x1 x0 x2 x3 x4
    go_loopg [5, 6, 7, 9] N (fun gg iv _ _ _ wr => ∃ (i : Nat) (cj : Ch) (Lj : Nat → LK) (Mj : Nat → Prop), i ≤ (Lj k).orb.length ∧ N - i ≤ gg ∧ iv = .int .i64 (i : Nat) ∧ Ck wr base N k Mj cj Lj ∧ Orbs N k cj Lj ∧ Gw w wr N k L Lj M Mj ∧ Bf N k (c.push k p) cj (Lj k).orb p on i 0)
    case atStart => exact ⟨0, c.push k p, L3, M3, Nat.zero_le _, by omega, rfl, C3.out, O3.out, G3.out, St.out⟩
    case round =>
      clear C3 O3 G3 St
      obtain ⟨i, cj, Lj, Mj, hi, hgg, rfl, hc, ho, hg, hbf⟩ := hrel
      have Cj := Lib.hid hc
      have Oj := Lib.hid ho
      have Gj := Lib.hid hg
      have Bj := Lib.hid hbf
      have hBk : (Lj k).B = (L k).B := hg.ptr k
      obtain ⟨x0, x1, x2, x3, x4⟩ := hc.cB (Nat.le_refl _) hk
      rw [hBk] at x0 x1 x2 x3 x4
      have hlenj := hc.olen (Nat.le_refl _) hk
      have hOr := ho k (Nat.le_refl _) hk
      have h20 := hOr.len hbf.low.rep
      have hbl := hbf.len
      have eg : (cj.gen k).length = gn + 1 := by rw [hbf.gen]; exact Gl.out
      obtain ⟨m, hm⟩ : ∃ m, (Lj k).orb.length = m := ⟨_, rfl⟩
      have Hm := Lib.hid hm
      rw [hm] at hi h20 hbl hlenj
      by_cases hlt : i < m
      · obtain ⟨ob, oc2, hoe, x6⟩ := hc.cO (Nat.le_refl _) hk (j := i) (by rw [hm]; exact hlt)
        rw [hoe] at x2
        rw [hm] at x2
        obtain ⟨y, ey⟩ : ∃ y, (Lj k).orb.getD i 0 = y := ⟨_, rfl⟩
        rw [ey] at x6
        have hyO : y ∈ (Lj k).orb := by rw [← ey, List.getD_eq_getElem?_getD, List.getElem?_eq_getElem (by rw [hm]; exact hlt)]; exact List.getElem_mem _
        have hry : cj.rep k y ≠ [] := (hOr.2 y).1 hyO
        obtain ⟨hy, hrP, hrF, hrk⟩ := hbf.low.rep.at_ y hry
        have x7 := hc.cM (Nat.le_refl _) hk hy
        have hrd := (hc.eM (Nat.le_refl _) hk hy).2 hry
        rcases hde : (Lj k).en.getD y sd0 with ⟨dA, dn, dc⟩
        rw [hde] at x7 hrd
        obtain ⟨gq, gcq, hge, hcap, x8, hrg⟩ := hc.cG (Nat.le_refl _) hk (j := 0) (by omega)
        rw [hge] at x1
        rw [eg] at x1 hcap
        simp only [sval] at x1 x2 x7
        have q0 : (0 : Int) ≤ i := by omega
        have q1 : (i : Int) < m := by omega
        have q2 : (0 : Int) ≤ y := by omega
        have q3 : (y : Int) < N := by omega
        have Ey := Lib.hid ey
        have Hry := Lib.hid hry
        have Rd0 := Lib.hid hrd
        have Hge := Lib.hid hge
        have RP := Lib.hid hrP
        clear hc ho hg hbf hlenj hOr hm hoe hyO hry hrP hrF hrk hde hrd hge x8 hrg ey eg
        go_wp2_with fail
        go_quiet (fail)
        have B3 : Hid (Below wr.heap.size wr (wr.drewN nq)) := Lib.hid (pcDrewBelow wr nq)
        obtain ⟨wz, hwz⟩ : ∃ wz, wr.drewN nq = wz := ⟨_, rfl⟩
        rw [hwz] at B3 ⊢
        have Cz := Lib.hid (Cj.out.up B3.out)
        have Rz := Lib.hid (Rd0.out.up B3.out)
        have Gz : Hid (Gw w wz N k L Lj M Mj) := Lib.hid (Gj.out.trans (.of_below B3.out))
        clear hwz B3 Cj Rd0 Gj
        go_upto_if 56 with fail
        go_cut [7] from 28 to 73 (fun gv wx => wx = wz ∧ ∃ (of gl cc : Nat), gv = .slice (some ⟨gq, of, none⟩) gl cc ∧ ((i < on ∧ of = gn ∧ gl = 1) ∨ (on ≤ i ∧ of = 0 ∧ gl = gn + 1)))
        case first =>
          by_cases hin : i < on
          · have d0 : decide ((i : Int) < (on : Int)) = true := by simp; omega
            go_wp2_with fail
            go_meet
            exact ⟨rfl, gn, 1, _, rfl, .inl ⟨hin, rfl, rfl⟩⟩
          · have d0 : decide ((i : Int) < (on : Int)) = false := by simp; omega
            go_wp2_with fail
            go_meet
            exact ⟨rfl, 0, gn + 1, _, rfl, .inr ⟨by omega, rfl, rfl⟩⟩
        case rest =>
          obtain ⟨rfl, of, gl, cc, rfl, hgs⟩ := hcut
          have Gs := Lib.hid hgs
          have Gal : Hid ((gsA on ((c.push k p).gen k) p i).length = gl) := Lib.hid (by
            unfold gsA
            rcases hgs with ⟨h1, _, h3⟩ | ⟨h1, _, h3⟩
            · rw [if_pos h1, h3]; rfl
            · rw [if_neg (by omega), Gl.out, h3])
          have hgl4 : gl ≤ 401 := by omega
          have hofl : of + gl = gn + 1 := by omega
          obtain rfl : dn = N := by have h3 : (cj.rep k y).length = dn := Rz.out.len; have := RP.out.2; omega
          clear hgs
          go_wp2_with fail
          go_loopg [9, 64] gl (fun gg _ jv wr => ∃ (j : Nat) (ci : Ch) (Li : Nat → LK) (Mi : Nat → Prop), j ≤ gl ∧ gl - j ≤ gg ∧ jv = .int .i64 (j : Nat) ∧ Ck wr base dn k Mi ci Li ∧ Orbs dn k ci Li ∧ Gw w wr dn k L Li M Mi ∧ Bf dn k (c.push k p) ci (Li k).orb p on i j ∧ (Li k).g = (Lj k).g ∧ (Lj k).orb <+: (Li k).orb ∧ ci.rep k y = cj.rep k y ∧ Rd wr Mi (dA, dn, dc) (cj.rep k y))
          case atStart => exact ⟨0, cj, Lj, Mj, Nat.zero_le _, by omega, rfl, Cz.out, Oj.out, Gz.out, Bj.out, rfl, List.prefix_rfl, rfl, Rz.out⟩
          case round =>
            clear Cz Gz Rz
            obtain ⟨j, ci, Li, Mi, hj, hgg2, rfl, hc, ho, hg, hbf, hgk, hpre, hrep, hrd⟩ := hrel
            have Ci := Lib.hid hc
            have Oi := Lib.hid ho
            have Gi := Lib.hid hg
            have Bi := Lib.hid hbf
            have Gk := Lib.hid hgk
            have Pre := Lib.hid hpre
            have Rep := Lib.hid hrep
            have Rdi := Lib.hid hrd
            have gen1 : ci.gen k = c.gen k ++ [p] := by rw [hbf.gen, push_at]
            by_cases hjl : j < gl
            · obtain ⟨gq', gc', hge', _, x8, hrg⟩ := hc.cG (Nat.le_refl _) hk (j := of + j) (by rw [gen1, List.length_append, HG.out]; simp; omega)
              rw [hgk, Hge.out] at hge'
              obtain ⟨rfl, rfl⟩ : gq = gq' ∧ gcq = gc' := by
                injection hge' with h1 h2
                injection h1 with h1
                injection h1 with h1
                injection h2 with _ h2
                exact ⟨h1, h2⟩
              rcases hde : (Li k).ge.getD (of + j) sd0 with ⟨eA, en, ec⟩
              rw [hde] at x8 hrg
              obtain ⟨h, eh⟩ : ∃ h, (ci.gen k).getD (of + j) [] = h := ⟨_, rfl⟩
              rw [eh] at hrg
              have egs : (gsA on ((c.push k p).gen k) p i).getD j [] = h := by
                rw [← eh, gen1]
                unfold gsA
                rcases Gs.out with ⟨h1, h2, h3⟩ | ⟨h1, h2, h3⟩
                · obtain rfl : j = 0 := by omega
                  rw [if_pos h1, h2, getD_snoc _ _ _ (gn + 0) (by rw [HG.out]; rfl)]; rfl
                · rw [if_neg (by omega), h2, push_at, Nat.zero_add]
              have hilt : i < (Li k).orb.length := Nat.lt_of_lt_of_le (by rw [Hm.out]; exact hlt) hpre.length_le
              have eyi : (Li k).orb.getD i 0 = y := by rw [getD_pre hpre (by rw [Hm.out]; exact hlt)]; exact Ey.out
              obtain ⟨k1, k2, k3⟩ := hbf.mb (ho k (Nat.le_refl _) hk) hilt (by rw [Gal.out]; exact hjl)
              rw [egs, eyi, hrep] at k1
              rw [egs] at k3
              have hP2 := (hbf.low.gp h k3).1
              obtain rfl : en = dn := by have h3 : h.length = en := hrg.len; have := hP2.2; omega
              have K1 := Lib.hid k1
              have Egs := Lib.hid egs
              have Eyi := Lib.hid eyi
              have Hp2 := Lib.hid hP2
              have Rgi := Lib.hid hrg
              have Hil := Lib.hid hilt
              simp only [sval] at x8
              have q4 : (0 : Int) ≤ j := by omega
              have q5 : (j : Int) < gl := by omega
              clear hc ho hg hbf hgk hpre hrep hrd gen1 hge' hde eh egs hilt eyi k1 k2 k3 hP2 hrg
              go_wp2_with fail
              refine (implThen dA eA dc ec en (cj.rep k y) h wr Rdi.out.ri Rgi.out.ri (Lib.hid RP.out.2) (Lib.hid Hp2.out.2) (Lib.hid RP.out.1) h2N).mono ?_
              rintro e w3 ⟨A3, c3, rfl, s3, b3⟩
              have C4 := Lib.hid (Ci.out.up b3)
              have R4 : Hid (Rd w3 Mi (A3, en, c3) (compL (cj.rep k y) h)) := Lib.hid (Rd.of_slc (d := (A3, en, c3)) s3 fun b e => (Ci.out.mlt b e).2)
              have G4 : Hid (Gw w w3 en k L Li M Mi) := Lib.hid (Gi.out.trans (.of_below b3))
              have D4 := Lib.hid (Rdi.out.up b3)
              have eBi : (Li k).B = (L k).B := Gi.out.ptr k
              have EBi := Lib.hid eBi
              clear s3 b3 eBi
              go_wp2_with fail
              have KI := IN hk1 Mi ci Li A3 c3 (compL (cj.rep k y) h) w3 C4.out Oi.out R4.out Bi.out.low K1.out
              rw [EBi.out] at KI
              refine KI.mono ?_
              rintro e w4 ⟨c', L', M', rfl, hc4, ho4, hg4, hic, hpre4, hgk4⟩
              have C5 := Lib.hid hc4
              have O5 := Lib.hid ho4
              have G5 : Hid (Gw w w4 en k L L' M M') := Lib.hid (G4.out.trans hg4)
              have Bf5 : Hid (Bf en k (c.push k p) c' (L' k).orb p on i (j + 1)) := Lib.hid (Bi.out.next (Oi.out k (Nat.le_refl _) hk) Hil.out hpre4 (by rw [Egs.out, Eyi.out, Rep.out]; exact hic))
              have Gk5 : Hid ((L' k).g = (Lj k).g) := Lib.hid (hgk4.trans Gk.out)
              have Pre5 : Hid ((Lj k).orb <+: (L' k).orb) := Lib.hid (Pre.out.trans hpre4)
              have Rep5 : Hid (c'.rep k y = cj.rep k y) := Lib.hid (by
                rw [← Rep.out]; exact hic.grw.keep _ _ (by rw [Rep.out]; exact Hry.out))
              have D5 : Hid (Rd w4 M' (dA, en, dc) (cj.rep k y)) := Lib.hid (D4.out.gw hg4 C4.out.muM)
              clear KI hc4 ho4 hg4 hic hpre4 hgk4
              go_wp2_with fail
              go_roundg (gl - (j + 1))
              case rel => exact ⟨j + 1, c', L', M', by omega, by omega, by go_num, C5.out, O5.out, G5.out, Bf5.out, Gk5.out, Pre5.out, Rep5.out, D5.out⟩
              case measure => omega
            · obtain rfl : j = gl := by omega
              have Bf6 : Hid (Bf dn k (c.push k p) ci (Li k).orb p on (i + 1) 0) := Lib.hid (Bf.round (by rw [Gal.out]; exact Bi.out))
              have hil : i + 1 ≤ (Li k).orb.length := Nat.lt_of_lt_of_le (by rw [Hm.out]; exact hlt) hpre.length_le
              clear hc ho hg hbf hgk hpre hrep hrd gen1
              go_wp2_with fail
              go_roundg (dn - (i + 1))
              case rel => exact ⟨i + 1, ci, Li, Mi, hil, by omega, by go_num, Ci.out, Oi.out, Gi.out, Bf6.out⟩
              case measure => omega
      · obtain rfl : i = m := by omega
        have Fin : Hid (Ap N k c cj p) := Lib.hid (Bf.all HU.out hk (by omega) h2N HP.out HF.out NS.out (by rw [Hm.out]; exact Bj.out) hOr)
        simp only [sval] at x2
        clear hc ho hg hbf
        rcases hoe : (Lj k).o with ⟨oA2, on2, oc2⟩
        rw [hoe] at x2 hlenj
        have hlenj : on2 = i := hlenj
        subst hlenj
        simp only at x2
        clear hoe
        go_wp2_with fail
        go_end0
        exact ⟨rfl, cj, Lj, Mj, Cj.out, Oj.out, Gj.out, Fin.out⟩
  · have Fin : Hid (Ap N k c c p) := Lib.hid (.same HU.out (by omega) (by omega) h2N ((HU.out.sv k (Nat.le_refl _) (by omega) p).2 (Ha.out.1 rfl)))
    go_wp2_with fail
    (try simp only [Exit.inBlock, Exit.then]); refine bodyPost_ret (results_none rfl _ _ _) rfl ?_
    first
      | exact ⟨c, L, M, rfl, C1.out, HO.out, .of_below B1.out, Fin.out⟩
      | exact ⟨rfl, c, L, M, C1.out, HO.out, .of_below B1.out, Fin.out⟩
theorem implAdd (base N : Nat) (h2N : N ≤ 20) : ∀ m k, k + m + 1 = N → ADs base N k
  | 0, k, e => implAdd1 base N k (by omega) h2N fun h => absurd h (by omega)
  | m + 1, k, e => implAdd1 base N k (by omega) h2N fun h => implInclude base N k h h2N (implAdd base N h2N m (k + 1) (by omega))
end Go.Proofs.Ytooafmifbplbhaa
