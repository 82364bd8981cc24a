/- The model's addProduct, where addGenerator one level up keeps its contract. Conditions: at most 20 points; the chain whole above the level. -/
import Derived.Test.YtooafmifbplbhaaChW
import Derived.RegionTactic
import Derived.BigRegion
namespace Go.Proofs.Ytooafmifbplbhaa
open Go.RowKit

/-- What addGenerator keeps at level k. -/
def AGs (base g N k : Nat) : Prop := ∀ (cp : Nat) (A : Option Addr) (c : Ch) (L : LY) (p : List Int) (w : World), Cn w base g N c L → Slc w base A N cp p → Pn N p → Fx k p → UpTo N c k →
  Calls Try.prog 83 #[.pointer (some ⟨g, 0, none⟩), .int .i64 (k : Nat), .slice A N cp] w fun e w' => ∃ c' L', e = .returned (.tuple #[]) ∧ Cn w' base g N c' L' ∧ Chg w w' (Mut N L) ∧ (∀ b, Mut N L' b → Mut N L b ∨ w.heap.size ≤ b) ∧ Ap N k c c' p
/-- How many points of level k have no representative. -/
def miss (N : Nat) (c : Ch) (k : Nat) : Nat := (List.range N).countP fun y => (c.rep k y).isEmpty
/-- What addProduct keeps at level k. -/
def APs (base g N k fuel : Nat) : Prop := ∀ (cp : Nat) (A : Option Addr) (c : Ch) (L : LY) (q : List Int) (w : World), Cn w base g N c L → Slc w base A N cp q → Low N c k → Mb (c.gen k) N q → (c.gen k).length ≤ 401 → miss N c k ≤ fuel →
  Calls Try.prog 102 #[.pointer (some ⟨g, 0, none⟩), .int .i64 (k : Nat), .slice A N cp] w fun e w' => ∃ c' L', e = .returned (.tuple #[]) ∧ Cn w' base g N c' L' ∧ Chg w w' (Mut N L) ∧ (∀ b, Mut N L' b → Mut N L b ∨ w.heap.size ≤ b) ∧ Bp N k c c' q
theorem miss_mono {N k : Nat} {c c' : Ch} (h : Grw k c c') : miss N c' k ≤ miss N c k := by
  refine List.countP_mono_left fun y _ hy => ?_
  rcases e : (c.rep k y).isEmpty with _ | _
  · rw [List.isEmpty_eq_false_iff] at e
    rw [h.keep k y e] at hy
    rw [List.isEmpty_iff] at hy; exact absurd hy e
  · rfl
theorem miss_lt {N k : Nat} {c c' : Ch} (h : Grw k c c') {y : Nat} (hy : y < N) (h1 : c.rep k y = []) (h2 : c'.rep k y ≠ []) : miss N c' k < miss N c k := by
  refine countP_lt (x := y) (fun t ht => ?_) (List.mem_range.2 hy) (List.isEmpty_eq_false_iff.2 h2) (by rw [h1]; rfl)
  rcases e : (c.rep k t).isEmpty with _ | _
  · rw [List.isEmpty_eq_false_iff] at e
    rw [h.keep k t e] at ht
    rw [List.isEmpty_iff] at ht; exact absurd ht e
  · rfl

set_option maxHeartbeats 4000000 in
set_option maxRecDepth 100000 in
theorem specAddProd1 (base g N k : Nat) (hkN : k < N) (AG : AGs base g N (k + 1)) (fuel : Nat) (IH : ∀ f, f < fuel → APs base g N k f) : APs base g N k fuel := by
  intro cp A c L q w hc hs hl hq hgl hm
  have hP := hq.pn hl.pn (by omega) (by
    have := (hl.rep.at_ k (by rw [hl.rep.one]; intro e; have := idL_length N; rw [e] at this; simp at this; omega)).2.1.pos
    exact this.2)
  have hN := hP.pos
  have hb0 : base ≤ w.heap.size := by have := hc.ltR; omega
  have HC := Lib.hid hc
  have HS := Lib.hid hs
  have HL := Lib.hid hl
  have HQ := Lib.hid hq
  have QP := Lib.hid hP
  have Hm := Lib.hid hm
  obtain ⟨b, off, hA, hb, hcell⟩ := hs.ri_ (by rw [hP.2]; omega)
  subst hA
  have x5 := hcell k (by rw [hP.2]; exact hkN)
  obtain ⟨y, ey⟩ : ∃ y, nx q k = y := ⟨_, rfl⟩
  have hy : y < N := by rw [← ey]; exact hP.lt hkN
  rw [nx_val hP.1 (by rw [hP.2]; exact hkN), ey] at x5
  have Ey := Lib.hid ey
  have x1 := hc.c1
  have x2 := hc.cR hkN
  have x3 := hc.cro hkN hy
  have en := hc.enn hkN hy
  have er := hc.ent1 k hkN y hy
  rcases hd : (L.en k).getD y sd0 with ⟨dA, dn, dc⟩
  rw [hd] at x3 en er
  have Er : Hid (RI w w.heap.size dA (c.rep k y)) := Lib.hid er.ri_
  have p0 : (0 : Int) ≤ k := by omega
  have p1 : (k : Int) < N := by omega
  have p2 : (0 : Int) ≤ y := by omega
  have p3 : (y : Int) < N := by omega
  simp only [sval] at x3
  clear hb hcell hd er hc hs hl hq hP hm ey
  by_cases hz : c.rep k y = []
  · obtain rfl : dn = 0 := by
      have : dn = (c.rep k y).length := en
      rw [this, hz]; rfl
    have d0 : decide ((0 : Int) < 0) = false := by decide
    clear en
    have fz := (HC.out.row1 k hkN).frozenAt y
    go_enter Try.func102, Try.ntmps102
    go_wp2_with fail
    go_quiet (fail)
    have x1' : (w.drewN nq).cell? ⟨g, 1, none⟩ = _ := x1
    have x2' : (w.drewN nq).cell? ⟨L.R, k, none⟩ = _ := x2
    have x5' : (w.drewN nq).cell? ⟨b, off + k, none⟩ = _ := x5
    have x3' : (w.drewN nq).cell? ⟨L.ro k, y, none⟩ = _ := x3
    have fz' : (w.drewN nq).frozen? ⟨L.ro k, y, none⟩ = false := fz
    obtain ⟨wd, hwd⟩ : ∃ wd, w.drewN nq = wd := ⟨_, rfl⟩
    have Bd : Hid (Below w.heap.size w wd) := Lib.hid (by rw [← hwd]; exact drewN_below w nq)
    have Sd := Lib.hid (HS.out.up Bd.out)
    have Cd := Lib.hid (HC.out.up Bd.out)
    rw [hwd] at x1' x2' x5' x3' fz' ⊢
    clear hwd HC HS Er x1 x2 x3 x5 fz
    go_wp2_with fail
    go_region
    have St := Cd.out.store hkN hy (d := (some ⟨b, off, none⟩, N, cp)) Sd.out
    obtain ⟨w1, hw1⟩ : ∃ w1, (wd.setCell ⟨L.ro k, y, none⟩ (.slice (some ⟨b, off, none⟩) N cp)).drew = w1 := ⟨_, rfl⟩
    have hcd : Chg wd w1 (Mut N L) := by
      rw [← hw1]
      exact (Chg.of_grown St.2 (fun b e => .inr (.inl ⟨k, hkN, (Option.some.inj e).symm⟩))).drew
    have C1 : Hid (Cn w1 base g N (c.set k y q) (L.put k y (some ⟨b, off, none⟩, N, cp))) := Lib.hid (by
      rw [← hw1]
      exact St.1.up ⟨rfl, rfl, rfl, Nat.le_refl _, fun _ _ => rfl⟩)
    have Ch1 : Hid (Chg w w1 (Mut N L)) := Lib.hid ((Chg.of_below Bd.out).trans hcd fun b hb => .inl hb)
    have S1 := Lib.hid (Sd.out.chg hcd Cd.out.noInt)
    have Put := Lib.hid (HL.out.put hkN hN.1 hN.2 HQ.out (by rw [Ey.out]; exact hz))
    rw [Ey.out] at Put
    have hms : miss N (c.set k y q) k < fuel := by
      have := miss_lt Put.out.2 hy hz (by rw [set_at]; intro e; have := QP.out.2; rw [e] at this; simp at this; omega)
      have := Hm.out; omega
    obtain ⟨G, hG⟩ : ∃ G, (c.gen k).length = G := ⟨_, rfl⟩
    have HG := Lib.hid hG
    rw [hG] at hgl
    rw [hw1]
    clear hw1 hcd St x1' x2' x5' x3' fz' Bd Sd Cd hG p2 p3
    go_wp2_with fail
    go_loopw [7] (fun i wr => ∃ (j : Nat) (cj : Ch) (Lj : LY), j ≤ G ∧ i = .int .i64 (j : Nat) ∧ Cn wr base g N cj Lj ∧ Chg w wr (Mut N L) ∧ (∀ b, Mut N Lj b → Mut N L b ∨ w.heap.size ≤ b) ∧ Bl N k (c.set k y q) cj q j ∧ Slc wr base (some ⟨b, off, none⟩) N cp q) (fun i _ => G - (intOf i).toNat)
    case atStart => exact ⟨0, _, _, Nat.zero_le _, rfl, C1.out, Ch1.out, fun b hb => .inl hb, .start Put.out.1, S1.out⟩
    case round =>
      clear C1 Ch1 S1
      obtain ⟨j, cj, Lj, hj, rfl, hc, hch, hmt, hbl, hs⟩ := hrel
      have C2 := Lib.hid hc
      have Ch2 := Lib.hid hch
      have Mt2 := Lib.hid hmt
      have Bl2 := Lib.hid hbl
      have S2 := Lib.hid hs
      have eg : (cj.gen k).length = G := by rw [hbl.gen]; exact HG.out
      have x1 := hc.c2
      have x2 := hc.cG hkN
      have gn := hc.gvn hkN
      rw [eg] at gn
      by_cases hlt : j < G
      · obtain ⟨gq, cq, hgv, x3⟩ := hc.cge hkN (y := j) (by rw [eg]; exact hlt)
        have er := hc.ent2 k hkN j (by rw [eg]; exact hlt)
        rw [eg] at hgv
        rw [hgv] at x2
        rcases hd : (Lj.ge k).getD j sd0 with ⟨eA, en, ec⟩
        rw [hd] at x3 er
        obtain ⟨gj, hgj⟩ : ∃ gj, (cj.gen k).getD j [] = gj := ⟨_, rfl⟩
        have hgm : gj ∈ c.gen k := by
          have : cj.gen k = c.gen k := hbl.gen
          rw [← hgj, this, List.getD_eq_getElem?_getD, List.getElem?_eq_getElem (by rw [HG.out]; exact hlt)]; exact List.getElem_mem _
        have hgP := (HL.out.gp gj hgm).1
        rw [hgj] at er
        obtain rfl : en = N := by have h3 : gj.length = en := er.1; have := hgP.2; omega
        have Eg := Lib.hid er
        have GP := Lib.hid hgP
        have Gm := Lib.hid hgm
        have Gj := Lib.hid hgj
        have q0 : (0 : Int) ≤ j := by omega
        have q1 : (j : Int) < G := by omega
        simp only [sval] at x2 x3
        clear hc hch hmt hbl hs gn hgv er hd hgj hgm hgP eg
        go_wp2_with fail
        refine (specComp (some ⟨b, off, none⟩) eA cp ec en q gj wr S2.out.ri_ Eg.out.ri_ (Lib.hid QP.out.2) Eg.out.hid (Lib.hid QP.out.1) hN.2).mono ?_
        rintro e w3 ⟨A3, c4, rfl, s3, b3⟩
        have hbr : base ≤ wr.heap.size := by have := Ch2.out.size; omega
        have S3 : Hid (Slc w3 base A3 en c4 (compL q gj)) := Lib.hid (s3.mono hbr)
        have C3 := Lib.hid (C2.out.up b3)
        have Z3 : Hid (Slc w3 base (some ⟨b, off, none⟩) en cp q) := Lib.hid (S2.out.up b3)
        have Ch3 : Hid (Chg w w3 (Mut en L)) := Lib.hid (Ch2.out.trans (M1 := fun _ => False) (.of_below b3) fun b hb => hb.elim)
        have hz3 := b3.size
        clear s3 b3 C2 S2 x1 x2 x3 q0 q1
        go_wp2_with fail
        have egk : cj.gen k = c.gen k := Bl2.out.gen
        refine (IH (miss en cj k) (by have := miss_mono (N := en) Bl2.out.grw; omega) c4 A3 cj Lj _ w3 C3.out S3.out Bl2.out.low (by rw [egk]; exact HQ.out.mul Gm.out) (by rw [egk, HG.out]; exact hgl) (Nat.le_refl _)).mono ?_
        rintro e w4 ⟨c', L', rfl, hc4, hch4, hmt4, hbp⟩
        have C4 := Lib.hid hc4
        have Ch4 : Hid (Chg w w4 (Mut en L)) := Lib.hid (Ch3.out.trans hch4 Mt2.out)
        have Mt4 : Hid (∀ b, Mut en L' b → Mut en L b ∨ w.heap.size ≤ b) := Lib.hid fun b hb => by
          rcases hmt4 b hb with h | h
          · exact Mt2.out b h
          · exact .inr (by have := Ch3.out.size; omega)
        have Bl4 : Hid (Bl en k (c.set k y q) c' q (j + 1)) := Lib.hid (Bl2.out.next (by
          have e1 : ((c.set k y q).gen k).getD j [] = gj := by rw [← Gj.out, Bl2.out.gen]
          rw [e1]; exact hbp))
        have Z4 : Hid (Slc w4 base (some ⟨b, off, none⟩) en cp q) := Lib.hid (Z3.out.chg hch4 C3.out.noInt)
        clear hc4 hch4 hmt4 hbp egk
        go_wp2_with fail
        go_roundw
        case rel => exact ⟨j + 1, c', L', by omega, by go_num, C4.out, Ch4.out, Mt4.out, Bl4.out, Z4.out⟩
        case measure => simp [intOf]; omega
      · obtain rfl : j = G := by omega
        rcases hgv : Lj.gv k with ⟨eA, en, ec⟩
        rw [hgv] at x2 gn
        have gn2 : en = j := gn
        subst gn2
        have Fin : Hid (Bp N k c cj q) := Lib.hid (Bl.all HL.out hkN hN.1 hN.2 HQ.out (by rw [Ey.out]; exact hz) (by rw [Ey.out, HG.out]; exact Bl2.out))
        simp only [sval] at x2
        clear hc hch hmt hbl hs gn hgv eg
        go_wp2_with fail
        go_end0
        exact ⟨cj, Lj, rfl, C2.out, Ch2.out, Mt2.out, Fin.out⟩
  · have hRN : (c.rep k y).length = N := rep_ne_pos HL.out.rep hz
    obtain rfl : dn = N := by
      have : dn = (c.rep k y).length := en
      omega
    have RP := Lib.hid (HL.out.rep.at_ y hz).2.1
    have HRN := Lib.hid hRN
    have hgt : decide ((0 : Int) < (dn : Int)) = true := by simp; omega
    clear en hRN
    go_enter Try.func102, Try.ntmps102
    go_wp2_with fail
    go_quiet (fail)
    obtain ⟨wd, hwd⟩ : ∃ wd, w.drewN nq = wd := ⟨_, rfl⟩
    have Bd : Hid (Below w.heap.size w wd) := Lib.hid (by rw [← hwd]; exact drewN_below w nq)
    have Sd := Lib.hid (HS.out.up Bd.out)
    have Ed := Lib.hid (Er.out.up Bd.out)
    have Cd := Lib.hid (HC.out.up Bd.out)
    rw [hwd]
    clear hwd HC HS Er x1 x2 x3 x5
    go_wp2_with fail
    refine (specInv dA dc dn (c.rep k y) wd Ed.out HRN (Lib.hid RP.out.1) hN.2).mono ?_
    rintro e w1 ⟨A2, c3, rfl, s2, b2⟩
    have S2 := Lib.hid s2
    have Sd1 := Lib.hid (Sd.out.up b2)
    have C1 := Lib.hid (Cd.out.up b2)
    have B1 : Hid (Below w.heap.size w w1) := Lib.hid (btr Bd.out b2)
    clear s2 b2 Sd Cd Ed
    go_wp2_with fail
    refine (specComp (some ⟨b, off, none⟩) A2 cp c3 dn q (invL (c.rep k y) dn) w1 Sd1.out.ri_ S2.out.ri_ (Lib.hid QP.out.2) S2.out.hid (Lib.hid QP.out.1) hN.2).mono ?_
    rintro e w2 ⟨A3, c4, rfl, s3, b3⟩
    have S3 := Lib.hid s3
    have C2 := Lib.hid (C1.out.up b3)
    have B2 : Hid (Below w.heap.size w w2) := Lib.hid (btr B1.out b3)
    clear s3 b3 C1
    have eiv : invL (c.rep k y) dn = iv (c.rep k y) := by unfold iv; rw [HRN.out]
    rw [eiv] at S3
    have Rst := Lib.hid (HL.out.rest hkN hN.1 hN.2 HQ.out (by rw [Ey.out]; exact hz))
    have S3b : Hid (Slc w2 base A3 dn c4 (compL q (iv (c.rep k y)))) := Lib.hid (S3.out.mono (by have := B1.out.size; omega))
    rw [Ey.out] at Rst
    have wk : IntKind.i64.wrap ((k : Int) + 1) = ((k + 1 : Nat) : Int) := by rw [IntKind.wrap_i64]; omega
    go_wp2_with fail
    have ek : ((k : Int) + 1) = ((k + 1 : Nat) : Int) := by omega
    rw [ek]
    refine (AG c4 A3 c L _ w2 C2.out S3b.out Rst.out.1 Rst.out.2 HL.out.up).mono ?_
    rintro e w3 ⟨c', L', rfl, hc3, hch, hmt, hap⟩
    have C3 := Lib.hid hc3
    have Ch3 : Hid (Chg w w3 (Mut dn L)) := Lib.hid ((Chg.of_below B2.out).trans hch fun b hb => .inl hb)
    have Mt : Hid (∀ b, Mut dn L' b → Mut dn L b ∨ w.heap.size ≤ b) := Lib.hid fun b hb => by
      have := B2.out.size
      rcases hmt b hb with h | h
      · exact .inl h
      · exact .inr (by omega)
    have Bp3 : Hid (Bp dn k c c' q) := Lib.hid (.old HL.out hkN hN.1 hN.2 HQ.out (by rw [Ey.out]; exact hz) (by rw [Ey.out]; exact hap))
    clear hc3 hch hmt hap
    go_wp2_with fail
    (try simp only [Exit.inBlock, Exit.then]); refine bodyPost_ret (results_none rfl _ _ _) rfl ?_
    exact ⟨c', L', rfl, C3.out, Ch3.out, Mt.out, Bp3.out⟩
theorem specAddProd (base g N k : Nat) (hkN : k < N) (AG : AGs base g N (k + 1)) (fuel : Nat) : APs base g N k fuel := by
  induction fuel using Nat.strongRecOn with
  | ind f ih => exact specAddProd1 base g N k hkN AG f ih
end Go.Proofs.Ytooafmifbplbhaa
