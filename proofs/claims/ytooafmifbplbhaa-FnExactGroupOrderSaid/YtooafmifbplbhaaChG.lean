/- The model's addGenerator. Conditions: at most 20 points; the chain whole from the level on. -/
import Derived.Test.YtooafmifbplbhaaChP
import Derived.Test.YtooafmifbplbhaaChA
import Derived.Deep.CutRange
namespace Go.Proofs.Ytooafmifbplbhaa
open Go.RowKit

set_option maxHeartbeats 1000000 in
theorem specAddGenTop (base g N : Nat) (h1 : 1 ≤ N) (h2 : N ≤ 20) : AGs base g N N := by
  intro cp A c L p w hc hs hP hF hU
  have x0 := hc.c0
  have d0 : decide ((N : Int) ≤ (N : Int)) = true := by simp
  have C := Lib.hid hc
  have Ap0 := Lib.hid (Ap.top hU h1 h2 hP hF)
  clear hc hs hP hF hU
  go_enter Try.func83, Try.ntmps83
  go_wp2_with fail
  (try simp only [Exit.inBlock, Exit.then]); refine bodyPost_ret (results_none rfl _ _ _) rfl ?_
  exact ⟨c, L, rfl, C.out, .refl _ _, fun b hb => .inl hb, Ap0.out⟩

set_option maxHeartbeats 4000000 in
set_option maxRecDepth 100000 in
theorem specAddGen1 (base g N k : Nat) (hkN : k < N) (AP : ∀ fuel, APs base g N k fuel) : AGs base g N k := by
  intro cp A c L p w hc hs hP hF hU
  have hN := hP.pos
  have hb0 : base ≤ w.heap.size := by have := hc.ltR; omega
  have HC := Lib.hid hc
  have HS := Lib.hid hs
  have HP := Lib.hid hP
  have HF := Lib.hid hF
  have HU := Lib.hid hU
  have x0 := hc.c0
  have d0 : decide ((N : Int) ≤ (k : Int)) = false := by simp; omega
  clear hc hs hP hF hU
  go_enter Try.func83, Try.ntmps83
  go_wp2_with fail
  refine (specSift base g N k cp A c L p w HC.out HS.out.ri_ HP HF (by omega) (Lib.hid HU.out.rep)).mono ?_
  rintro e w1 ⟨A1, n1, c1, lvl, rfl, hlv, hle, b1⟩
  have C1 := Lib.hid (HC.out.up b1)
  have S1 := Lib.hid (HS.out.up b1)
  have B1 := Lib.hid b1
  have y0 := C1.out.c0
  clear b1 HC HS x0 d0
  by_cases hl : lvl = N
  · have Ap0 := Lib.hid (Ap.same HU.out (by omega) hN.1 hN.2 (hlv.1 hl))
    subst hl
    have e0 : ((lvl : Int) == (lvl : Int)) = true := by simp
    clear hlv hle
    go_wp2_with fail
    (try simp only [Exit.inBlock, Exit.then]); refine bodyPost_ret (results_none rfl _ _ _) rfl ?_
    exact ⟨c, L, rfl, C1.out, .of_below B1.out, fun b hb => .inl hb, Ap0.out⟩
  · have NS : Hid (¬ Sv N c k p) := Lib.hid fun h => hl (hlv.2 h)
    have e0 : ((lvl : Int) == (N : Int)) = false := by simp; omega
    clear hlv hle hl
    obtain ⟨G, hG⟩ : ∃ G, (c.gen k).length = G := ⟨_, rfl⟩
    have HG := Lib.hid hG
    have hG4 : G ≤ 400 := by
      rw [← hG]
      have h1 := HU.out.len k (Nat.le_refl _) hkN
      have h2 := cnt_le N c k
      have h3 := Nat.mul_le_mul hN.2 hN.2
      omega
    have y2 := C1.out.c2
    have y3 := C1.out.cG hkN
    have ho := C1.out.row2 k hkN
    have fz := C1.out.own2.frozenAt k
    rw [hG] at ho
    rcases hgv : L.gv k with ⟨gA, gn, gc⟩
    have gn2 := C1.out.gvn hkN
    rw [hgv, hG] at gn2
    have gn3 : gn = G := gn2
    subst gn3
    rw [hgv] at y3 ho
    simp only [sval] at y3
    have HO := Lib.hid ho
    have p0 : (0 : Int) ≤ k := by omega
    have p1 : (k : Int) < N := by omega
    obtain ⟨b, hA⟩ : ∃ b, A = some ⟨b, 0, none⟩ := by
      rcases S1.out.at_ with ⟨_, _, h0, _⟩ | ⟨b, rfl, _⟩
      · omega
      · exact ⟨b, rfl⟩
    subst hA
    have neg : some g ≠ (Value.slice gA gn gc).ownBlock := fun e => C1.out.g_mut (.inr (.inr ⟨k, hkN, by rw [hgv]; exact e.symm⟩))
    have neG : some L.G ≠ (Value.slice gA gn gc).ownBlock := fun e => C1.out.gv_ne_G hkN (by rw [hgv]; exact e.symm)
    have hgl := C1.out.blk.lt
    have hGl := C1.out.ltG.2
    have HGv := Lib.hid hgv
    have bw1 : base ≤ w1.heap.size := by have := B1.out.size; omega
    clear hG gn2 ho hgv
    go_wp2_with fail
    have hLit : (w1.alloc (.cells #[.slice (some ⟨b, 0, none⟩) N cp] 25)).cell? ⟨w1.heap.size, 0, none⟩ = some (sval (some ⟨b, 0, none⟩, N, cp)) := by rw [World.cell?_alloc_at _ _ _ _ rfl]; rfl
    have PA : Hid (∀ (gA2 : Option Addr) (gc2 : Nat) (w2 : World), w2.ownsRow base 25 1 (.slice gA2 (gn + 1) gc2) (gn + 1) ((L.ge k).map sval ++ [sval (some ⟨b, 0, none⟩, N, cp)]) → (w1.alloc (.cells #[.slice (some ⟨b, 0, none⟩) N cp] 25)).grownBy w2 (Value.slice gA gn gc).ownBlock →
        ((Value.slice gA2 (gn + 1) gc2).ownBlock = (Value.slice gA gn gc).ownBlock ∨ (Value.slice gA2 (gn + 1) gc2).ownBlock = some (w1.alloc (.cells #[.slice (some ⟨b, 0, none⟩) N cp] 25)).heap.size) →
        ∃ L', Cn (w2.setCell ⟨L.G, k, none⟩ (.slice gA2 (gn + 1) gc2)) base g N (c.push k p) L' ∧ Chg w (w2.setCell ⟨L.G, k, none⟩ (.slice gA2 (gn + 1) gc2)) (Mut N L) ∧ (∀ b, Mut N L' b → Mut N L b ∨ w.heap.size ≤ b) ∧ Slc (w2.setCell ⟨L.G, k, none⟩ (.slice gA2 (gn + 1) gc2)) base (some ⟨b, 0, none⟩) N cp p) := Lib.hid fun gA2 gc2 w2 h1 h2 h3 => by
      obtain ⟨L', a1, a2, a3, a4⟩ := C1.out.pushA hkN HGv.out HG.out (e := (some ⟨b, 0, none⟩, N, cp)) S1.out h1 h2 h3
      refine ⟨L', a1, (Chg.of_below B1.out).trans a2 fun b hb => .inl hb, fun q hq => ?_, a4⟩
      rcases a3 q hq with e | e
      · exact .inl e
      · exact .inr (Nat.le_trans B1.out.size e)
    go_cut [] from 30 to 45 (fun wx => ∃ L', Cn wx base g N (c.push k p) L' ∧ Chg w wx (Mut N L) ∧ (∀ b, Mut N L' b → Mut N L b ∨ w.heap.size ≤ b) ∧ Slc wx base (some ⟨b, 0, none⟩) N cp p)
    case first =>
      go_region_law (refine step_appV rfl (.tmp 41) (.tmp 43) rfl base (.slice gA gn gc) gn ((L.ge k).map sval) ?_ (HO.out.alloc (.cells #[.slice (some ⟨b, 0, none⟩) N cp] 25)) w1.heap.size (some ⟨b, 0, none⟩, N, cp) ?_ hLit ?_ ?_ ?_; (simp [Act.eval, Act.put]); (simp [Act.eval, Act.put]); (omega); (simp; omega); (intro gA2 gc2 w2 ho2 hg2 hat2; have hg3 := grown_undrewC hg2; have z2 := hg3.cell (a := ⟨g, 2, none⟩) ((World.cell?_alloc_lt w1 _ _ hgl).trans y2) neg; have z3 := hg3.cell (a := ⟨L.G, k, none⟩) ((World.cell?_alloc_lt w1 _ _ hGl).trans y3) neG; have fz2 : w2.frozen? ⟨L.G, k, none⟩ = false := (World.frozen?_of_block (a := ⟨L.G, k, none⟩) ((hg3.block L.G (by simp; omega) neG).trans (Below.heap_alloc w1 _ L.G hGl))).trans fz))
      all_goals (go_wp2_with fail; go_meet; exact PA.out gA2 gc2 w2 ho2 hg3 hat2)
    case rest =>
      obtain ⟨L3, hc3, hch3, hmt3, hs3⟩ := hcut
      have C3 := Lib.hid hc3
      have Ch3 := Lib.hid hch3
      have Mt3 := Lib.hid hmt3
      have S3 := Lib.hid hs3
      have hz3 := hch3.size
      have P3 : Hid (Low N (c.push k p) k) := Lib.hid (HU.out.pushed hkN hN.1 hN.2 HP.out HF.out)
      obtain ⟨cp1, hcp1⟩ : ∃ cp1, c.push k p = cp1 := ⟨_, rfl⟩
      have gl1 : (cp1.gen k).length = gn + 1 := by rw [← hcp1, push_at, List.length_append, HG.out]; rfl
      have pg1 : p ∈ cp1.gen k := by rw [← hcp1, push_at]; simp
      have Cp := Lib.hid hcp1
      rw [hcp1] at C3 P3
      have Gl1 := Lib.hid gl1
      have Pg1 := Lib.hid pg1
      have K0 : Hid (Kn (wc.alloc (.cells #[] 25)) wc.heap.size base (some ⟨wc.heap.size, 0, none⟩) 0 0 [] (knL cp1 k 0)) := Lib.hid (Kn.lit0 wc _ base (Nat.le_refl _))
      have B0 : Hid (Below wc.heap.size wc (wc.alloc (.cells #[] 25))) := Lib.hid ((Below.refl _ _).alloc (Nat.le_refl _) _)
      clear hc3 hch3 hmt3 hs3 hcp1 gl1 pg1 C1 S1 y0 y2 y3 fz neg neG hgl hGl bw1 hLit PA
      go_wp2_with fail
      go_loopw [8, 9] (fun kn i wr => ∃ (y m cc : Nat) (A : Option Addr) (ds : List SV), y ≤ N ∧ i = .int .i64 (y : Nat) ∧ kn = .slice A m cc ∧ Kn wr wc.heap.size base A m cc ds (knL cp1 k y) ∧ Below wc.heap.size wc wr) (fun _ i _ => N - (intOf i).toNat)
      case atStart => exact ⟨0, _, _, _, [], Nat.zero_le _, rfl, rfl, K0.out, B0.out⟩
      case round =>
        clear K0 B0
        obtain ⟨y, m, cc, kA, ds, hyN, rfl, rfl, hkn, bel⟩ := hrel
        have Knw := Lib.hid hkn
        have Be := Lib.hid bel
        have C4 := Lib.hid (C3.out.up bel)
        have x0 := C4.out.c0
        have hm20 : m ≤ 20 := by rw [← hkn.lr]; have := knL_len (c := cp1) (k := k) y; omega
        by_cases hlt : y < N
        · have x1 := C4.out.c1
          have x2 := C4.out.cR hkN
          have x3 := C4.out.cro hkN hlt
          have en := C4.out.enn hkN hlt
          have er := C4.out.ent1 k hkN y hlt
          rcases hd : (L3.en k).getD y sd0 with ⟨dA, dn, dc⟩
          rw [hd] at x3 en er
          have Er := Lib.hid er
          simp only [sval] at x3
          have q0 : (0 : Int) ≤ y := by omega
          have q1 : (y : Int) < N := by omega
          by_cases hz : cp1.rep k y = []
          · have hdn : dn = 0 := by
              have : dn = (cp1.rep k y).length := en
              rw [this, hz]; rfl
            subst hdn
            have d0 : decide ((0 : Int) < 0) = false := by decide
            have Kno := Lib.hid (knL_no hz)
            clear hkn bel hd en er
            go_wp2_with fail
            go_roundw
            case rel => exact ⟨y + 1, m, cc, kA, ds, by omega, by go_num, rfl, by rw [Kno.out]; exact Knw.out, Be.out⟩
            case measure => simp [intOf]; omega
          · obtain rfl : dn = N := by
              have h1 : dn = (cp1.rep k y).length := en
              have h2 := rep_ne_pos P3.out.rep hz
              omega
            have d0 : decide ((0 : Int) < (dn : Int)) = true := by simp; omega
            have Kys := Lib.hid (knL_yes hz)
            have hLit : Hid ((wr.alloc (.cells #[.slice dA dn dc] 25)).cell? ⟨wr.heap.size, 0, none⟩ = some (sval (dA, dn, dc))) := Lib.hid (by rw [World.cell?_alloc_at _ _ _ _ rfl]; rfl)
            have hzr := bel.size
            have Ka : Hid (Kn (wr.alloc (.cells #[.slice dA dn dc] 25)) wc.heap.size base kA m cc ds (knL cp1 k y)) := Lib.hid (Knw.out.up ((Below.refl _ _).alloc (Nat.le_refl _) _))
            have Ea : Hid (Slc (wr.alloc (.cells #[.slice dA dn dc] 25)) base dA dn dc (cp1.rep k y)) := Lib.hid (Er.out.up ((Below.refl _ _).alloc (Nat.le_refl _) _))
            have Ba : Hid (Below wc.heap.size wc (wr.alloc (.cells #[.slice dA dn dc] 25))) := Lib.hid (Be.out.alloc hzr _)
            clear hkn bel hd en er
            go_wp2_with (at_builtin; refine wpList_appV rfl _ _ rfl wc.heap.size (.slice kA m cc) m (ds.map sval) rfl Ka.out.own wr.heap.size (dA, dn, dc) rfl hLit.out (by omega) (by simp; omega) ?_; intro A5 c5 w5 ho5 hg5 hat5)
            have K5 : Hid (Kn w5 wc.heap.size base A5 (m + 1) c5 (ds ++ [(dA, dn, dc)]) (knL cp1 k (y + 1))) := Lib.hid (by rw [Kys.out]; exact Ka.out.snoc Ea.out ho5 hg5)
            have B5 : Hid (Below wc.heap.size wc w5) := Lib.hid (Ba.out.grown hg5 (by simp; omega) (fun j hj => (Ka.out.lt_ j hj).1))
            clear ho5 hg5 hat5
            go_wp2_with fail
            go_roundw
            case rel => exact ⟨y + 1, m + 1, c5, A5, _, by omega, by go_num, rfl, K5.out, B5.out⟩
            case measure => simp [intOf]; omega
        · obtain rfl : y = N := by omega
          have lkn := hkn.lr
          obtain ⟨M, hM⟩ : ∃ M, m = M := ⟨_, rfl⟩
          subst hM
          have Kb : Hid (∀ b, (Value.slice kA m cc).ownBlock = some b → ¬ Mut y L3 b) := Lib.hid fun b hb hm => by
            have h1 := (Knw.out.lt_ b hb).1
            have h2 := (C3.out.mut hm).2
            omega
          have S4 : Hid (Slc wr base (some ⟨b, 0, none⟩) y cp p) := Lib.hid (S3.out.up Be.out)
          have Ch4 : Hid (Chg w wr (Mut y L)) := Lib.hid (Ch3.out.trans (M1 := fun _ => False) (.of_below Be.out) fun b hb => hb.elim)
          have Lk := Lib.hid lkn
          clear hkn bel lkn S3 Ch3 C3
          go_wp2_with fail
          obtain ⟨wl, rfl⟩ : ∃ wl, wl = wr := ⟨_, rfl⟩
          go_loopw [10] (fun i w5 => ∃ (j : Nat) (cj : Ch) (Lj : LY), j ≤ m ∧ i = .int .i64 (j : Nat) ∧ Cn w5 base g y cj Lj ∧ Chg w w5 (Mut y L) ∧ (∀ b, Mut y Lj b → Mut y L b ∨ w.heap.size ≤ b) ∧ Al y k cp1 cj p j ∧ Slc w5 base (some ⟨b, 0, none⟩) y cp p ∧ Kn w5 wc.heap.size base kA m cc ds (knL cp1 k y) ∧ ∀ b, (Value.slice kA m cc).ownBlock = some b → ¬ Mut y Lj b) (fun i _ => m - (intOf i).toNat)
          case atStart => exact ⟨0, _, _, Nat.zero_le _, rfl, C4.out, Ch4.out, Mt3.out, .start P3.out, S4.out, Knw.out, Kb.out⟩
          case round =>
            clear C4 Ch4 Mt3 S4 Knw Kb Be x0
            obtain ⟨j, cj, Lj, hj, rfl, hc5, hch5, hmt5, hal5, hs5, hkn5, hkb5⟩ := hrel
            have C5 := Lib.hid hc5
            have Ch5 := Lib.hid hch5
            have Mt5 := Lib.hid hmt5
            have Al5 := Lib.hid hal5
            have S5 := Lib.hid hs5
            have K5 := Lib.hid hkn5
            have Kb5 := Lib.hid hkb5
            by_cases hlt : j < m
            · obtain ⟨q, hq, x1⟩ := hkn5.at_ hlt
              have er := hkn5.ent j hlt
              rcases hd : ds.getD j sd0 with ⟨dA, dn, dc⟩
              rw [hd] at x1 er
              have kn1 := kn_mb P3.out (j := j) (by rw [Lk.out]; exact hlt) Pg1.out
              obtain ⟨rj, hrj⟩ : ∃ rj, (knL cp1 k y).getD j [] = rj := ⟨_, rfl⟩
              rw [hrj] at er kn1
              obtain rfl : dn = y := by have h1 : rj.length = dn := er.1; have := kn1.2.2; omega
              have Er := Lib.hid er
              have Mb1 := Lib.hid kn1.1
              have Rp := Lib.hid kn1.2
              have Rj := Lib.hid hrj
              have Hq := Lib.hid hq
              simp only [sval] at x1
              have q0 : (0 : Int) ≤ j := by omega
              have q1 : (j : Int) < m := by omega
              clear hc5 hch5 hmt5 hal5 hs5 hkn5 hkb5 er hd kn1 hrj
              subst hq
              go_wp2_with fail
              refine (specComp dA (some ⟨b, 0, none⟩) dc cp dn rj p wr Er.out.ri_ S5.out.ri_ (Lib.hid Rp.out.2) (Lib.hid HP.out.2) (Lib.hid Rp.out.1) hN.2).mono ?_
              rintro e w6 ⟨A6, c6, rfl, s6, b6⟩
              have C6 := Lib.hid (C5.out.up b6)
              have S6 : Hid (Slc w6 base A6 dn c6 (compL rj p)) := Lib.hid (s6.mono (by have := Ch5.out.size; omega))
              have P6 := Lib.hid (S5.out.up b6)
              have K6 := Lib.hid (K5.out.up b6)
              have Ch6 : Hid (Chg w w6 (Mut dn L)) := Lib.hid (Ch5.out.trans (M1 := fun _ => False) (.of_below b6) fun b hb => hb.elim)
              have hz6 := b6.size
              clear s6 b6 C5 S5 K5 x1 q0 q1
              go_wp2_with fail
              have egk : cj.gen k = cp1.gen k := Al5.out.gen
              refine (AP (miss dn cj k) c6 A6 cj Lj _ w6 C6.out S6.out Al5.out.low (by rw [egk]; exact Mb1.out) (by rw [egk, Gl1.out]; omega) (Nat.le_refl _)).mono ?_
              rintro e w7 ⟨c', L', rfl, hc7, hch7, hmt7, hbp⟩
              have C7 := Lib.hid hc7
              have Ch7 : Hid (Chg w w7 (Mut dn L)) := Lib.hid (Ch6.out.trans hch7 Mt5.out)
              have Mt7 : Hid (∀ b, Mut dn L' b → Mut dn L b ∨ w.heap.size ≤ b) := Lib.hid fun b hb => by
                rcases hmt7 b hb with h | h
                · exact Mt5.out b h
                · exact .inr (by have := Ch6.out.size; omega)
              have Al7 : Hid (Al dn k cp1 c' p (j + 1)) := Lib.hid (Al5.out.next (by rw [Rj.out]; exact hbp))
              have P7 := Lib.hid (P6.out.chg hch7 C6.out.noInt)
              have K7 := Lib.hid (K6.out.chg hch7 C6.out.noInt Kb5.out)
              have Kb7 : Hid (∀ b, (Value.slice (some ⟨q, 0, none⟩) m cc).ownBlock = some b → ¬ Mut dn L' b) := Lib.hid fun b hb hm => by
                rcases hmt7 b hm with h | h
                · exact Kb5.out b hb h
                · have := (K6.out.lt_ b hb).2; omega
              clear hc7 hch7 hmt7 hbp egk
              go_wp2_with fail
              go_roundw
              case rel => exact ⟨j + 1, c', L', by omega, by go_num, C7.out, Ch7.out, Mt7.out, Al7.out, P7.out, K7.out, Kb7.out⟩
              case measure => simp [intOf]; omega
            · obtain rfl : j = m := by omega
              have Fin : Hid (Ap y k c cj p) := Lib.hid (Al.all HU.out hkN hN.1 hN.2 HP.out HF.out NS.out (by rw [Cp.out, Lk.out]; exact Al5.out))
              clear hc5 hch5 hmt5 hal5 hs5 hkn5 hkb5
              go_wp2_with fail
              go_end0
              exact ⟨cj, Lj, rfl, C5.out, Ch5.out, Mt5.out, Fin.out⟩
end Go.Proofs.Ytooafmifbplbhaa
