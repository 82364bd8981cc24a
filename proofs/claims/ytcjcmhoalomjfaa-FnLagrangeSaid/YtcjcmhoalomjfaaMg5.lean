/- Part 5 of the texts: SbD, EqI, Less, SbR, Sz2, SSk, Hel4, WalkE6, PcM. No condition of its own: each text tells its own. -/
import Derived.Test.YtcjcmhoalomjfaaMg4
import Derived.Test.YtcjcmhoalomjfaaMg3
import Derived.Test.YtcjcmhoalomjfaaMg1
import Derived.Test.YtcjcmhoalomjfaaMg2
import Derived.Deep.RegionHeld3
import Derived.Deep.Onto
import Derived.Deep.RegionLaw
import Derived.BigQuiet
import Derived.WalkSpells
set_option linter.unusedVariables false
set_option linter.unusedSimpArgs false

/- DerivedSubgroupOrder of the model. Conditions: at most 1048576 lists of at most 1048576 numbers. -/
namespace Go.Proofs.Ytcjcmhoalomjfaa
open Go.RowKit

section
variable {w w' : World} {base bo bi g N n m cc : Nat} {c : Ch} {L : LY} {A : Option Addr} {us : List SV} {W : List (List Int)} {S : Nat → Prop}
/-- A chain is kept where blocks turn that are none of its own. -/
theorem Cn.side (h : Cn w base g N c L) (hc : Chg w w' S) (hg : ¬ S g) (hR : ¬ S L.R) (hM : ∀ b, Mut N L b → ¬ S b) (hI : NoInt w S) : Cn w' base g N c L :=
  ⟨(hc.block g h.blk.lt hg).trans h.blk, h.hg, ownsRow_chg h.own1 hc fun k e => by injection e with e; exact e ▸ hR,
    fun i hi => ownsRow_chg (h.row1 i hi) hc fun k e => by injection e with e; exact hM k (.inr (.inl ⟨i, hi, e.symm⟩)), h.len1, fun i hi y hy => (h.ent1 i hi y hy).chg hc hI,
    ownsRow_chg h.own2 hc fun k e => by injection e with e; exact hM k (.inl e.symm),
    fun i hi => ownsRow_chg (h.row2 i hi) hc fun k e => hM k (.inr (.inr ⟨i, hi, e⟩)), h.len2, fun i hi y hy => (h.ent2 i hi y hy).chg hc hI, h.dRG, h.dro, h.drg, h.dgv⟩
theorem Cn.mono (h : Cn w base g N c L) {base' : Nat} (hb : base' ≤ base) : Cn w base' g N c L :=
  ⟨h.blk, Nat.le_trans hb h.hg, World.ownsRow.mono h.own1 hb, fun i hi => World.ownsRow.mono (h.row1 i hi) hb, h.len1, fun i hi y hy => (h.ent1 i hi y hy).mono hb,
    World.ownsRow.mono h.own2 hb, fun i hi => World.ownsRow.mono (h.row2 i hi) hb, h.len2, fun i hi y hy => (h.ent2 i hi y hy).mono hb, h.dRG, h.dro, h.drg, h.dgv⟩
/-- Beside a slice of slices that is appended to. -/
theorem Cn.beside (h : Cn w base g N c L) {v : Value} {xs : List Value} (ho : w.ownsRow bo 33 1 v n xs) (hg : w.grownBy w' v.ownBlock) (hM : ∀ b, v.ownBlock = some b → ¬ Mut N L b) : Cn w' base g N c L := by
  have ht : ∀ b, v.ownBlock = some b → ∃ cur, w.heap[b]? = some (.cells cur 33 (0, 0)) := fun b e => ownsRow_typ ho e
  refine h.side (S := fun b => v.ownBlock = some b) (.of_grown hg fun k e => e) (fun e => ?_) (fun e => ?_) (fun b hb e => hM b e hb) (fun b e => ?_)
  · obtain ⟨cur, e1⟩ := ht g e
    have e2 := h.blk
    unfold Blk at e2
    rw [e1] at e2
    injection e2 with e2
    injection e2 with _ e2
    exact absurd e2 (by decide)
  · obtain ⟨cur, e1⟩ := ht L.R e
    obtain ⟨cur2, e2⟩ := ownsRow_typ h.own1 (k := L.R) rfl
    rw [e1] at e2
    injection e2 with e2
    injection e2 with _ e2
    exact absurd e2 (by decide)
  · obtain ⟨cur, e1⟩ := ht b e
    exact ⟨cur, _, _, e1, by decide⟩
theorem SS.besideC (h : SS w bo bi A n cc us W) (hc : Chg w w' S) (hI : NoInt w S) (hM : ∀ b, (Value.slice A n cc).ownBlock = some b → ¬ S b) : SS w' bo bi A n cc us W :=
  ⟨ownsRow_chg h.own hc hM, h.lv, h.lx, fun i hi => (h.row i hi).chg hc hI, h.dis⟩
end

set_option maxHeartbeats 16000000 in
set_option maxRecDepth 100000 in
theorem ctDer : CtImI 51 IsDer := by
  intro a A n c vs xss w g ha
  have HX := Lib.hid g.rr
  have hlx : Hid (xss.length = n) := Lib.hid g.rr.lx
  have hn := g.hn
  have hl := Lib.hid g.hl
  clear g
  go_enter Try.func51, Try.ntmps51
  go_wp2_with fail
  refine (specGS a A n c vs xss w HX.out hn hl ha).mono ?_
  rintro e w1 ⟨rfl, b1⟩
  have B1 := Lib.hid b1
  have X1 := Lib.hid (HX.out.up b1)
  clear b1
  rcases hs : gB a xss with _ | _
  · have Fin : Hid (IsDer a xss 0) := Lib.hid (.inr ⟨hs, rfl⟩)
    clear hs
    go_wp2_with fail
    go_ret
    exact ⟨_, rfl, Fin.out, B1.out⟩
  · obtain ⟨N, rfl, hN1, hN2, hg8, hpm, hok⟩ := gB_pm hs
    have Hs := Lib.hid hs
    have Ok : Hid (∀ g ∈ xss, Pn N g) := Lib.hid hok
    have hn8 : n ≤ 8 := by rw [← hlx.out]; exact hg8
    clear hs hpm hok hg8 HX
    have D0 := Lib.hid (SS.lit0 w1 w1.heap.size w1.heap.size (Nat.le_refl _))
    go_wp2_with fail
    go_loopg [5, 6] n (fun gg v iv wr => ∃ (i m cc : Nat) (A' : Option Addr) (us : List SV) (W : List (List Int)), i ≤ n ∧ n - i ≤ gg ∧ iv = .int .i64 (i : Nat) ∧ v = .slice A' m cc ∧ SS wr w1.heap.size w1.heap.size A' m cc us W ∧ (∀ s ∈ W, ∃ p ∈ xss, ∃ q ∈ xss, s = cmt p q) ∧ (∀ t u, u < t → t < i → cmt (xss.getD t []) (xss.getD u []) ∈ W) ∧ W.length ≤ 8 * i ∧ Below w1.heap.size w1 wr)
    case atStart => exact ⟨0, _, _, _, _, _, Nat.zero_le _, by omega, rfl, rfl, D0.out, fun s hs => (by cases hs), fun t u _ h => absurd h (by omega), Nat.le_refl _, (Below.refl _ _).alloc (Nat.le_refl _) _⟩
    case round =>
      clear D0
      obtain ⟨i, m, cc, A', us, W, hi, hgg, rfl, rfl, hss, hcm, hpr, hlw, bel⟩ := hrel
      have Ss0 := Lib.hid hss
      have Cm0 := Lib.hid hcm
      have Pr0 := Lib.hid hpr
      have Be0 := Lib.hid bel
      have hlm0 : Hid (m = W.length) := Lib.hid hss.lx.symm
      clear hss hcm hpr bel
      by_cases hlt : i < n
      · obtain ⟨b, off, A5, l, c5, p, eA, hb, hv, ep, x1, rp, lp, hl5⟩ := X1.out.at_ hlt
        subst eA
        have hpm : p ∈ xss := by rw [← ep]; exact getD_memL (by rw [hlx.out]; exact hlt)
        have hpP := Ok.out p hpm
        obtain rfl : l = N := by have := hpP.2; omega
        have Rp := Lib.hid rp
        have PP := Lib.hid hpP
        have Pm_ := Lib.hid hpm
        have Ep := Lib.hid ep
        have Hb := Lib.hid hb
        have Xi := Lib.hid x1
        have q0 : (0 : Int) ≤ i := by omega
        have q1 : (i : Int) < n := by omega
        clear hv ep hb rp hpP hpm x1
        go_wp2_with fail
        go_loopg [5, 7] n (fun gg v kv wr => ∃ (k m cc : Nat) (A' : Option Addr) (us : List SV) (W : List (List Int)), k ≤ i ∧ i - k ≤ gg ∧ kv = .int .i64 (k : Nat) ∧ v = .slice A' m cc ∧ SS wr w1.heap.size w1.heap.size A' m cc us W ∧ (∀ s ∈ W, ∃ p ∈ xss, ∃ q ∈ xss, s = cmt p q) ∧ (∀ t u, u < t → t < i → cmt (xss.getD t []) (xss.getD u []) ∈ W) ∧ (∀ u, u < k → cmt p (xss.getD u []) ∈ W) ∧ W.length ≤ 8 * i + k ∧ Below w1.heap.size w1 wr)
        case atStart => exact ⟨0, _, _, _, _, _, Nat.zero_le _, by omega, rfl, rfl, Ss0.out, Cm0.out, Pr0.out, fun u h => absurd h (by omega), by omega, Be0.out⟩
        case round =>
          clear Ss0 Cm0 Pr0 Be0 hlm0 hlw
          obtain ⟨k, m, cc, A', us, W, hk, hg2, rfl, rfl, hss, hcm, hpr, hpk, hlw, bel⟩ := hrel
          have Ss := Lib.hid hss
          have Cm := Lib.hid hcm
          have Pr := Lib.hid hpr
          have Pk := Lib.hid hpk
          have Be := Lib.hid bel
          have hlm : Hid (m = W.length) := Lib.hid hss.lx.symm
          have hzw := bel.size
          clear hss hcm hpr hpk bel
          by_cases hkt : k < i
          · obtain ⟨b', off', A6, l2, c6, q, eA, hb', hv, eq_, y1, rq, lq, hl6⟩ := X1.out.at_ (show k < n by omega)
            injection eA with eA
            injection eA with eb eo _
            subst eb eo
            have hqm : q ∈ xss := by rw [← eq_]; exact getD_memL (by rw [hlx.out]; omega)
            have hqP := Ok.out q hqm
            obtain rfl : l2 = l := by have := hqP.2; omega
            have QQ := Lib.hid hqP
            have Qm := Lib.hid hqm
            have Eq := Lib.hid eq_
            have Yk := Lib.hid y1
            have Rq := Lib.hid rq
            have Rq2 := Lib.hid (rq.up Be.out)
            have Rp2 := Lib.hid (Rp.out.up Be.out)
            have x2 := (Be.out.cell (p := ⟨b, off + i, none⟩) Hb.out).trans Xi.out
            have y2 := (Be.out.cell (p := ⟨b, off + k, none⟩) Hb.out).trans Yk.out
            have r0 : (0 : Int) ≤ k := by omega
            have r1 : (k : Int) < n := by omega
            have hm9 : m ≤ 100 := by have := hlm.out; omega
            have CC : Hid (Pn l2 (cmt p q)) := Lib.hid (cmt_pn PP.out QQ.out)
            clear hv eq_ hb' rq hqP hqm y1
            go_wp2_with fail
            go_region_held3 (fun w' => w'.cell? ⟨b, off + i, none⟩ = some (.slice A5 l2 c5) ∧ w'.cell? ⟨b, off + k, none⟩ = some (.slice A6 l2 c6))
              (first | exact ⟨x2, y2⟩ | exact hS1 | exact hS2 | exact hS3 | exact hS4 | exact hS5 | exact hS6 | go_keep)
              (first
                | (have _q := Ss9; clear _q; refine step_appV rfl (.tmp 27) (.tmp 49) rfl w1.heap.size (.slice A' m cc) m (us.map sval) ?_ ((Ss9.out.alloc (.cells #[.slice A9 l2 c9] 33)).own) w9.heap.size (A9, l2, c9) ?_ ((Blk.new w9 _ _).cell 0) ?_ ?_ ?_; (simp [Act.eval, Act.put]); (simp [Act.eval, Act.put]); (omega); (have hz := b9.size; simp; omega); intro A10 c10 w10 o10 g10 h10
                   have B10 : Below w1.heap.size w1 w10 := (((btr Be.out b9).alloc (btr Be.out b9).size _).grown g10 (by have := (btr Be.out b9).size; simp; omega) (fun j hj => (Ss.out.lt_ j hj).1))
                   have hS6 := And.intro ((B10.cell (p := ⟨b, off + i, none⟩) Hb.out).trans Xi.out) ((B10.cell (p := ⟨b, off + k, none⟩) Hb.out).trans Yk.out))
                | (have _q := s8; clear _q; go_at_call 65; refine (specComp A7 A8 c7 c8 l2 (compL (iv p) (iv q)) (compL p q) _ ?_ ?_ ?_ ?_ ?_ hN2).mono ?_; (exact s7.ri_.up b78); (exact s8.ri_); (exact s7.hid); (exact s8.hid); (exact Lib.hid (PP.out.iv.comp QQ.out.iv).1); rintro e w9 ⟨A9, c9, rfl, s9, b9'⟩
                   have b9 : Below wr.heap.size wr w9 := btr b8 ⟨b9'.os, b9'.tape, b9'.output, b9'.size, b9'.block⟩
                   have Ss9 := Lib.hid (Ss.out.up b9)
                   have hS5 := And.intro (((btr Be.out b9).cell (p := ⟨b, off + i, none⟩) Hb.out).trans Xi.out) (((btr Be.out b9).cell (p := ⟨b, off + k, none⟩) Hb.out).trans Yk.out))
                | (have _q := s7; clear _q; go_at_call 65; refine (specComp A5 A6 c5 c6 l2 p q _ ?_ ?_ ?_ ?_ ?_ hN2).mono ?_; (exact Rp2.out.up b7); (exact Rq2.out.up b7); (exact Lib.hid PP.out.2); (exact Lib.hid QQ.out.2); (exact Lib.hid PP.out.1); rintro e w8 ⟨A8, c8, rfl, s8, b8'⟩
                   have b78 : Below w7.heap.size w7 w8 := ⟨b8'.os, b8'.tape, b8'.output, b8'.size, b8'.block⟩
                   have b8 : Below wr.heap.size wr w8 := btr b7 b78
                   have hS4 := And.intro (((btr Be.out b8).cell (p := ⟨b, off + i, none⟩) Hb.out).trans Xi.out) (((btr Be.out b8).cell (p := ⟨b, off + k, none⟩) Hb.out).trans Yk.out))
                | (have _q := sb; clear _q; go_at_call 65; refine (specComp Aa Ab ca cb l2 (iv p) (iv q) _ ?_ ?_ ?_ ?_ ?_ hN2).mono ?_; (exact sa.ri_.up b56); (exact sb.ri_); (exact sa.hid); (exact sb.hid); (exact Lib.hid PP.out.iv.1); rintro e w7 ⟨A7, c7, rfl, s7, b7'⟩
                   have b7 : Below wr.heap.size wr w7 := btr b6 ⟨b7'.os, b7'.tape, b7'.output, b7'.size, b7'.block⟩
                   have hS3 := And.intro (((btr Be.out b7).cell (p := ⟨b, off + i, none⟩) Hb.out).trans Xi.out) (((btr Be.out b7).cell (p := ⟨b, off + k, none⟩) Hb.out).trans Yk.out))
                | (have _q := sa; clear _q; go_at_call 78; refine (specInv A6 c6 l2 q w5 ?_ ?_ ?_ hN2).mono ?_; (exact Rq2.out.up b5); (exact Lib.hid QQ.out.2); (exact Lib.hid QQ.out.1); rintro e w6 ⟨Ab, cb, rfl, sb, b6'⟩
                   rw [inv_iv QQ.out] at sb
                   have b56 : Below w5.heap.size w5 w6 := ⟨b6'.os, b6'.tape, b6'.output, b6'.size, b6'.block⟩
                   have b6 : Below wr.heap.size wr w6 := btr b5 b56
                   have hS2 := And.intro (((btr Be.out b6).cell (p := ⟨b, off + i, none⟩) Hb.out).trans Xi.out) (((btr Be.out b6).cell (p := ⟨b, off + k, none⟩) Hb.out).trans Yk.out))
                | (go_at_call 78; refine (specInv A5 c5 l2 p _ ?_ ?_ ?_ hN2).mono ?_; (exact Rp2.out); (exact Lib.hid PP.out.2); (exact Lib.hid PP.out.1); rintro e w5 ⟨Aa, ca, rfl, sa, b5'⟩
                   rw [inv_iv PP.out] at sa
                   have b5 : Below wr.heap.size wr w5 := ⟨b5'.os, b5'.tape, b5'.output, b5'.size, b5'.block⟩
                   have hS1 := And.intro (((btr Be.out b5).cell (p := ⟨b, off + i, none⟩) Hb.out).trans Xi.out) (((btr Be.out b5).cell (p := ⟨b, off + k, none⟩) Hb.out).trans Yk.out)))
            have S9 : Hid (Slc w9 w1.heap.size A9 l2 c9 (cmt p q)) := Lib.hid (s9.mono (by have := b8.size; omega))
            have D9 : ∀ t, t < m → (sval (us.getD t sd0)).ownBlock = none ∨ (sval (us.getD t sd0)).ownBlock ≠ (sval (A9, l2, c9)).ownBlock := lies_dis (w := wr) Ss.out s9.lies b8.size
            have Ss10 : Hid (SS w10 w1.heap.size w1.heap.size A10 (m + 1) c10 (us ++ [(A9, l2, c9)]) (W ++ [cmt p q])) := Lib.hid ((Ss9.out.alloc _).snocV (d := (A9, l2, c9)) (S9.out.alloc _) D9 o10 g10)
            have Bf10 := Lib.hid B10
            have Cm2 : Hid (∀ s ∈ W ++ [cmt p q], ∃ p ∈ xss, ∃ q ∈ xss, s = cmt p q) := Lib.hid fun s hs => by
              rcases List.mem_append.1 hs with hs | hs
              · exact Cm.out s hs
              · exact ⟨p, Pm_.out, q, Qm.out, List.mem_singleton.1 hs⟩
            have Pr2 : Hid (∀ t u, u < t → t < i → cmt (xss.getD t []) (xss.getD u []) ∈ W ++ [cmt p q]) := Lib.hid fun t u h1 h2 => List.mem_append_left _ (Pr.out t u h1 h2)
            have Pk2 : Hid (∀ u, u < k + 1 → cmt p (xss.getD u []) ∈ W ++ [cmt p q]) := Lib.hid fun u hu => by
              rcases Nat.lt_or_ge u k with h | h
              · exact List.mem_append_left _ (Pk.out u h)
              · obtain rfl : u = k := by omega
                rw [Eq.out]; simp
            have hlw2 : (W ++ [cmt p q]).length ≤ 8 * i + (k + 1) := by rw [List.length_append, List.length_singleton]; omega
            clear b5 b6 b7 b8 b9 b56 b78 hS1 hS2 hS3 hS4 hS5 hS6 sa sb s7 s8 s9 x2 y2 o10 g10 h10 D9 B10
            go_wp2_with fail
            go_roundg (i - (k + 1))
            case rel => exact ⟨k + 1, _, _, _, _, _, by omega, by omega, by go_num, rfl, Ss10.out, Cm2.out, Pr2.out, Pk2.out, hlw2, Bf10.out⟩
            case measure => omega
          · obtain rfl : k = i := by omega
            have Pr2 : Hid (∀ t u, u < t → t < k + 1 → cmt (xss.getD t []) (xss.getD u []) ∈ W) := Lib.hid fun t u h1 h2 => by
              rcases Nat.lt_or_ge t k with h | h
              · exact Pr.out t u h1 h
              · obtain rfl : t = k := by omega
                rw [Ep.out]; exact Pk.out u h1
            go_wp2_with fail
            go_roundg (n - (k + 1))
            case rel => exact ⟨k + 1, _, _, _, _, _, by omega, by omega, by go_num, rfl, Ss.out, Cm.out, Pr2.out, by omega, Be.out⟩
            case measure => omega
      · obtain rfl : n = i := by omega
        have Ini : Hid (∀ s ∈ W, Drv N (Mb xss N) s) := Lib.hid fun s hs => by
          obtain ⟨p, hp, q, hq, rfl⟩ := Cm0.out s hs
          exact drv_cmt (sgp_mb Ok.out hN1 hN2) (.of (Ok.out p hp) hp) (.of (Ok.out q hq) hq)
        have All : Hid (∀ p ∈ xss, ∀ q ∈ xss, cmt p q ∈ W ∨ cmt q p ∈ W ∨ p = q) := Lib.hid fun p hp q hq => by
          obtain ⟨t, ht, rfl⟩ := mem_at hp
          obtain ⟨u, hu, rfl⟩ := mem_at hq
          rcases Nat.lt_trichotomy t u with h | h | h
          · exact .inr (.inl (Pr0.out u t h (by rw [← hlx.out]; exact hu)))
          · subst h; exact .inr (.inr rfl)
          · exact .inl (Pr0.out t u h (by rw [← hlx.out]; exact ht))
        have Dv0 : Hid (Dv N xss W W [] 0) := Lib.hid (.start Ini.out (by omega))
        have hzr := Be0.out.size
        have U0 := Lib.hid (upTo0 N hN1 hN2)
        clear Ini Cm0 Pr0 hlm0
        go_wp2_with fail
        refine (specEmpty N wr hN1 hN2).mono ?_
        rintro e w3 ⟨g, L, rfl, hc3, b3⟩
        have C3 := Lib.hid (hc3.mono hzr)
        have Ap3 : Hid (∀ b, (Value.slice A' m cc).ownBlock = some b → ¬ Mut N L b) := Lib.hid fun b hb hm => by
          have h1 := (Ss0.out.lt_ b hb).2
          have h2 := (hc3.mut hm).1
          omega
        have Ss3 := Lib.hid (Ss0.out.up b3)
        have Be3 : Hid (Below w1.heap.size w1 w3) := Lib.hid (btr Be0.out b3)
        clear hc3 b3 Ss0 Be0
        go_wp2_with fail
        go_loopg [5, 9] 700 (fun gg v iv wr => ∃ (j m cc : Nat) (A' : Option Addr) (us : List SV) (V hs : List (List Int)) (ch : Ch) (L : LY), j ≤ V.length ∧ 700 - j ≤ gg ∧ iv = .int .i64 (j : Nat) ∧ v = .slice A' m cc ∧ SS wr w1.heap.size w1.heap.size A' m cc us V ∧ Cn wr w1.heap.size g N ch L ∧ Whole N hs ch ∧ (∀ b, (Value.slice A' m cc).ownBlock = some b → ¬ Mut N L b) ∧ Dv N xss W V hs j ∧ Below w1.heap.size w1 wr)
        case atStart => exact ⟨0, _, _, _, _, _, [], ch0 N, L, Nat.zero_le _, by omega, rfl, rfl, Ss3.out, C3.out, ⟨U0.out, fun q => Iff.rfl⟩, Ap3.out, Dv0.out, Be3.out⟩
        case round =>
          clear Ss3 C3 Ap3 Dv0 Be3 U0
          obtain ⟨j, m, cc, A', us, V, hs, ch, L, hj, hg2, rfl, rfl, hss, hc, hw, hap, hdv, bel⟩ := hrel
          have Ss := Lib.hid hss
          have Cj := Lib.hid hc
          have Wj := Lib.hid hw
          have Ap := Lib.hid hap
          have Dj := Lib.hid hdv
          have Be := Lib.hid bel
          have hlm : Hid (V.length = m) := Lib.hid hss.lx
          obtain ⟨few1, few2⟩ := hdv.few Ok.out hN1 hN2
          have hjm : j ≤ m := by rw [← hss.lx]; exact hj
          have hm6 : m ≤ 600 := by rw [← hss.lx]; exact few2
          have Pnh := Lib.hid (hdv.pnh Ok.out hN1 hN2)
          have hzw := bel.size
          clear hss hc hw hap hdv bel hj few1 few2
          by_cases hlt : j < m
          · obtain ⟨b, off, A5, l, c5, y, eA, hb, ev, ey, x1, ri, ly, hl5⟩ := Ss.out.rr.at_ hlt
            subst eA
            have hyV : y ∈ V := getD_of (by rw [hlm.out]; exact hlt) ey
            have hyP := Dj.out.pn Ok.out hN1 hN2 y hyV
            obtain rfl : l = N := by have := hyP.2; omega
            have Row : Hid (Slc wr w1.heap.size A5 l c5 y) := Lib.hid (by have := Ss.out.row j hlt; rw [ev, ey] at this; exact this)
            have YP := Lib.hid hyP
            have Ri := Lib.hid ri
            have Ey := Lib.hid ey
            obtain ⟨ans, hans⟩ := bool_of (Mb hs l y)
            have Ha := Lib.hid hans
            have q0 : (0 : Int) ≤ j := by omega
            have q1 : (j : Int) < m := by omega
            clear ev ey ri ly hl5 hyV hyP hans
            go_wp2_with fail
            refine (specHas w1.heap.size g l c5 A5 ch L hs y wr Cj.out Wj.out Ri.out YP ans Ha).mono ?_
            rintro e w4 ⟨rfl, b4⟩
            have C4 := Lib.hid (Cj.out.up b4)
            have Ss4 := Lib.hid (Ss.out.up b4)
            have R4 := Lib.hid (Row.out.up b4)
            have x4 := (b4.cell (p := ⟨b, off + j, none⟩) hb).trans x1
            have Be4 : Hid (Below w1.heap.size w1 w4) := Lib.hid (btr Be.out b4)
            have hz4 := Be4.out.size
            clear b4 x1 hb Cj Row Ri Be hzw
            rcases ans with _ | _
            · have hno : ¬ Mb hs l y := fun h => absurd (Ha.out.2 h) (by decide)
              have Dn := Lib.hid (Dj.out.add Ok.out hN1 hN2 (by rw [hlx.out]; exact hn8) (by rw [hlm.out]; exact hlt) Ey.out hno)
              clear hno
              go_wp2_with fail
              have K := specAddGen w1.heap.size g l hN1 hN2 l 0 (by omega) c5 A5 ch L y w4 C4.out R4.out YP.out Fx.zero Wj.out.up
              refine K.mono ?_
              rintro e w5 ⟨ch', L', rfl, hc5, hch, hmt, hap⟩
              have C5 := Lib.hid hc5
              have Ss5 := Lib.hid (Ss4.out.besideC hch C4.out.noInt Ap.out)
              have Ap5 : Hid (∀ b', (Value.slice (some ⟨b, off, none⟩) m cc).ownBlock = some b' → ¬ Mut l L' b') := Lib.hid fun b' hb' hm => by
                rcases hmt b' hm with h | h
                · exact Ap.out b' hb' h
                · have := (Ss4.out.lt_ b' hb').2; omega
              have Be5 : Hid (Below w1.heap.size w1 w5) := Lib.hid (Be4.out.trans (hch.below (fun k hk => (C4.out.mut hk).1) hz4))
              have W5 : Hid (Whole l (hs ++ [y]) ch') := Lib.hid (Wj.out.next hN1 hN2 Pnh.out YP.out hap)
              clear K hc5 hch hmt hap C4 Ss4 R4 x4 Be4 hz4
              go_wp2_with fail
              obtain ⟨wo, rfl⟩ : ∃ wo, wo = wr := ⟨_, rfl⟩
              go_loopg [5, 10] n (fun gg v kv wr => ∃ (k m' cc : Nat) (A' : Option Addr) (us : List SV), k ≤ n ∧ n - k ≤ gg ∧ m' = m + k ∧ kv = .int .i64 (k : Nat) ∧ v = .slice A' m' cc ∧ SS wr w1.heap.size w1.heap.size A' m' cc us (V ++ (xss.take k).map fun g => cj g y) ∧ Cn wr w1.heap.size g l ch' L' ∧ (∀ b, (Value.slice A' m' cc).ownBlock = some b → ¬ Mut l L' b) ∧ Below w1.heap.size w1 wr)
              case atStart => exact ⟨0, _, _, _, _, Nat.zero_le _, by omega, rfl, rfl, rfl, by simpa using Ss5.out, C5.out, Ap5.out, Be5.out⟩
              case round =>
                clear Ss5 C5 Ap5 Be5
                obtain ⟨k, m', cc', A', us', hk, hg3, hmk, rfl, rfl, hss, hc, hap, bel⟩ := hrel
                have Hmk := Lib.hid hmk
                have hjm' : j < m' := by omega
                have hm7 : m' ≤ 700 := by omega
                have S2 := Lib.hid hss
                have C2 := Lib.hid hc
                have Ap2 := Lib.hid hap
                have Be := Lib.hid bel
                have hzw := bel.size
                clear hss hc hap bel hmk
                by_cases hkt : k < n
                · obtain ⟨b2, off2, A6, l2, c6, q, eA, hb2, hv, eq_, y1, rq, lq, hl6⟩ := X1.out.at_ hkt
                  subst eA
                  have hqm : q ∈ xss := by rw [← eq_]; exact getD_memL (by rw [hlx.out]; exact hkt)
                  have hqP := Ok.out q hqm
                  obtain rfl : l2 = l := by have := hqP.2; omega
                  obtain ⟨b3, off3, A7, l3, c7, y', eA, hb3, ev3, ey3, x3, ri3, ly3, hl7⟩ := S2.out.rr.at_ hjm'
                  subst eA
                  obtain rfl : y' = y := by
                    rw [← ey3, List.getD_eq_getElem?_getD, List.getElem?_append_left (by rw [hlm.out]; exact hlt), ← List.getD_eq_getElem?_getD]; exact Ey.out
                  obtain rfl : l3 = l2 := by have := YP.out.2; omega
                  have QQ := Lib.hid hqP
                  have Eq := Lib.hid eq_
                  have Rq2 := Lib.hid (rq.up Be.out)
                  have R3 := Lib.hid ri3
                  have y2 := (Be.out.cell (p := ⟨b2, off2 + k, none⟩) hb2).trans y1
                  have hb2w : b2 < wr.heap.size := by omega
                  have r0 : (0 : Int) ≤ k := by omega
                  have r1 : (k : Int) < n := by omega
                  have r2 : (j : Int) < m' := by omega
                  have IV := Lib.hid hqP.iv
                  clear hv eq_ rq hqP hqm y1 ev3 ey3 ri3 ly3 hl7 hl6 lq
                  go_wp2_with fail
                  go_region_law (first
                    | (have _q := Ss9; clear _q; refine step_appV rfl (.tmp 77) (.tmp 93) rfl w1.heap.size (.slice (some ⟨b3, off3, none⟩) m' cc') m' (us'.map sval) ?_ ((Ss9.out.alloc (.cells #[.slice A9 l3 c9] 33)).own) w9.heap.size (A9, l3, c9) ?_ ((Blk.new w9 _ _).cell 0) ?_ ?_ ?_; (simp [Act.eval, Act.put]); (simp [Act.eval, Act.put]); (omega); (have hz := b9.size; simp; omega); (intro A10 c10 w10 o10 g10 h10))
                    | (go_simp; go_wp2_with (first
                      | (have _q := s8; clear _q; go_at_call 65; refine (specComp A8 A6 c8 c6 l3 (compL (iv q) y') q _ ?_ ?_ ?_ ?_ ?_ hN2).mono ?_; (exact s8.ri_); (exact Rq2.out.up b8); (exact s8.hid); (exact Lib.hid QQ.out.2); (exact Lib.hid (IV.out.comp YP.out).1); rintro e w9 ⟨A9, c9, rfl, s9, b9'⟩
                         have b9 : Below wr.heap.size wr w9 := btr b8 ⟨b9'.os, b9'.tape, b9'.output, b9'.size, b9'.block⟩
                         have Ss9 := Lib.hid (S2.out.up b9)
                         have y9 := (b9.cell (p := ⟨b2, off2 + k, none⟩) hb2w).trans y2
                         have x9 := (b9.cell (p := ⟨b3, off3 + j, none⟩) hb3).trans x3)
                      | (have _q := s7; clear _q; go_at_call 65; refine (specComp Aa A7 ca c7 l3 (iv q) y' _ ?_ ?_ ?_ ?_ ?_ hN2).mono ?_; (exact s7.ri_); (exact R3.out.up b7); (exact s7.hid); (exact Lib.hid YP.out.2); (exact Lib.hid IV.out.1); rintro e w8 ⟨A8, c8, rfl, s8, b8'⟩
                         have b8 : Below wr.heap.size wr w8 := btr b7 ⟨b8'.os, b8'.tape, b8'.output, b8'.size, b8'.block⟩
                         have y8 := (b8.cell (p := ⟨b2, off2 + k, none⟩) hb2w).trans y2
                         have x8 := (b8.cell (p := ⟨b3, off3 + j, none⟩) hb3).trans x3)
                      | (go_at_call 78; refine (specInv A6 c6 l3 q _ ?_ ?_ ?_ hN2).mono ?_; (exact Rq2.out); (exact Lib.hid QQ.out.2); (exact Lib.hid QQ.out.1); rintro e w7 ⟨Aa, ca, rfl, s7, b7'⟩
                         rw [inv_iv QQ.out] at s7
                         have b7 : Below wr.heap.size wr w7 := ⟨b7'.os, b7'.tape, b7'.output, b7'.size, b7'.block⟩
                         have y7 := (b7.cell (p := ⟨b2, off2 + k, none⟩) hb2w).trans y2
                         have x7 := (b7.cell (p := ⟨b3, off3 + j, none⟩) hb3).trans x3))))
                  all_goals
                    have S9 : Hid (Slc w9 w1.heap.size A9 l3 c9 (cj q y')) := Lib.hid (s9.mono (by have := b8.size; omega))
                    have D9 : ∀ t, t < m' → (sval (us'.getD t sd0)).ownBlock = none ∨ (sval (us'.getD t sd0)).ownBlock ≠ (sval (A9, l3, c9)).ownBlock := lies_dis (w := wr) S2.out s9.lies b8.size
                    have S10 := (Ss9.out.alloc (.cells #[.slice A9 l3 c9] 33)).snocV (d := (A9, l3, c9)) (S9.out.alloc _) D9 o10 g10
                    have Ss10 : Hid (SS w10 w1.heap.size w1.heap.size A10 (m' + 1) c10 (us' ++ [(A9, l3, c9)]) (V ++ (xss.take (k + 1)).map fun g => cj g y')) := Lib.hid (by
                      have e1 : (xss.take (k + 1)).map (fun g => cj g y') = (xss.take k).map (fun g => cj g y') ++ [cj q y'] := by
                        rw [List.take_succ_eq_append_getElem (by rw [hlx.out]; exact hkt), List.map_append]
                        have e1 : xss[k]'(by rw [hlx.out]; exact hkt) = q := by rw [← Eq.out, List.getD_eq_getElem?_getD, List.getElem?_eq_getElem (by rw [hlx.out]; exact hkt)]; rfl
                        rw [e1]; rfl
                      rw [e1, ← List.append_assoc]; exact S10)
                    have B10 : Hid (Below w1.heap.size w1 w10) := Lib.hid (((btr Be.out b9).alloc (btr Be.out b9).size _).grown g10 (by have := (btr Be.out b9).size; simp; omega) (fun j hj => (S2.out.lt_ j hj).1))
                    have Ap10 : Hid (∀ b, (Value.slice A10 (m' + 1) c10).ownBlock = some b → ¬ Mut l3 L' b) := Lib.hid fun b hb hm => by
                      rcases h10 with e | e
                      · exact Ap2.out b (e ▸ hb) hm
                      · have h1 := (C2.out.mut hm).2
                        have h2 := b9.size
                        rw [e] at hb
                        injection hb with hb
                        simp at hb; omega
                    have C10 : Hid (Cn w10 w1.heap.size g l3 ch' L') := Lib.hid (((C2.out.up b9).up ((Below.refl _ _).alloc (Nat.le_refl _) _)).beside (Ss9.out.alloc (.cells #[.slice A9 l3 c9] 33)).own g10 Ap2.out)
                    clear o10 g10 h10 D9 S10 s9 b9
                    go_wp2_with fail
                    go_roundg (n - (k + 1))
                    case rel => exact ⟨k + 1, _, _, _, _, by omega, by omega, by have := Hmk.out; omega, by go_num, rfl, Ss10.out, C10.out, Ap10.out, B10.out⟩
                    case measure => omega
                · obtain rfl : n = k := by omega
                  have S3 : Hid (SS wr w1.heap.size w1.heap.size A' m' cc' us' (V ++ xss.map fun g => cj g y)) := Lib.hid (by have := S2.out; rwa [List.take_of_length_le (by rw [hlx.out]; exact Nat.le_refl _)] at this)
                  have hlen : j + 1 ≤ (V ++ xss.map fun g => cj g y).length := by rw [List.length_append, hlm.out]; omega
                  go_wp2_with fail
                  go_roundg (700 - (j + 1))
                  case rel => exact ⟨j + 1, _, _, _, _, _, hs ++ [y], ch', L', hlen, by omega, by go_num, rfl, S3.out, C2.out, W5.out, Ap2.out, Dn.out, Be.out⟩
                  case measure => omega
            · have Dn := Lib.hid (Dj.out.skip (by rw [Ey.out]; exact Ha.out.1 rfl))
              go_wp2_with fail
              go_roundg (700 - (j + 1))
              case rel => exact ⟨j + 1, _, _, _, _, _, hs, ch, L, by rw [hlm.out]; omega, by omega, by go_num, rfl, Ss4.out, C4.out, Wj.out, Ap.out, Dn.out, Be4.out⟩
              case measure => omega
          · obtain rfl : j = m := by omega
            have Fin : ∃ v : Nat, prodL (osL N ch N) = (v : Int) ∧ IsDer N xss v := by
              obtain ⟨v, cv, ev⟩ := (Wj.out.os hN1 hN2).order Pnh.out hN1 hN2
              have hf := Dj.out
              rw [← hlm.out] at hf
              exact ⟨v, ev, .inl ⟨Hs.out, v, by rw [Int.toNat_natCast]; exact cv.congr (hf.fin Ok.out hN1 hN2 All.out), rfl⟩⟩
            obtain ⟨v, ev, hfin⟩ := Fin
            have Fin := Lib.hid hfin
            have Ev := Lib.hid ev
            clear hfin ev
            go_wp2_with fail
            refine (specOrder w1.heap.size g N ch L hs wr Cj.out Wj.out hN1 hN2).mono ?_
            rintro e w4 ⟨rfl, b4⟩
            rw [Ev.out]
            have B4 : Hid (Below w.heap.size w w4) := Lib.hid (btr (btr B1.out Be.out) b4)
            clear b4
            go_wp2_with fail
            go_ret
            exact ⟨_, rfl, Fin.out, B4.out⟩
end Go.Proofs.Ytcjcmhoalomjfaa

/- equalInts of the model. No condition but lengths. -/
namespace Go.Proofs.Ytcjcmhoalomjfaa
open Go.RowKit

set_option maxHeartbeats 400000 in
theorem eqIs2_core (A B : Option Addr) (c d n : Nat) (xs ys : List Int) (w : World) (hx : RI w w.heap.size A xs) (hy : RI w w.heap.size B ys) (lx : Hid (xs.length = n)) (ly : Hid (ys.length = n)) (hn : n ≤ 2097152) :
    Calls Try.prog 110 #[.slice A n c, .slice B n d] w fun e w' => e = .returned (.bool (decide (xs = ys))) ∧ ∃ m, w' = w.drewN m := by
  go_enter Try.func110, Try.ntmps110
  go_wp2
  go_loopw [5] (fun i wr => ∃ k : Nat, k ≤ n ∧ i = .int .i64 k ∧ (∀ j, j < k → xs.getD j 0 = ys.getD j 0) ∧ ∃ m, wr = w.drewN m) (fun i _ => n - (intOf i).toNat)
  case atStart => exact ⟨0, Nat.zero_le _, rfl, fun j h => absurd h (by omega), 0, rfl⟩
  case round =>
    obtain ⟨k, hk, rfl, heq, m, rfl⟩ := hrel
    have Heq := Lib.hid heq
    clear heq
    by_cases hlt : k < n
    · obtain ⟨b, off, rfl, hb, hc⟩ := hx (by rw [lx.out]; omega)
      obtain ⟨b', off', rfl, hb', hc'⟩ := hy (by rw [ly.out]; omega)
      have c1 := hc k (by rw [lx.out]; omega)
      have c2 := hc' k (by rw [ly.out]; omega)
      obtain ⟨x, ex⟩ : ∃ x, xs.getD k 0 = x := ⟨_, rfl⟩
      obtain ⟨y, ey⟩ : ∃ y, ys.getD k 0 = y := ⟨_, rfl⟩
      rw [ex] at c1
      rw [ey] at c2
      have Ex := Lib.hid ex
      have Ey := Lib.hid ey
      clear ex ey hc hc' hx hy
      have p1 : (0 : Int) ≤ k := by omega
      have p2 : (k : Int) < n := by omega
      by_cases hxy : x = y
      · subst hxy
        go_wp2
        go_quiet (fail)
        go_wp2
        go_roundw
        case rel => exact ⟨k + 1, by omega, by go_num, fun j hj => by
          by_cases e : j = k
          · subst e; rw [Ex.out, Ey.out]
          · exact Heq.out j (by omega), _, rfl⟩
        case measure => simp [intOf]; omega
      · have hd : (x != y) = true := by simpa using hxy
        have hd' : (x == y) = false := by simpa using hxy
        go_wp2
        go_quiet (fail)
        go_wp2
        go_ret
        refine ⟨ret_bool (Eq.symm (decide_eq_false fun e => hxy ?_)), _, World.drewN_drewN _ _ _⟩
        rw [← Ex.out, ← Ey.out, e]
    · go_wp2
      go_ret
      have : k = n := by omega
      subst this
      exact ⟨ret_bool (Eq.symm (decide_eq_true (ext_getD lx.out ly.out Heq.out))), _, rfl⟩
theorem eqIs2 (A B : Option Addr) (c d n m : Nat) (xs ys : List Int) (w : World) (hx : RI w w.heap.size A xs) (hy : RI w w.heap.size B ys) (lx : Hid (xs.length = n)) (ly : Hid (ys.length = m)) (hn : n ≤ 2097152) (hm : m ≤ 2097152) :
    Calls Try.prog 110 #[.slice A n c, .slice B m d] w fun e w' => e = .returned (.bool (decide (xs = ys))) ∧ ∃ m, w' = w.drewN m := by
  by_cases hl : n = m
  · subst hl
    exact eqIs2_core A B c d n xs ys w hx hy lx ly hn
  · have hd : ((n : Int) != (m : Int)) = true := by rw [bne_iff_ne]; omega
    have hd' : ((n : Int) == (m : Int)) = false := by rw [beq_eq_false_iff_ne]; omega
    go_enter Try.func110, Try.ntmps110
    go_wp2
    go_ret
    refine ⟨ret_bool (Eq.symm (decide_eq_false fun e => hl ?_)), 0, rfl⟩
    rw [← lx.out, ← ly.out, e]
end Go.Proofs.Ytcjcmhoalomjfaa

/- PermutationLess, of the program (by slices.Compare) and of the model. Condition: at most 2097152 entries. -/
namespace Go.Proofs.Ytcjcmhoalomjfaa
open Go.RowKit

/-- p comes first: at the first place where they differ p is smaller. -/
def lessI (p q : List Int) (n : Nat) : Bool := decide (∃ k, k < n ∧ (∀ j, j < k → p.getD j 0 = q.getD j 0) ∧ p.getD k 0 < q.getD k 0)
theorem lessI_at {p q : List Int} {n k : Nat} (hk : k < n) (he : ∀ j, j < k → p.getD j 0 = q.getD j 0) (hne : p.getD k 0 ≠ q.getD k 0) : lessI p q n = decide (p.getD k 0 < q.getD k 0) := by
  unfold lessI
  rw [Bool.eq_iff_iff, decide_eq_true_eq, decide_eq_true_eq]
  constructor
  · rintro ⟨i, hi, h1, h2⟩
    rcases Nat.lt_trichotomy i k with h | h | h
    · have := he i h; omega
    · subst h; exact h2
    · exact absurd (h1 k h) hne
  · intro h; exact ⟨k, hk, he, h⟩
theorem lessI_end {p q : List Int} {n : Nat} (he : ∀ j, j < n → p.getD j 0 = q.getD j 0) : lessI p q n = false := by
  unfold lessI
  rw [decide_eq_false_iff_not]
  rintro ⟨k, hk, _, h⟩
  have := he k hk; omega
def lessP (p q : List Int) : Bool := sameD p q && lessI p q p.length

def sgnI (x y : Int) : Int := if x < y then -1 else if y < x then 1 else 0
theorem cmpI (x y : Int) (w : World) : Calls Try.prog 105 #[.int .i64 x, .int .i64 y] w fun e w' => e = .returned (.int .i64 (sgnI x y)) ∧ w = w' := by
  have hx : (x != x) = false := by simp
  have hy : (y != y) = false := by simp
  by_cases h1 : x < y
  · have Fin : Hid (sgnI x y = -1) := Lib.hid (if_pos h1)
    have d1 : decide (x < y) = true := by simpa using h1
    go_enter Try.func105, Try.ntmps105
    go_wp2
    go_ret
    exact ⟨ret_int Fin.out.symm, rfl⟩
  · by_cases h2 : y < x
    · have Fin : Hid (sgnI x y = 1) := Lib.hid (by unfold sgnI; rw [if_neg h1, if_pos h2])
      have d1 : decide (x < y) = false := by simpa using h1
      have d2 : decide (y < x) = true := by simpa using h2
      go_enter Try.func105, Try.ntmps105
      go_wp2
      go_ret
      exact ⟨ret_int Fin.out.symm, rfl⟩
    · have Fin : Hid (sgnI x y = 0) := Lib.hid (by unfold sgnI; rw [if_neg h1, if_neg h2])
      have d1 : decide (x < y) = false := by simpa using h1
      have d2 : decide (y < x) = false := by simpa using h2
      go_enter Try.func105, Try.ntmps105
      go_wp2
      go_ret
      exact ⟨ret_int Fin.out.symm, rfl⟩

set_option maxHeartbeats 400000 in
/-- slices.Compare at two lists of one length. -/
theorem sCmp (A B : Option Addr) (c d n : Nat) (p q : List Int) (w : World) (hp : RI w w.heap.size A p) (hq : RI w w.heap.size B q) (lp : Hid (p.length = n)) (lq : Hid (q.length = n)) (hn : n ≤ 20) :
    Calls Try.prog 58 #[.slice A n c, .slice B n d] w fun e w' => ∃ r, e = .returned (.int .i64 r) ∧ Hid (decide (r < 0) = lessI p q n) ∧ w = w' := by
  go_enter Try.func58, Try.ntmps58
  go_wp2
  go_loop [5, 6, 7, 8, 11] (fun _ _ _ _ i => ∃ k : Nat, k ≤ n ∧ i = .int .i64 (k : Nat) ∧ (∀ j, j < k → p.getD j 0 = q.getD j 0)) (fun _ _ _ _ i => n - (intOf i).toNat)
  case atStart => exact ⟨0, Nat.zero_le _, rfl, fun j h => absurd h (by omega)⟩
  case round =>
    obtain ⟨k, hk, rfl, heq⟩ := hrel
    have Heq := Lib.hid heq
    clear heq
    by_cases hlt : k < n
    · obtain ⟨b, off, rfl, hb, hc⟩ := hp (by rw [lp.out]; omega)
      obtain ⟨b', off', rfl, hb', hc'⟩ := hq (by rw [lq.out]; omega)
      have c1 := hc k (by rw [lp.out]; omega)
      have c2 := hc' k (by rw [lq.out]; omega)
      obtain ⟨x, ex⟩ : ∃ x, p.getD k 0 = x := ⟨_, rfl⟩
      obtain ⟨y, ey⟩ : ∃ y, q.getD k 0 = y := ⟨_, rfl⟩
      rw [ex] at c1
      rw [ey] at c2
      have Ex := Lib.hid ex
      have Ey := Lib.hid ey
      clear ex ey hc hc' hp hq
      by_cases hxy : x = y
      · have Z : Hid (sgnI x y = 0) := Lib.hid (by subst hxy; unfold sgnI; simp)
        have Hxy := Lib.hid hxy
        clear hxy
        go_wp2_with fail
        refine (cmpI x y w).mono ?_
        rintro e w1 ⟨rfl, rfl⟩
        rw [Z.out]
        go_wp2
        go_round
        case rel => exact ⟨k + 1, by omega, by go_num, fun j hj => by
          by_cases e : j = k
          · subst e; rw [Ex.out, Ey.out, Hxy.out]
          · exact Heq.out j (by omega)⟩
        case measure => simp [intOf]; omega
      · have Fin : Hid (decide (sgnI x y < 0) = lessI p q n) := Lib.hid (by
          rw [lessI_at hlt Heq.out (by rw [Ex.out, Ey.out]; exact hxy), Ex.out, Ey.out]
          unfold sgnI
          by_cases h1 : x < y
          · rw [if_pos h1, decide_eq_true h1]; rfl
          · rw [if_neg h1, if_pos (by omega), decide_eq_false h1]; rfl)
        have hne : (sgnI x y != 0) = true := by
          rw [bne_iff_ne]; unfold sgnI; split
          · decide
          · rw [if_pos (by omega)]; decide
        have hne' : (sgnI x y == 0) = false := by
          rw [beq_eq_false_iff_ne]; exact bne_iff_ne.1 hne
        clear hxy
        go_wp2_with fail
        refine (cmpI x y w).mono ?_
        rintro e w1 ⟨rfl, rfl⟩
        go_wp2
        go_ret
        exact ⟨_, rfl, Fin, rfl⟩
    · have hkn : k = n := by omega
      subst hkn
      have Fin : Hid (decide ((0 : Int) < 0) = lessI p q k) := Lib.hid (by rw [lessI_end Heq.out]; rfl)
      go_wp2
      go_ret
      exact ⟨_, rfl, Fin, rfl⟩

set_option maxHeartbeats 400000 in
theorem specPrec (A B : Option Addr) (c d n : Nat) (p q : List Int) (w : World) (hp : RI w w.heap.size A p) (hq : RI w w.heap.size B q) (lp : Hid (p.length = n)) (lq : Hid (q.length = n)) (hn : n ≤ 20) :
    Calls Try.prog 80 #[.slice A n c, .slice B n d] w fun e w' => e = .returned (.bool (lessI p q n)) ∧ ∃ m, w' = w.drewN m := by
  go_enter Try.func80, Try.ntmps80
  go_wp2
  go_loopw [5] (fun i wr => ∃ k : Nat, k ≤ n ∧ i = .int .i64 k ∧ (∀ j, j < k → p.getD j 0 = q.getD j 0) ∧ ∃ m, wr = w.drewN m) (fun i _ => n - (intOf i).toNat)
  case atStart => exact ⟨0, Nat.zero_le _, rfl, fun j h => absurd h (by omega), 0, rfl⟩
  case round =>
    obtain ⟨k, hk, rfl, heq, m, rfl⟩ := hrel
    have Heq := Lib.hid heq
    clear heq
    by_cases hlt : k < n
    · obtain ⟨b, off, rfl, hb, hc⟩ := hp (by rw [lp.out]; omega)
      obtain ⟨b', off', rfl, hb', hc'⟩ := hq (by rw [lq.out]; omega)
      have c1 := hc k (by rw [lp.out]; omega)
      have c2 := hc' k (by rw [lq.out]; omega)
      obtain ⟨x, ex⟩ : ∃ x, p.getD k 0 = x := ⟨_, rfl⟩
      obtain ⟨y, ey⟩ : ∃ y, q.getD k 0 = y := ⟨_, rfl⟩
      rw [ex] at c1
      rw [ey] at c2
      have Ex := Lib.hid ex
      have Ey := Lib.hid ey
      clear ex ey hc hc' hp hq
      have p1 : (0 : Int) ≤ k := by omega
      have p2 : (k : Int) < n := by omega
      by_cases hxy : x = y
      · subst hxy
        go_wp2
        go_quiet (fail)
        go_wp2
        go_roundw
        case rel => exact ⟨k + 1, by omega, by go_num, fun j hj => by
          by_cases e : j = k
          · subst e; rw [Ex.out, Ey.out]
          · exact Heq.out j (by omega), _, rfl⟩
        case measure => simp [intOf]; omega
      · have hd : (x != y) = true := by simpa using hxy
        have hd' : (x == y) = false := by simpa using hxy
        have Fin : Hid (lessI p q n = decide (x < y)) := Lib.hid (by rw [lessI_at hlt Heq.out (by rw [Ex.out, Ey.out]; exact hxy), Ex.out, Ey.out])
        clear hxy
        go_wp2
        go_quiet (fail)
        go_wp2
        go_quiet (fail)
        go_wp2
        go_ret
        exact ⟨ret_bool Fin.out.symm, _, by simp only [World.drewN_drewN]; rfl⟩
    · have hkn : k = n := by omega
      subst hkn
      have Fin : Hid (lessI p q k = false) := Lib.hid (lessI_end Heq.out)
      go_wp2
      go_ret
      exact ⟨ret_bool Fin.out.symm, _, rfl⟩

set_option maxHeartbeats 400000 in
/-- The model's PermutationLess. -/
theorem specPermutationLess (A B : Option Addr) (c d n m : Nat) (p q : List Int) (w : World) (hp : RI w w.heap.size A p) (hq : RI w w.heap.size B q) (lp : Hid (p.length = n)) (lq : Hid (q.length = m)) (hn : n ≤ 2097152) (hm : m ≤ 2097152) (hc : n ≤ c) (hd : m ≤ d) :
    Calls Try.prog 31 #[.slice A n c, .slice B m d] w fun e w' => e = .returned (.bool (lessP p q)) ∧ Below w.heap.size w w' := by
  rcases hs : sameD p q with _ | _
  · have Fin : Hid (lessP p q = false) := Lib.hid (by unfold lessP; rw [hs]; rfl)
    go_enter Try.func31, Try.ntmps31
    go_wp2_with fail
    refine (specSame A B c d n m p q w hp hq lp lq hn hm hc hd).mono ?_
    rintro e w1 ⟨rfl, b1⟩
    have B1 := Lib.hid b1
    clear b1
    go_wp2_with fail
    go_ret
    exact ⟨ret_bool Fin.out.symm, B1.out⟩
  · have Fin : Hid (lessP p q = lessI p q n) := Lib.hid (by unfold lessP; rw [hs, lp.out]; rfl)
    obtain ⟨h1, h2, h3⟩ := sameD_iff.1 hs
    have hn20 : n ≤ 20 := by rw [← lp.out]; exact h2.le
    obtain rfl : n = m := by rw [← lp.out, ← lq.out, h1]
    clear h1 h2 h3
    go_enter Try.func31, Try.ntmps31
    go_wp2_with fail
    refine (specSame A B c d n n p q w hp hq lp lq hn hn hc hd).mono ?_
    rintro e w1 ⟨rfl, b1⟩
    have B1 := Lib.hid b1
    clear b1
    go_wp2_with fail
    refine (quiet_below (specPrec A B c d n p q w1 (hp.up B1.out) (hq.up B1.out) lp lq hn20)).mono ?_
    rintro e w2 ⟨rfl, b2⟩
    have B2 : Hid (Below w.heap.size w w2) := Lib.hid (btr B1.out b2)
    clear b2
    go_wp2_with fail
    go_ret
    exact ⟨ret_bool Fin.out.symm, B2.out⟩
end Go.Proofs.Ytcjcmhoalomjfaa

/- CosetRepresentatives of the model. Conditions: at most 1048576 lists of at most 1048576 numbers. -/
namespace Go.Proofs.Ytcjcmhoalomjfaa
open Go.RowKit

/-! ### a sorted list grows -/
abbrev PZ := SV × List Int
def insZ (N : Nat) (x : PZ) : List PZ → List PZ
  | [] => [x]
  | a :: t => if lessI x.2 a.2 N = true then x :: a :: t else a :: insZ N x t
section
variable {N : Nat} {x a : PZ} {l : List PZ}
theorem insZ_snoc (h : (l.any fun z => lessI x.2 z.2 N) = true) : insZ N x (l ++ [a]) = insZ N x l ++ [a] := by
  induction l with
  | nil => simp at h
  | cons b t ih =>
    by_cases e : lessI x.2 b.2 N = true
    · simp [insZ, e]
    · have h2 : (t.any fun z => lessI x.2 z.2 N) = true := by
        rw [List.any_cons] at h
        simpa [e] using h
      simp [insZ, e, ih h2]
theorem insZ_none (h : (l.any fun z => lessI x.2 z.2 N) = false) : insZ N x l = l ++ [x] := by
  induction l with
  | nil => rfl
  | cons b t ih =>
    rw [List.any_cons, Bool.or_eq_false_iff] at h
    simp [insZ, h.1, ih h.2]
theorem insZ_here (h : (l.any fun z => lessI x.2 z.2 N) = false) (ha : lessI x.2 a.2 N = true) : insZ N x (l ++ [a]) = l ++ [x] ++ [a] := by
  induction l with
  | nil => simp [insZ, ha]
  | cons b t ih =>
    rw [List.any_cons, Bool.or_eq_false_iff] at h
    simp [insZ, h.1, ih h.2]
theorem insZ_perm : (insZ N x l).Perm (x :: l) := by
  induction l with
  | nil => exact List.Perm.refl _
  | cons b t ih =>
    unfold insZ
    by_cases e : lessI x.2 b.2 N = true
    · rw [if_pos e]
    · rw [if_neg e]
      exact (List.Perm.cons b ih).trans (List.Perm.swap x b t)
theorem insZ_length : (insZ N x l).length = l.length + 1 := by rw [insZ_perm.length_eq]; rfl
theorem lessI_lx {p q : List Int} (hp : Pn N p) (hq : Pn N q) : lessI p q N = true ↔ LxI N p q := by
  unfold lessI
  rw [decide_eq_true_eq]
  constructor
  · rintro ⟨t, ht, a, b⟩
    refine ⟨t, ht, fun j hj => ?_, ?_⟩
    · have := a j hj
      rw [nx_val hp.1 (by rw [hp.2]; omega), nx_val hq.1 (by rw [hq.2]; omega)] at this
      omega
    · rw [nx_val hp.1 (by rw [hp.2]; omega), nx_val hq.1 (by rw [hq.2]; omega)] at b; omega
  · rintro ⟨t, ht, a, b⟩
    refine ⟨t, ht, fun j hj => ?_, ?_⟩
    · rw [nx_val hp.1 (by rw [hp.2]; omega), nx_val hq.1 (by rw [hq.2]; omega), a j hj]
    · rw [nx_val hp.1 (by rw [hp.2]; omega), nx_val hq.1 (by rw [hq.2]; omega)]; omega
theorem insZ_sorted (hx : Pn N x.2) (hl : ∀ z ∈ l, Pn N z.2) (hn : ∀ z ∈ l, z.2 ≠ x.2) (hs : l.Pairwise fun a b => LxI N a.2 b.2) : (insZ N x l).Pairwise fun a b => LxI N a.2 b.2 := by
  induction l with
  | nil => simp [insZ]
  | cons b t ih =>
    rw [List.pairwise_cons] at hs
    unfold insZ
    by_cases e : lessI x.2 b.2 N = true
    · rw [if_pos e]
      have e2 := (lessI_lx hx (hl b (by simp))).1 e
      refine List.pairwise_cons.2 ⟨fun z hz => ?_, List.pairwise_cons.2 hs⟩
      rcases List.mem_cons.1 hz with rfl | hz
      · exact e2
      · exact e2.trans (hs.1 z hz)
    · rw [if_neg e]
      refine List.pairwise_cons.2 ⟨fun z hz => ?_, ih (fun z hz => hl z (by simp [hz])) (fun z hz => hn z (by simp [hz])) hs.2⟩
      rcases List.mem_cons.1 (insZ_perm.mem_iff.1 hz) with rfl | hz
      · rcases lx_tri hx (hl b (by simp)) with h | h | h
        · exact absurd h.symm (hn b (by simp))
        · exact absurd ((lessI_lx hx (hl b (by simp))).2 h) e
        · exact h
      · exact hs.1 z hz
end
theorem cmin_id {N : Nat} {H : List Int → Prop} (hH : Sgp N H) : CMin N H (idL N) (idL N) := by
  obtain ⟨h1, h2⟩ := hH.pos
  refine ⟨cos_refl hH (pn_id h1 h2), fun q hq ⟨t, ht, ha, hl⟩ => ?_⟩
  have pq := hq.pn hH (pn_id h1 h2)
  rw [nx_id ht] at hl
  have e1 := ha (nx q t) hl
  rw [nx_id (by omega)] at e1
  have := pq.inj (by omega) ht e1
  omega
/-- Headers in a slice of the call's own, rows that can be read. -/
theorem rr_of_own {w : World} {base n c : Nat} {A : Option Addr} {Z : List PZ} (ho : w.ownsRow base 33 1 (.slice A n c) n (Z.map fun z => sval z.1)) (hz : Z.length = n) (hr : ∀ z ∈ Z, RI w w.heap.size z.1.1 z.2 ∧ z.2.length = z.1.2.1 ∧ z.1.2.1 ≤ z.1.2.2) : RR w w.heap.size A n (Z.map (·.1)) (Z.map (·.2)) := by
  have hm : ∀ j (hj : j < n), Z[j]'(by omega) ∈ Z := fun j hj => List.getElem_mem _
  have e1 : ∀ j (hj : j < n), (Z.map (·.1)).getD j sd0 = (Z[j]'(by omega)).1 := fun j hj => by
    rw [List.getD_eq_getElem?_getD, List.getElem?_map, List.getElem?_eq_getElem (by omega)]; rfl
  have e2 : ∀ j (hj : j < n), (Z.map (·.2)).getD j [] = (Z[j]'(by omega)).2 := fun j hj => by
    rw [List.getD_eq_getElem?_getD, List.getElem?_map, List.getElem?_eq_getElem (by omega)]; rfl
  refine ⟨by simp [hz], by simp [hz], fun hn => ?_, fun j hj => ?_, fun j hj => ?_, fun j hj => ?_⟩
  · rcases ho.2 with ⟨e, h0⟩ | ⟨g', cap, cur, e, hb', hg', hnc, _⟩
    · omega
    · injection e with e _ _
      subst e
      refine ⟨g', 0, rfl, (Array.getElem?_eq_some_iff.1 hg').1, fun j hj => ?_⟩
      rw [Nat.zero_add, ho.cellAt j (by omega), List.getElem?_map, List.getElem?_eq_getElem (by omega), e1 j hj]; rfl
  · rw [e1 j hj, e2 j hj]; exact (hr _ (hm j hj)).1
  · rw [e1 j hj, e2 j hj]; exact (hr _ (hm j hj)).2.1
  · rw [e1 j hj]; exact (hr _ (hm j hj)).2.2

set_option maxHeartbeats 2000000 in
set_option maxRecDepth 100000 in
theorem specIdxL (N n c cp : Nat) (A P : Option Addr) (vs : List SV) (xss : List (List Int)) (p : List Int) (w : World) (hx : RR w w.heap.size A n vs xss) (hp : RI w w.heap.size P p) (hP : Hid (Pn N p)) (ok : Hid (∀ y ∈ xss, Pn N y)) (hn : n ≤ 1000) :
    Calls Try.prog 66 #[.slice A n c, .slice P N cp] w fun e w' => ∃ r : Int, e = .returned (.int .i64 r) ∧ ((r = -1 ∧ p ∉ xss) ∨ (0 ≤ r ∧ p ∈ xss)) ∧ Below w.heap.size w w' := by
  have HX := Lib.hid hx
  have HP := Lib.hid hp
  have hlx : Hid (xss.length = n) := Lib.hid hx.lx
  have hN := hP.out.pos.2
  clear hx hp
  go_enter Try.func66, Try.ntmps66
  go_wp2_with fail
  go_loopw [5] (fun i wr => ∃ k : Nat, k ≤ n ∧ i = .int .i64 (k : Nat) ∧ (∀ x ∈ xss.take k, x ≠ p) ∧ Below w.heap.size w wr) (fun i _ => n - (intOf i).toNat)
  case atStart => exact ⟨0, Nat.zero_le _, rfl, fun x hx => by simp at hx, Below.refl _ _⟩
  case round =>
    obtain ⟨k, hk, rfl, hall, bel⟩ := hrel
    have Al := Lib.hid hall
    have Be := Lib.hid bel
    clear hall bel
    by_cases hlt : k < n
    · obtain ⟨b, off, A5, l, c5, y, rfl, hb, hv, ey, x1, ri, ly, hl5⟩ := (HX.out.up Be.out).at_ hlt
      have hym : y ∈ xss := by rw [← ey]; exact getD_memL (by rw [hlx.out]; exact hlt)
      have hyP := ok.out y hym
      obtain rfl : l = N := by have := hyP.2; omega
      have Ri := Lib.hid ri
      have Ym := Lib.hid hym
      have Ey := Lib.hid ey
      have ly2 : Hid (y.length = l) := Lib.hid hyP.2
      have lp2 : Hid (p.length = l) := Lib.hid hP.out.2
      have q0 : (0 : Int) ≤ k := by omega
      have q1 : (k : Int) < n := by omega
      obtain ⟨r, hr⟩ : ∃ r, decide (y = p) = r := ⟨_, rfl⟩
      have Hr := Lib.hid hr
      clear hv ey hb ri hyP hym hr
      go_wp2_with fail
      refine (quiet_below (eqIs2 A5 P c5 cp l l y p wr Ri.out (HP.out.up Be.out) ly2 lp2 (by omega) (by omega))).mono ?_
      rintro e w2 ⟨rfl, b2⟩
      rw [Hr.out]
      have Be2 : Hid (Below w.heap.size w w2) := Lib.hid (btr Be.out b2)
      clear b2
      rcases r with _ | _
      · have Al2 : Hid (∀ x ∈ xss.take (k + 1), x ≠ p) := Lib.hid fun x hx => by
          rw [List.take_succ_eq_append_getElem (by rw [hlx.out]; exact hlt)] at hx
          rcases List.mem_append.1 hx with hx | hx
          · exact Al.out x hx
          · have e1 : xss[k]'(by rw [hlx.out]; exact hlt) = y := by rw [← Ey.out, List.getD_eq_getElem?_getD, List.getElem?_eq_getElem (by rw [hlx.out]; exact hlt)]; rfl
            rw [List.mem_singleton.1 hx, e1]; exact of_decide_eq_false Hr.out
        go_wp2_with fail
        go_roundw
        case rel => exact ⟨k + 1, by omega, by go_num, Al2.out, Be2.out⟩
        case measure => simp [intOf]; omega
      · have Fin : Hid (p ∈ xss) := Lib.hid (by rw [← of_decide_eq_true Hr.out]; exact Ym.out)
        go_wp2_with fail
        go_ret
        exact ⟨_, rfl, .inr ⟨q0, Fin.out⟩, Be2.out⟩
    · obtain rfl : n = k := by omega
      have Fin : Hid (p ∉ xss) := Lib.hid fun h => Al.out p (by rw [List.take_of_length_le (by rw [hlx.out]; exact Nat.le_refl _)]; exact h) rfl
      go_wp2_with fail
      go_ret
      exact ⟨_, rfl, .inl ⟨rfl, Fin.out⟩, Be.out⟩

set_option maxHeartbeats 4000000 in
set_option maxRecDepth 100000 in
theorem specInsP (N n c cp : Nat) (A P : Option Addr) (Z : List PZ) (p : List Int) (w : World) (hx : RR w w.heap.size A n (Z.map (·.1)) (Z.map (·.2))) (hp : RI w w.heap.size P p) (hP : Hid (Pn N p)) (ok : Hid (∀ z ∈ Z, Pn N z.2)) (hn : n ≤ 1000) :
    Calls Try.prog 67 #[.slice A n c, .slice P N cp] w fun e w' => ∃ A' c', e = .returned (.slice A' (n + 1) c') ∧ w'.ownsRow w.heap.size 33 1 (.slice A' (n + 1) c') (n + 1) ((insZ N ((P, N, cp), p) Z).map fun z => sval z.1) ∧ Below w.heap.size w w' := by
  have HX := Lib.hid hx
  have HP := Lib.hid hp
  have hlz : Hid (Z.length = n) := Lib.hid (by have := hx.lx; simpa using this)
  have hN := hP.out.pos.2
  obtain ⟨X, eX⟩ : ∃ X : PZ, ((P, N, cp), p) = X := ⟨_, rfl⟩
  have EX := Lib.hid eX
  have S0 := (SS.lit0 w w.heap.size w.heap.size (Nat.le_refl _)).own
  have S0h := Lib.hid S0
  clear hx hp eX S0
  rw [EX.out]
  go_enter Try.func67, Try.ntmps67
  go_wp2_with fail
  go_loopg [5, 6, 7] n (fun gg v dv iv wr => ∃ (i m cc : Nat) (A' : Option Addr) (d : Bool) (O : List PZ), i ≤ n ∧ n - i ≤ gg ∧ iv = .int .i64 (i : Nat) ∧ dv = .bool d ∧ v = .slice A' m cc ∧ O.length = m ∧ m ≤ i + 1 ∧ ((Z.take i).any fun z => lessI X.2 z.2 N) = d ∧ O = (if d = true then insZ N X (Z.take i) else Z.take i) ∧ wr.ownsRow w.heap.size 33 1 (.slice A' m cc) m (O.map fun z => sval z.1) ∧ Below w.heap.size w wr)
  case atStart => exact ⟨0, 0, _, _, false, [], Nat.zero_le _, by omega, rfl, rfl, rfl, rfl, by omega, rfl, rfl, S0h.out, (Below.refl _ _).alloc (Nat.le_refl _) _⟩
  case round =>
    clear S0h
    obtain ⟨i, m, cc, A', d, O, hi, hgg, rfl, rfl, rfl, hol, hmi, hd, hO, hown, bel⟩ := hrel
    have Ol := Lib.hid hol
    have Hd := Lib.hid hd
    have HO := Lib.hid hO
    have Ow := Lib.hid hown
    have Be := Lib.hid bel
    have hzw := bel.size
    clear hol hd hO hown bel
    by_cases hlt : i < n
    · obtain ⟨b, off, A5, l, c5, y, eA, hb, hv, ey, x0, ri0, ly, hl5⟩ := HX.out.at_ hlt
      subst eA
      have X0 := Lib.hid x0
      have ri := ri0.up Be.out
      have x1 := (Be.out.cell (p := ⟨b, off + i, none⟩) hb).trans x0
      clear x0 ri0
      obtain ⟨a, ha⟩ : ∃ a : PZ, Z[i]'(by rw [hlz.out]; exact hlt) = a := ⟨_, rfl⟩
      have e1 : a.1 = (A5, l, c5) := by rw [← hv, List.getD_eq_getElem?_getD, List.getElem?_map, List.getElem?_eq_getElem (by rw [hlz.out]; exact hlt), ← ha]; rfl
      have e2 : a.2 = y := by rw [← ey, List.getD_eq_getElem?_getD, List.getElem?_map, List.getElem?_eq_getElem (by rw [hlz.out]; exact hlt), ← ha]; rfl
      have hyP := ok.out a (by rw [← ha]; exact List.getElem_mem _)
      rw [e2] at hyP
      obtain rfl : l = N := by have := hyP.2; omega
      have Ts : Hid (Z.take (i + 1) = Z.take i ++ [a]) := Lib.hid (by rw [List.take_succ_eq_append_getElem (by rw [hlz.out]; exact hlt), ha])
      have Va : Hid (sval a.1 = .slice A5 l c5) := Lib.hid (by rw [e1]; rfl)
      have Vx : Hid (sval X.1 = .slice P l cp) := Lib.hid (by rw [← EX.out]; rfl)
      have Px : Hid (X.2 = p) := Lib.hid (by rw [← EX.out])
      have Pa : Hid (a.2 = y) := Lib.hid e2
      have Ri := Lib.hid ri
      have Hb := Lib.hid hb
      have ly2 : Hid (y.length = l) := Lib.hid hyP.2
      have lp2 : Hid (p.length = l) := Lib.hid hP.out.2
      have hm9 : m ≤ 1001 := by omega
      have q0 : (0 : Int) ≤ i := by omega
      have q1 : (i : Int) < n := by omega
      have AnyS : Hid (((Z.take (i + 1)).any fun z => lessI X.2 z.2 l) = (d || lessI p y l)) := Lib.hid (by rw [Ts.out, List.any_append, Hd.out, List.any_cons, List.any_nil, Bool.or_false, Px.out, Pa.out])
      clear hv ey hb ri hyP ha e1 e2
      rcases d with _ | _
      · obtain ⟨r, hr⟩ : ∃ r, lessI p y l = r := ⟨_, rfl⟩
        have Hr := Lib.hid hr
        clear hr
        have O1 : Hid (O = Z.take i) := Lib.hid (by rw [HO.out]; rfl)
        go_wp2_with fail
        refine (quiet_below (specPrec P A5 cp c5 l p y wr (HP.out.up Be.out) Ri.out lp2 ly2 hN)).mono ?_
        rintro e w2 ⟨rfl, b2⟩
        rw [Hr.out]
        have x2 := ((btr Be.out b2).cell (p := ⟨b, off + i, none⟩) Hb.out).trans X0.out
        have hmi2 : Hid (m = i) := Lib.hid (by rw [← Ol.out, O1.out, List.length_take, hlz.out]; omega)
        have Ow2 : Hid (w2.ownsRow w.heap.size 33 1 (.slice A' m cc) m (O.map fun z => sval z.1)) := Lib.hid (ownsRow_chg Ow.out (Chg.of_below (M := fun _ => False) b2) fun _ _ e => e)
        have Be2 : Hid (Below w.heap.size w w2) := Lib.hid (btr Be.out b2)
        have hz2 := Be2.out.size
        clear b2 x1 Ow Be
        rcases r with _ | _
        · go_wp2_with (at_builtin; go_must (refine wpList_appV rfl _ _ rfl w.heap.size (.slice A' m cc) m (O.map fun z => sval z.1) rfl (World.ownsRow.alloc Ow2.out _) w2.heap.size (A5, l, c5) rfl (by rw [World.cell?_alloc_at _ _ _ _ rfl]; rfl) (by omega) (by simp; omega) ?_); intro A3 c3 w3 o3 g3 h3)
          have Al : Below w2.heap.size w2 (w2.alloc (.cells #[.slice A5 l c5] 33)) := (Below.refl _ _).alloc (Nat.le_refl _) _
          have B3 : Hid (Below w.heap.size w w3) := Lib.hid ((Be2.out.alloc hz2 _).grown g3 (by simp; omega) (fun j hj => (World.ownsRow.lt Ow2.out j hj).1))
          have O3 : Hid (w3.ownsRow w.heap.size 33 1 (.slice A3 (m + 1) c3) (m + 1) ((O ++ [a]).map fun z => sval z.1)) := Lib.hid (by rw [List.map_append, List.map_cons, List.map_nil, Va.out]; exact o3)
          have E3 : Hid (O ++ [a] = if false = true then insZ l X (Z.take (i + 1)) else Z.take (i + 1)) := Lib.hid (by rw [O1.out, Ts.out]; rfl)
          have A3_ : Hid (((Z.take (i + 1)).any fun z => lessI X.2 z.2 l) = false) := Lib.hid (by rw [AnyS.out, Hr.out]; rfl)
          have L3 : Hid ((O ++ [a]).length = m + 1) := Lib.hid (by rw [List.length_append, Ol.out]; rfl)
          clear o3 g3 h3 Al
          go_wp2_with fail
          go_roundg (n - (i + 1))
          case rel => exact ⟨i + 1, m + 1, _, _, false, O ++ [a], by omega, by omega, by go_num, rfl, rfl, L3.out, by omega, A3_.out, E3.out, O3.out, B3.out⟩
          case measure => omega
        · go_wp2_with (first
            | (have _q := O3; clear _q; at_builtin; go_must (refine wpList_appV rfl _ _ rfl w.heap.size (.slice A3 (m + 1) c3) (m + 1) ((O ++ [X]).map fun z => sval z.1) rfl (World.ownsRow.alloc O3.out _) w3.heap.size (A5, l, c5) rfl (by rw [World.cell?_alloc_at _ _ _ _ rfl]; rfl) (by omega) (by simp; omega) ?_); intro A4 c4 w4 o4 g4 h4)
            | (at_builtin; go_must (refine wpList_appV rfl _ _ rfl w.heap.size (.slice A' m cc) m (O.map fun z => sval z.1) rfl (World.ownsRow.alloc Ow2.out _) w2.heap.size (P, l, cp) rfl (by rw [World.cell?_alloc_at _ _ _ _ rfl]; rfl) (by omega) (by simp; omega) ?_); intro A3 c3 w3 o3 g3 h3
               have B3 : Hid (Below w.heap.size w w3) := Lib.hid ((Be2.out.alloc hz2 _).grown g3 (by simp; omega) (fun j hj => (World.ownsRow.lt Ow2.out j hj).1))
               have hz3 := B3.out.size
               have x3 := (B3.out.cell (p := ⟨b, off + i, none⟩) Hb.out).trans X0.out
               have O3 : Hid (w3.ownsRow w.heap.size 33 1 (.slice A3 (m + 1) c3) (m + 1) ((O ++ [X]).map fun z => sval z.1)) := Lib.hid (by rw [List.map_append, List.map_cons, List.map_nil, Vx.out]; exact o3)
               clear o3 g3 h3))
          have B4 : Hid (Below w.heap.size w w4) := Lib.hid ((B3.out.alloc hz3 _).grown g4 (by simp; omega) (fun j hj => (World.ownsRow.lt O3.out j hj).1))
          have O4 : Hid (w4.ownsRow w.heap.size 33 1 (.slice A4 (m + 1 + 1) c4) (m + 1 + 1) ((O ++ [X] ++ [a]).map fun z => sval z.1)) := Lib.hid (by rw [List.map_append, List.map_cons, List.map_nil, Va.out]; exact o4)
          have E4 : Hid (O ++ [X] ++ [a] = if true = true then insZ l X (Z.take (i + 1)) else Z.take (i + 1)) := Lib.hid (by rw [if_pos rfl, O1.out, Ts.out, insZ_here Hd.out (by rw [Px.out, Pa.out]; exact Hr.out)])
          have A4_ : Hid (((Z.take (i + 1)).any fun z => lessI X.2 z.2 l) = true) := Lib.hid (by rw [AnyS.out, Hr.out]; rfl)
          have L4 : Hid ((O ++ [X] ++ [a]).length = m + 1 + 1) := Lib.hid (by rw [List.length_append, List.length_append, Ol.out]; rfl)
          clear o4 g4 h4
          go_wp2_with fail
          go_roundg (n - (i + 1))
          case rel => exact ⟨i + 1, m + 1 + 1, _, _, true, O ++ [X] ++ [a], by omega, by omega, by go_num, rfl, rfl, L4.out, by have := hmi2.out; omega, A4_.out, E4.out, O4.out, B4.out⟩
          case measure => omega
      · have O1 : Hid (O = insZ l X (Z.take i)) := Lib.hid (by rw [HO.out]; rfl)
        have hzb := hzw
        go_wp2_with (at_builtin; go_must (refine wpList_appV rfl _ _ rfl w.heap.size (.slice A' m cc) m (O.map fun z => sval z.1) rfl (World.ownsRow.alloc Ow.out _) wr.heap.size (A5, l, c5) rfl (by rw [World.cell?_alloc_at _ _ _ _ rfl]; rfl) (by omega) (by simp; omega) ?_); intro A3 c3 w3 o3 g3 h3)
        have B3 : Hid (Below w.heap.size w w3) := Lib.hid ((Be.out.alloc hzw _).grown g3 (by simp; omega) (fun j hj => (World.ownsRow.lt Ow.out j hj).1))
        have O3 : Hid (w3.ownsRow w.heap.size 33 1 (.slice A3 (m + 1) c3) (m + 1) ((O ++ [a]).map fun z => sval z.1)) := Lib.hid (by rw [List.map_append, List.map_cons, List.map_nil, Va.out]; exact o3)
        have E3 : Hid (O ++ [a] = if true = true then insZ l X (Z.take (i + 1)) else Z.take (i + 1)) := Lib.hid (by rw [if_pos rfl, O1.out, Ts.out, insZ_snoc Hd.out])
        have A3_ : Hid (((Z.take (i + 1)).any fun z => lessI X.2 z.2 l) = true) := Lib.hid (by rw [AnyS.out]; rfl)
        have L3 : Hid ((O ++ [a]).length = m + 1) := Lib.hid (by rw [List.length_append, Ol.out]; rfl)
        clear o3 g3 h3
        go_wp2_with fail
        go_roundg (n - (i + 1))
        case rel => exact ⟨i + 1, m + 1, _, _, true, O ++ [a], by omega, by omega, by go_num, rfl, rfl, L3.out, by omega, A3_.out, E3.out, O3.out, B3.out⟩
        case measure => omega
    · obtain rfl : n = i := by omega
      have Tk : Hid (Z.take n = Z) := Lib.hid (List.take_of_length_le (by rw [hlz.out]; exact Nat.le_refl _))
      rcases d with _ | _
      · have O1 : Hid (O = Z) := Lib.hid (HO.out.trans (by rw [if_neg (by decide)]; exact Tk.out))
        have hmn : m = n := by rw [← Ol.out, O1.out, hlz.out]
        subst hmn
        have Vx : Hid (sval X.1 = .slice P N cp) := Lib.hid (by rw [← EX.out]; rfl)
        go_wp2_with (at_builtin; go_must (refine wpList_appV rfl _ _ rfl w.heap.size (.slice A' m cc) m (O.map fun z => sval z.1) rfl (World.ownsRow.alloc Ow.out _) wr.heap.size (P, N, cp) rfl (by rw [World.cell?_alloc_at _ _ _ _ rfl]; rfl) (by omega) (by simp; omega) ?_); intro A3 c3 w3 o3 g3 h3)
        have B3 : Hid (Below w.heap.size w w3) := Lib.hid ((Be.out.alloc hzw _).grown g3 (by simp; omega) (fun j hj => (World.ownsRow.lt Ow.out j hj).1))
        have O3 : Hid (w3.ownsRow w.heap.size 33 1 (.slice A3 (m + 1) c3) (m + 1) ((insZ N X Z).map fun z => sval z.1)) := Lib.hid (by
          rw [insZ_none (by rw [← Tk.out]; exact Hd.out), List.map_append, List.map_cons, List.map_nil, Vx.out, ← O1.out]; exact o3)
        clear o3 g3 h3
        go_wp2_with fail
        go_ret
        exact ⟨_, _, rfl, O3.out, B3.out⟩
      · have O1 : Hid (O = insZ N X Z) := Lib.hid (by rw [HO.out, if_pos rfl, Tk.out])
        have hmn : m = n + 1 := by rw [← Ol.out, O1.out, insZ_length, hlz.out]
        subst hmn
        have O3 : Hid (wr.ownsRow w.heap.size 33 1 (.slice A' (n + 1) cc) (n + 1) ((insZ N X Z).map fun z => sval z.1)) := Lib.hid (by rw [← O1.out]; exact Ow.out)
        go_wp2_with fail
        go_ret
        exact ⟨_, _, rfl, O3.out, Be.out⟩

section
variable {w : World} {base m cc c2 : Nat} {A A2 : Option Addr} {us : List SV} {F : List (List Int)} {Z : List PZ}
theorem zip_at (h1 : us.length = m) (h2 : F.length = m) {i : Nat} (hi : i < m) : (us.zip F)[i]'(by rw [List.length_zip]; omega) = (us.getD i sd0, F.getD i []) := by
  rw [List.getElem_zip, List.getD_eq_getElem?_getD, List.getElem?_eq_getElem (by omega), List.getD_eq_getElem?_getD, List.getElem?_eq_getElem (by omega)]; rfl
theorem mem_zip_at (h1 : us.length = m) (h2 : F.length = m) {z : PZ} (hz : z ∈ us.zip F) : ∃ t, t < m ∧ z = (us.getD t sd0, F.getD t []) := by
  obtain ⟨t, ht, e⟩ := List.mem_iff_getElem.1 hz
  have ht2 : t < m := by rw [List.length_zip] at ht; omega
  exact ⟨t, ht2, by rw [← e, zip_at h1 h2 ht2]⟩
theorem ss_of_perm (hs : SS w base base A m cc us F) (ho : w.ownsRow base 33 1 (.slice A2 m c2) m (Z.map fun z => sval z.1)) (hp : Z.Perm (us.zip F)) : SS w base base A2 m c2 (Z.map (·.1)) (Z.map (·.2)) := by
  have hz : Z.length = m := by rw [hp.length_eq, List.length_zip, hs.lv, hs.lx]; omega
  have e1 : ∀ j (hj : j < m), (Z.map (·.1)).getD j sd0 = (Z[j]'(by omega)).1 := fun j hj => by
    rw [List.getD_eq_getElem?_getD, List.getElem?_map, List.getElem?_eq_getElem (by omega)]; rfl
  have e2 : ∀ j (hj : j < m), (Z.map (·.2)).getD j [] = (Z[j]'(by omega)).2 := fun j hj => by
    rw [List.getD_eq_getElem?_getD, List.getElem?_map, List.getElem?_eq_getElem (by omega)]; rfl
  have hpw : (us.zip F).Pairwise fun a b => (sval a.1).ownBlock = none ∨ (sval a.1).ownBlock ≠ (sval b.1).ownBlock := by
    rw [List.pairwise_iff_getElem]
    intro i j hi hj hij
    rw [List.length_zip] at hi hj
    have := hs.lv
    have := hs.lx
    rw [zip_at hs.lv hs.lx (by omega), zip_at hs.lv hs.lx (by omega)]
    exact hs.dis i j hij (by omega)
  have hpz := (hp.pairwise_iff (R := fun a b : PZ => (sval a.1).ownBlock = none ∨ (sval a.1).ownBlock ≠ (sval b.1).ownBlock) fun {x y} h => by
    rcases h with h | h
    · rcases e : (sval y.1).ownBlock with _ | b
      · exact .inl rfl
      · exact .inr (by rw [h]; simp)
    · exact .inr fun e => h e.symm).2 hpw
  refine ⟨by rw [List.map_map]; exact ho, by simp [hz], by simp [hz], fun i hi => ?_, fun i j hij hj => ?_⟩
  · rw [e1 i hi, e2 i hi]
    obtain ⟨t, ht, e⟩ := mem_zip_at hs.lv hs.lx (hp.mem_iff.1 (List.getElem_mem (show i < Z.length by omega)))
    rw [e]; exact hs.row t ht
  · rw [e1 i (by omega), e1 j hj]
    exact (List.pairwise_iff_getElem.1 hpz) i j (by omega) (by omega) hij
end

set_option maxHeartbeats 16000000 in
set_option maxRecDepth 100000 in
theorem ctRep : CtImmM 23 IsRep := by
  intro a A n c vs xss M mb cm us0 yss w g s ha
  have G := Lib.hid g
  have S := Lib.hid s
  have HX := Lib.hid g.rr
  have HY := Lib.hid s.rr
  have hlx : Hid (xss.length = n) := Lib.hid g.rr.lx
  have hly : Hid (yss.length = mb) := Lib.hid s.rr.lx
  clear g s
  go_enter Try.func23, Try.ntmps23
  go_wp2_with fail
  refine (ctIdx a A n c vs xss M mb cm us0 yss w G.out S.out ha).mono ?_
  rintro e w1 ⟨v, rfl, hv, b1⟩
  have B1 := Lib.hid b1
  have hz1 := b1.size
  have S0 := Lib.hid (SS.lit0 w1 w.heap.size w.heap.size hz1)
  have Dec : (¬ FewC a xss yss ∧ (v = 0 ∨ 200 < v)) ∨ (∃ k : Nat, SubG a xss yss ∧ Crd (fun p => Mb yss a.toNat p ∧ CMin a.toNat (Mb xss a.toNat) p p) k ∧ v = (k : Int) ∧ 1 ≤ k ∧ k ≤ 200) := by
    rcases hv with ⟨hs, k, hk, rfl⟩ | ⟨hn, rfl⟩
    · by_cases h2 : k ≤ 200
      · exact .inr ⟨k, hs, hk, rfl, crd_sub (crd_one (idL a.toNat)) hk fun x hx => by subst hx; exact ⟨.one, cmin_id (gB_sgp hs.1)⟩, h2⟩
      · exact .inl ⟨fun ⟨_, k', hk', hl⟩ => by have := hk.uniq hk'; omega, .inr (by omega)⟩
    · exact .inl ⟨fun h => hn h.1, .inl rfl⟩
  clear b1 hv G S
  rcases Dec with ⟨hn, hv⟩ | ⟨k, hs, hk, rfl, hk1, hk2⟩
  · have Fin : Hid (IsRep a xss yss []) := Lib.hid (.inr ⟨hn, rfl⟩)
    clear hn
    rcases hv with rfl | h2
    · go_wp2_with fail
      go_ret
      exact ⟨_, _, _, _, _, rfl, S0.out, Fin.out, B1.out.alloc hz1 _⟩
    · have d0 : (v == 0) = false := by rw [beq_eq_false_iff_ne]; omega
      have d1 : decide ((200 : Int) < v) = true := by simp; omega
      go_wp2_with fail
      go_ret
      exact ⟨_, _, _, _, _, rfl, S0.out, Fin.out, B1.out.alloc hz1 _⟩
  · have Fw : Hid (FewC a xss yss) := Lib.hid ⟨hs, k, hk, hk2⟩
    obtain ⟨N, rfl, hN1, hN2, hg8, hpm, hok⟩ := gB_pm hs.1
    obtain ⟨N', eN, _, _, hg8b, _, hok2⟩ := gB_pm hs.2.1
    obtain rfl : N = N' := by omega
    have Ok : Hid (∀ g ∈ xss, Pn N g) := Lib.hid hok
    have Ok2 : Hid (∀ g ∈ yss, Pn N g) := Lib.hid hok2
    have hn8 : n ≤ 8 := by rw [← hlx.out]; exact hg8
    have hm8 : mb ≤ 8 := by rw [← hly.out]; exact hg8b
    rw [Int.toNat_natCast] at hk
    have Hk := Lib.hid hk
    have HH := Lib.hid (sgp_mb Ok.out hN1 hN2)
    have d0 : ((k : Int) == 0) = false := by rw [beq_eq_false_iff_ne]; omega
    have d1 : decide ((200 : Int) < (k : Int)) = false := by simp; omega
    clear hs hpm hok hok2 hg8 hg8b eN hk S0
    go_wp2_with fail
    refine (specBuild N n c A vs xss w1 (HX.out.up B1.out) hN1 hN2 hn8 Ok).mono ?_
    rintro e w2 ⟨g, L, ch, rfl, hc, hw, b2⟩
    have W2 := Lib.hid hw
    have C2 := Lib.hid hc
    have B2 : Hid (Below w.heap.size w w2) := Lib.hid (btr B1.out b2)
    have Y2 := Lib.hid (HY.out.up B2.out)
    have hz2 := B2.out.size
    clear hc hw b2 HX HY B1
    go_wp2_with fail
    refine (specIdent N w2 (by omega)).mono ?_
    rintro e w3 ⟨A3, c3, rfl, s3, b3⟩
    have hz3 := b3.size
    have S3 : Hid (SS (w3.alloc (.cells #[.slice A3 N c3] 33)) w2.heap.size w2.heap.size (some ⟨w3.heap.size, 0, none⟩) 1 1 [(A3, N, c3)] [idL N]) := Lib.hid (SS.litOne s3 hz3)
    have C3 : Hid (Cn (w3.alloc (.cells #[.slice A3 N c3] 33)) w1.heap.size g N ch L) := Lib.hid ((C2.out.up b3).up ((Below.refl _ _).alloc (Nat.le_refl _) _))
    have Ap3 : Hid (∀ b, (Value.slice (some ⟨w3.heap.size, 0, none⟩) 1 1).ownBlock = some b → ¬ Mut N L b) := Lib.hid fun b hb hm => by
      have h1 := (C2.out.mut hm).2
      have hb2 : some w3.heap.size = some b := hb
      injection hb2 with hb2
      omega
    have B3 : Hid (Below w2.heap.size w2 (w3.alloc (.cells #[.slice A3 N c3] 33))) := Lib.hid (b3.alloc hz3 _)
    have I3 : Hid (∀ r ∈ [idL N], Mb yss N r ∧ CMin N (Mb xss N) r r) := Lib.hid fun r hr => by
      rw [List.mem_singleton.1 hr]; exact ⟨.one, cmin_id HH.out⟩
    clear s3 b3
    go_wp2_with fail
    go_loopg [9, 10] 201 (fun gg v iv wr => ∃ (i m cc : Nat) (A' : Option Addr) (us : List SV) (F : List (List Int)), i ≤ m ∧ 201 - i ≤ gg ∧ iv = .int .i64 (i : Nat) ∧ v = .slice A' m cc ∧ SS wr w2.heap.size w2.heap.size A' m cc us F ∧ Cn wr w1.heap.size g N ch L ∧ (∀ b, (Value.slice A' m cc).ownBlock = some b → ¬ Mut N L b) ∧ idL N ∈ F ∧ F.Nodup ∧ (∀ r ∈ F, Mb yss N r ∧ CMin N (Mb xss N) r r) ∧ (∀ t, t < i → ∀ q ∈ yss, ∀ x, CMin N (Mb xss N) (compL (F.getD t []) q) x → x ∈ F) ∧ Below w2.heap.size w2 wr)
    case atStart => exact ⟨0, 1, _, _, _, _, by omega, by omega, rfl, rfl, S3.out, C3.out, Ap3.out, by simp, by simp, I3.out, fun t ht => absurd ht (by omega), B3.out⟩
    case round =>
      clear S3 C3 Ap3 B3 I3 hz3
      obtain ⟨i, m, cc, A', us, F, hi, hgg, rfl, rfl, hss, hc, hap, hid, hnd, hmb, hcl, bel⟩ := hrel
      have Ss := Lib.hid hss
      have Cj := Lib.hid hc
      have Ap := Lib.hid hap
      have Id := Lib.hid hid
      have Nd := Lib.hid hnd
      have Mbs := Lib.hid hmb
      have Cl := Lib.hid hcl
      have Be := Lib.hid bel
      have hlf : Hid (F.length = m) := Lib.hid hss.lx
      have hm200 : m ≤ 200 := by rw [← hss.lx]; exact Nat.le_trans (crd_sub ⟨F, hnd, fun _ => Iff.rfl, rfl⟩ Hk.out fun x hx => hmb x hx) hk2
      clear hss hc hap hid hnd hmb hcl bel
      by_cases hlt : i < m
      · obtain ⟨r, er⟩ : ∃ r, F.getD i [] = r := ⟨_, rfl⟩
        have Er := Lib.hid er
        have hrF : r ∈ F := getD_of (by rw [hlf.out]; exact hlt) er
        have RP : Hid (Pn N r) := Lib.hid ((Mbs.out r hrF).1.pn Ok2.out hN1 hN2)
        have RM := Lib.hid (Mbs.out r hrF).1
        have hli : i < m := hlt
        clear er hrF
        go_wp2_with fail
        go_loopg [9, 11] mb (fun gg v kv wr => ∃ (kk m cc : Nat) (A' : Option Addr) (us : List SV) (F : List (List Int)), kk ≤ mb ∧ mb - kk ≤ gg ∧ kv = .int .i64 (kk : Nat) ∧ v = .slice A' m cc ∧ SS wr w2.heap.size w2.heap.size A' m cc us F ∧ Cn wr w1.heap.size g N ch L ∧ (∀ b, (Value.slice A' m cc).ownBlock = some b → ¬ Mut N L b) ∧ idL N ∈ F ∧ F.Nodup ∧ (∀ r ∈ F, Mb yss N r ∧ CMin N (Mb xss N) r r) ∧ (∀ t, t < i → ∀ q ∈ yss, ∀ x, CMin N (Mb xss N) (compL (F.getD t []) q) x → x ∈ F) ∧ i < m ∧ F.getD i [] = r ∧ (∀ q ∈ yss.take kk, ∀ x, CMin N (Mb xss N) (compL r q) x → x ∈ F) ∧ Below w2.heap.size w2 wr)
        case atStart => exact ⟨0, _, _, _, _, _, Nat.zero_le _, by omega, rfl, rfl, Ss.out, Cj.out, Ap.out, Id.out, Nd.out, Mbs.out, Cl.out, hlt, Er.out, fun q hq => by simp at hq, Be.out⟩
        case round =>
          clear Ss Cj Ap Id Nd Mbs Cl Be hlf hm200 Er hi hlt hli
          obtain ⟨kk, m, cc, A', us, F, hkk, hg2, rfl, rfl, hss, hc, hap, hid, hnd, hmb, hcl, him, er, hck, bel⟩ := hrel
          have Ss := Lib.hid hss
          have Cj := Lib.hid hc
          have Ap := Lib.hid hap
          have Id := Lib.hid hid
          have Nd := Lib.hid hnd
          have Mbs := Lib.hid hmb
          have Cl := Lib.hid hcl
          have Er := Lib.hid er
          have Ck_ := Lib.hid hck
          have Be := Lib.hid bel
          have hlf : Hid (F.length = m) := Lib.hid hss.lx
          have hm200 : m ≤ 200 := by rw [← hss.lx]; exact Nat.le_trans (crd_sub ⟨F, hnd, fun _ => Iff.rfl, rfl⟩ Hk.out fun x hx => hmb x hx) hk2
          have hzw := bel.size
          clear hss hc hap hid hnd hmb hcl er hck bel
          by_cases hkt : kk < mb
          · obtain ⟨b, off, A6, l, c6, q, eA, hb, hv, eq_, y1, rq, lq, hl6⟩ := Y2.out.at_ hkt
            subst eA
            have hqm : q ∈ yss := by rw [← eq_]; exact getD_memL (by rw [hly.out]; exact hkt)
            have hqP := Ok2.out q hqm
            obtain rfl : l = N := by have := hqP.2; omega
            obtain ⟨b3, off3, A5, l3, c5, r', eA, hb3, ev3, ey3, x3, ri3, ly3, hl7⟩ := Ss.out.rr.at_ him
            subst eA
            obtain rfl : r' = r := by rw [← ey3]; exact Er.out
            obtain rfl : l3 = l := by have := RP.out.2; omega
            have QQ := Lib.hid hqP
            have Qm := Lib.hid hqm
            have Eq := Lib.hid eq_
            have Rq2 := Lib.hid (rq.up Be.out)
            have Rr2 := Lib.hid ri3
            have y2 := (Be.out.cell (p := ⟨b, off + kk, none⟩) hb).trans y1
            have hbw : b < wr.heap.size := by omega
            have r0 : (0 : Int) ≤ kk := by omega
            have r1 : (kk : Int) < mb := by omega
            have r2 : (0 : Int) ≤ i := by omega
            have r3 : (i : Int) < m := by omega
            have CP : Hid (Pn l3 (compL r' q)) := Lib.hid (RP.out.comp hqP)
            clear hv eq_ rq hqP hqm y1 ev3 ey3 ri3 ly3 hl7 hl6 lq
            go_wp2_with fail
            go_region_held3 (fun w' => w'.cell? ⟨b3, off3 + i, none⟩ = some (.slice A5 l3 c5) ∧ w'.cell? ⟨b, off + kk, none⟩ = some (.slice A6 l3 c6))
              (first | exact ⟨x3, y2⟩ | exact hS1 | exact hS2 | go_keep)
              (first
                | (have _q := s7; clear _q; go_at_call 64; refine (specCosMin w1.heap.size g l3 c7 A7 ch L xss (compL r' q) _ ?_ ?_ ?_ CP hN1 hN2 ?_).mono ?_; (exact Cj.out.up b7); (exact W2.out); (exact s7.ri_); (exact Lib.hid Ok.out); rintro e w8 ⟨A8, c8, x, rfl, s8, hx, b8'⟩
                   have b8 : Below wr.heap.size wr w8 := btr b7 ⟨b8'.os, b8'.tape, b8'.output, b8'.size, b8'.block⟩
                   have hS2 := And.intro ((b8.cell (p := ⟨b3, off3 + i, none⟩) hb3).trans x3) ((b8.cell (p := ⟨b, off + kk, none⟩) hbw).trans y2))
                | (go_at_call 65; refine (specComp A5 A6 c5 c6 l3 r' q _ ?_ ?_ ?_ ?_ ?_ hN2).mono ?_; (exact Rr2.out); (exact Rq2.out); (exact Lib.hid RP.out.2); (exact Lib.hid QQ.out.2); (exact Lib.hid RP.out.1); rintro e w7 ⟨A7, c7, rfl, s7, b7'⟩
                   have b7 : Below wr.heap.size wr w7 := ⟨b7'.os, b7'.tape, b7'.output, b7'.size, b7'.block⟩
                   have hS1 := And.intro ((b7.cell (p := ⟨b3, off3 + i, none⟩) hb3).trans x3) ((b7.cell (p := ⟨b, off + kk, none⟩) hbw).trans y2)))
            have Hx := Lib.hid hx
            have XP : Hid (Pn l3 x) := Lib.hid (hx.1.pn HH.out CP.out)
            have hz78 : wr.heap.size ≤ w7.heap.size := b7.size
            have S8 : Hid (Slc w8 wr.heap.size A8 l3 c8 x) := Lib.hid (s8.mono hz78)
            have B8 := Lib.hid b8
            have Ss8 := Lib.hid (Ss.out.up b8)
            have C8 := Lib.hid (Cj.out.up b8)
            have Be8 : Hid (Below w2.heap.size w2 w8) := Lib.hid (btr Be.out b8)
            have hz8 := Be8.out.size
            have FP : Hid (∀ y ∈ F, Pn l3 y) := Lib.hid fun y hy => (Mbs.out y hy).1.pn Ok2.out hN1 hN2
            have Tk : ∀ (F' : List (List Int)), (∀ z ∈ F, z ∈ F') → x ∈ F' → ∀ q' ∈ yss.take (kk + 1), ∀ x', CMin l3 (Mb xss l3) (compL r' q') x' → x' ∈ F' := fun F' hsub hxF q' hq' x' hx' => by
              rw [List.take_succ_eq_append_getElem (by rw [hly.out]; exact hkt)] at hq'
              rcases List.mem_append.1 hq' with hq' | hq'
              · exact hsub _ (Ck_.out q' hq' x' hx')
              · have e1 : yss[kk]'(by rw [hly.out]; exact hkt) = q := by rw [← Eq.out, List.getD_eq_getElem?_getD, List.getElem?_eq_getElem (by rw [hly.out]; exact hkt)]; rfl
                rw [List.mem_singleton.1 hq', e1] at hx'
                rw [hx'.uniq HH.out CP.out Hx.out]; exact hxF
            have TkH := Lib.hid Tk
            clear hS1 hS2 s7 s8 b7 b8 x3 y2 hx Tk hz78
            go_wp2_with fail
            refine (specIdxL l3 m cc c8 (some ⟨b3, off3, none⟩) A8 us F x w8 Ss8.out.rr S8.out.ri_ XP FP (by omega)).mono ?_
            rintro e w9 ⟨ix, rfl, hix, b9⟩
            have S9 := Lib.hid (S8.out.up b9)
            have Ss9 := Lib.hid (Ss8.out.up b9)
            have C9 := Lib.hid (C8.out.up b9)
            have Be9 : Hid (Below w2.heap.size w2 w9) := Lib.hid (btr Be8.out b9)
            have hz9 := Be9.out.size
            have hz89 : wr.heap.size ≤ w9.heap.size := Nat.le_trans B8.out.size b9.size
            clear b9 S8 Ss8 C8
            rcases hix with ⟨rfl, hxn⟩ | ⟨hi0, hxi⟩
            · have dm : decide ((-1 : Int) < 0) = true := by decide
              have Hxn := Lib.hid hxn
              have D9 : ∀ t, t < m → (sval (us.getD t sd0)).ownBlock = none ∨ (sval (us.getD t sd0)).ownBlock ≠ (sval (A8, l3, c8)).ownBlock := lies_dis (w := wr) Ss.out S9.out.lies (Nat.le_refl _)
              have D9h := Lib.hid D9
              clear hxn D9
              go_wp2_with (at_builtin; go_must (refine wpList_app2_at rfl _ _ rfl rfl (Ss9.out.alloc _) w9.heap.size A8 l3 c8 x rfl (by rw [World.cell?_alloc_at _ _ _ _ rfl]; rfl) ((S9.out.mono hzw).alloc _) D9h.out (by omega) (by simp; omega) ?_); intro A10 c10 w10 s10 g10 h10)
              have Ss10 := Lib.hid s10
              have Al : Below w9.heap.size w9 (w9.alloc (.cells #[.slice A8 l3 c8] 33)) := (Below.refl _ _).alloc (Nat.le_refl _) _
              have B10 : Hid (Below w2.heap.size w2 w10) := Lib.hid ((Be9.out.alloc hz9 _).grown g10 (by simp; omega) (fun j hj => (Ss9.out.lt_ j hj).1))
              have Ap10 : Hid (∀ b, (Value.slice A10 (m + 1) c10).ownBlock = some b → ¬ Mut l3 L b) := Lib.hid fun b hb hm => by
                rcases h10 with e | e
                · exact Ap.out b (e ▸ hb) hm
                · have h1 := (C9.out.mut hm).2
                  rw [e] at hb
                  injection hb with hb
                  simp at hb; omega
              have C10 : Hid (Cn w10 w1.heap.size g l3 ch L) := Lib.hid ((C9.out.up Al).beside (Ss9.out.alloc (.cells #[.slice A8 l3 c8] 33)).own g10 Ap.out)
              have Id10 : Hid (idL l3 ∈ F ++ [x]) := Lib.hid (List.mem_append_left _ Id.out)
              have Nd10 : Hid ((F ++ [x]).Nodup) := Lib.hid (List.nodup_append.2 ⟨Nd.out, by simp, fun a ha b hb e => by rw [List.mem_singleton] at hb; subst hb; subst e; exact Hxn.out ha⟩)
              have Mb10 : Hid (∀ r ∈ F ++ [x], Mb yss l3 r ∧ CMin l3 (Mb xss l3) r r) := Lib.hid fun z hz => by
                rcases List.mem_append.1 hz with hz | hz
                · exact Mbs.out z hz
                · rw [List.mem_singleton.1 hz]
                  refine ⟨?_, Hx.out.cos HH.out CP.out Hx.out.1⟩
                  obtain ⟨h, hh, e⟩ := Hx.out.1
                  rw [e]
                  have hG := sgp_mb Ok2.out hN1 hN2
                  exact hG.mul _ _ (mb_le hG (fun g hg => by have := Fw.out.1.2.2 g hg; rwa [Int.toNat_natCast] at this) hh) (.mul RM.out Qm.out)
              have Cl10 : Hid (∀ t, t < i → ∀ q ∈ yss, ∀ x', CMin l3 (Mb xss l3) (compL ((F ++ [x]).getD t []) q) x' → x' ∈ F ++ [x]) := Lib.hid fun t ht q' hq' x' hx' => by
                rw [List.getD_eq_getElem?_getD, List.getElem?_append_left (by rw [hlf.out]; omega), ← List.getD_eq_getElem?_getD] at hx'
                exact List.mem_append_left _ (Cl.out t ht q' hq' x' hx')
              have Er10 : Hid ((F ++ [x]).getD i [] = r') := Lib.hid (by rw [List.getD_eq_getElem?_getD, List.getElem?_append_left (by rw [hlf.out]; omega), ← List.getD_eq_getElem?_getD]; exact Er.out)
              have Ck10 : Hid (∀ q ∈ yss.take (kk + 1), ∀ x', CMin l3 (Mb xss l3) (compL r' q) x' → x' ∈ F ++ [x]) := Lib.hid (TkH.out (F ++ [x]) (fun z hz => List.mem_append_left _ hz) (by simp))
              clear s10 g10 h10 Al
              go_wp2_with fail
              go_roundg (mb - (kk + 1))
              case rel => exact ⟨kk + 1, m + 1, _, _, _, F ++ [x], by omega, by omega, by go_num, rfl, Ss10.out, C10.out, Ap10.out, Id10.out, Nd10.out, Mb10.out, Cl10.out, by omega, Er10.out, Ck10.out, B10.out⟩
              case measure => omega
            · have dm : decide (ix < 0) = false := by simp; omega
              have Ck10 : Hid (∀ q ∈ yss.take (kk + 1), ∀ x', CMin l3 (Mb xss l3) (compL r' q) x' → x' ∈ F) := Lib.hid (TkH.out F (fun z hz => hz) hxi)
              clear hxi hi0
              go_wp2_with fail
              go_roundg (mb - (kk + 1))
              case rel => exact ⟨kk + 1, m, _, _, _, F, by omega, by omega, by go_num, rfl, Ss9.out, C9.out, Ap.out, Id.out, Nd.out, Mbs.out, Cl.out, him, Er.out, Ck10.out, Be9.out⟩
              case measure => omega
          · obtain rfl : mb = kk := by omega
            have Cl2 : Hid (∀ t, t < i + 1 → ∀ q ∈ yss, ∀ x, CMin N (Mb xss N) (compL (F.getD t []) q) x → x ∈ F) := Lib.hid fun t ht q hq x hx => by
              rcases Nat.lt_or_ge t i with h | h
              · exact Cl.out t h q hq x hx
              · obtain rfl : t = i := by omega
                rw [Er.out] at hx
                exact Ck_.out q (by rw [List.take_of_length_le (by rw [hly.out]; exact Nat.le_refl _)]; exact hq) x hx
            go_wp2_with fail
            go_roundg (201 - (i + 1))
            case rel => exact ⟨i + 1, m, _, _, _, F, by omega, by omega, by go_num, rfl, Ss.out, Cj.out, Ap.out, Id.out, Nd.out, Mbs.out, Cl2.out, Be.out⟩
            case measure => omega
      · obtain rfl : m = i := by omega
        have Mem : Hid (∀ p, p ∈ F ↔ Mb yss N p ∧ CMin N (Mb xss N) p p) := Lib.hid (by
          obtain ⟨V, hV, _⟩ := crd_mb Ok.out hN1 hN2
          refine reps_all HH.out hV Ok2.out hN1 hN2 Id.out Mbs.out fun r hr q hq x hx => ?_
          obtain ⟨t, ht, rfl⟩ := mem_at hr
          exact Cl.out t (by rw [← hlf.out]; exact ht) q hq x hx)
        have FP : Hid (∀ y ∈ F, Pn N y) := Lib.hid fun y hy => (Mbs.out y hy).1.pn Ok2.out hN1 hN2
        have O0 := Lib.hid (SS.lit0 wr wr.heap.size wr.heap.size (Nat.le_refl _)).own
        have hlu : Hid (us.length = m) := Lib.hid Ss.out.lv
        clear Cl Id Cj Ap
        obtain ⟨wl, rfl⟩ : ∃ wl, wl = wr := ⟨_, rfl⟩
        go_wp2_with fail
        go_loopg [13, 14] m (fun gg v iv wr => ∃ (i cc2 : Nat) (A2 : Option Addr) (Z : List PZ), i ≤ m ∧ m - i ≤ gg ∧ iv = .int .i64 (i : Nat) ∧ v = .slice A2 i cc2 ∧ wr.ownsRow wl.heap.size 33 1 (.slice A2 i cc2) i (Z.map fun z => sval z.1) ∧ Z.Perm ((us.zip F).take i) ∧ (Z.Pairwise fun a b => LxI N a.2 b.2) ∧ Below wl.heap.size wl wr)
        case atStart => exact ⟨0, _, _, [], Nat.zero_le _, by omega, rfl, rfl, O0.out, by simp, List.Pairwise.nil, (Below.refl _ _).alloc (Nat.le_refl _) _⟩
        case round =>
          clear O0
          obtain ⟨i, cc2, A2, Z, hi2, hg2, rfl, rfl, hown, hpm, hsr, bel⟩ := hrel
          have Ow := Lib.hid hown
          have Pz := Lib.hid hpm
          have Sr := Lib.hid hsr
          have Be2 := Lib.hid bel
          have Ss2 := Lib.hid (Ss.out.up bel)
          have hlz : Hid (Z.length = i) := Lib.hid (by rw [hpm.length_eq, List.length_take, List.length_zip, hlu.out, hlf.out]; omega)
          have Zm : Hid (∀ z ∈ Z, ∃ t, t < i ∧ z = (us.getD t sd0, F.getD t [])) := Lib.hid fun z hz => by
            obtain ⟨t, ht, e⟩ := List.mem_iff_getElem.1 (hpm.mem_iff.1 hz)
            have ht2 : t < i := by rw [List.length_take] at ht; omega
            refine ⟨t, ht2, ?_⟩
            rw [← e, List.getElem_take, zip_at hlu.out hlf.out (by omega)]
          clear hown hpm hsr bel
          by_cases hlt : i < m
          · obtain ⟨b3, off3, A5, l3, c5, r, eA, hb3, ev3, ey3, x3, ri3, ly3, hl7⟩ := Ss2.out.rr.at_ hlt
            subst eA
            have hrP := FP.out r (getD_of (by rw [hlf.out]; exact hlt) ey3)
            obtain rfl : l3 = N := by have := hrP.2; omega
            have RP := Lib.hid hrP
            have Rr := Lib.hid ri3
            have Zr : Hid (RR wr wr.heap.size A2 i (Z.map (·.1)) (Z.map (·.2))) := Lib.hid (rr_of_own (World.ownsRow.mono Ow.out (Nat.zero_le _)) hlz.out fun z hz => by
              obtain ⟨t, ht, rfl⟩ := Zm.out z hz
              have h1 := Ss2.out.rr.rows t (by omega)
              exact ⟨h1, Ss2.out.rr.lens t (by omega), Ss2.out.rr.caps t (by omega)⟩)
            have Zp : Hid (∀ z ∈ Z, Pn l3 z.2) := Lib.hid fun z hz => by
              obtain ⟨t, ht, rfl⟩ := Zm.out z hz
              exact FP.out _ (getD_memL (by rw [hlf.out]; omega))
            have Znr : Hid (∀ z ∈ Z, z.2 ≠ r) := Lib.hid fun z hz e => by
              obtain ⟨t, ht, rfl⟩ := Zm.out z hz
              have e : F.getD t [] = r := e
              rw [← ey3, List.getD_eq_getElem?_getD, List.getElem?_eq_getElem (by rw [hlf.out]; omega), List.getD_eq_getElem?_getD, List.getElem?_eq_getElem (by rw [hlf.out]; omega)] at e
              have := (List.getElem_inj (h₀ := by rw [hlf.out]; omega) (h₁ := by rw [hlf.out]; omega) Nd.out).1 (Option.some.inj (congrArg some e))
              omega
            have Ts : Hid ((us.zip F).take (i + 1) = (us.zip F).take i ++ [((A5, l3, c5), r)]) := Lib.hid (by
              rw [List.take_succ_eq_append_getElem (by rw [List.length_zip, hlu.out, hlf.out]; omega), zip_at hlu.out hlf.out hlt, ev3, ey3])
            have q0 : (0 : Int) ≤ i := by omega
            have q1 : (i : Int) < m := by omega
            clear ev3 ey3 hrP ri3 ly3 hl7 hb3
            go_wp2_with fail
            refine (specInsP l3 i cc2 c5 A2 A5 Z r wr Zr.out Rr.out RP Zp (by omega)).mono ?_
            rintro e w4 ⟨A4, c4, rfl, ow4, b4⟩
            have Ow4 : Hid (w4.ownsRow wl.heap.size 33 1 (.slice A4 (i + 1) c4) (i + 1) ((insZ l3 ((A5, l3, c5), r) Z).map fun z => sval z.1)) := Lib.hid (World.ownsRow.mono ow4 Be2.out.size)
            have B4 : Hid (Below wl.heap.size wl w4) := Lib.hid (btr Be2.out b4)
            have P4 : Hid ((insZ l3 ((A5, l3, c5), r) Z).Perm ((us.zip F).take (i + 1))) := Lib.hid (by
              rw [Ts.out]
              exact insZ_perm.trans ((List.Perm.cons _ Pz.out).trans (List.perm_append_singleton _ _).symm))
            have S4 : Hid ((insZ l3 ((A5, l3, c5), r) Z).Pairwise fun a b => LxI l3 a.2 b.2) := Lib.hid (insZ_sorted RP.out Zp.out Znr.out Sr.out)
            clear ow4 b4 x3
            go_wp2_with fail
            go_roundg (m - (i + 1))
            case rel => exact ⟨i + 1, _, _, _, by omega, by omega, by go_num, rfl, Ow4.out, P4.out, S4.out, B4.out⟩
            case measure => omega
          · obtain rfl : m = i := by omega
            have Tk : Hid (Z.Perm (us.zip F)) := Lib.hid (by have := Pz.out; rwa [List.take_of_length_le (by rw [List.length_zip, hlu.out, hlf.out]; omega)] at this)
            have SZ : Hid (SS wr w.heap.size w.heap.size A2 m cc2 (Z.map (·.1)) (Z.map (·.2))) := Lib.hid ((ss_of_perm Ss2.out (World.ownsRow.mono Ow.out Be.out.size) Tk.out).mono hz2 hz2)
            have Fin : Hid (IsRep N xss yss (Z.map (·.2))) := Lib.hid (.inl ⟨Fw.out, by rw [Int.toNat_natCast]; exact List.Pairwise.map (fun z : PZ => z.2) (fun _ _ h => h) Sr.out, fun p => by
              rw [Int.toNat_natCast, ← Mem.out p, (Tk.out.map (·.2)).mem_iff, List.map_snd_zip (by rw [hlu.out, hlf.out]; exact Nat.le_refl _)]⟩)
            have B9 : Hid (Below w.heap.size w wr) := Lib.hid (btr (btr B2.out Be.out) Be2.out)
            go_wp2_with fail
            go_ret
            exact ⟨_, _, _, _, _, rfl, SZ.out, Fin.out, B9.out⟩
end Go.Proofs.Ytcjcmhoalomjfaa

/- The size of a slice of slices against whatever is left. No condition. -/
namespace Go.Proofs.Ytcjcmhoalomjfaa
open Go.RowKit

set_option maxHeartbeats 1000000 in
theorem szSS2 (A : Option Addr) (n c : Nat) (left : Int) (vs : List SV) (xss : List (List Int)) (w : World) (hx : RR w w.heap.size A n vs xss) (hn : n ≤ maxLen) (hl : Hid (∀ i, i < n → (vs.getD i sd0).2.1 ≤ maxLen)) (h0 : 0 ≤ left) (h1 : left ≤ 1048576) :
    Calls Try.prog 40 #[.slice A n c, .int .i64 left] w fun e w' => e = .returned (.int .i64 (if ((n + tot vs n : Nat) : Int) ≤ left then left - ((n + tot vs n : Nat) : Int) else -1)) ∧ w = w' := by
  have HX := Lib.hid hx
  clear hx
  have hn' := hn
  unfold maxLen at hn'
  obtain ⟨r, er⟩ : ∃ r : Int, (if ((n + tot vs n : Nat) : Int) ≤ left then left - ((n + tot vs n : Nat) : Int) else -1) = r := ⟨_, rfl⟩
  rw [er]
  have Er := Lib.hid er
  clear er
  by_cases h : (n : Int) ≤ left
  · have d : decide (left - (n : Int) < 0) = false := by simp; omega
    have hwl : IntKind.i64.wrap (left - (n : Int)) = left - (n : Int) := by rw [IntKind.wrap_i64]; omega
    go_enter Try.func40, Try.ntmps40
    go_wp2
    go_loop [1, 5] (fun v i => ∃ (k T : Nat), k ≤ n ∧ Hid (tot vs k = T) ∧ ((n + T : Nat) : Int) ≤ left ∧ i = .int .i64 (k : Nat) ∧ v = .int .i64 (left - ((n + T : Nat) : Int))) (fun _ i => n - (intOf i).toNat)
    case atStart => exact ⟨0, 0, Nat.zero_le _, Lib.hid rfl, by omega, rfl, by go_num⟩
    case round =>
      obtain ⟨k, T, hk, hT, hT1, rfl, rfl⟩ := hrel
      clear hwl
      by_cases hlt : k < n
      · obtain ⟨b, off, A5, l, c5, y, rfl, hb, ev, ey, hc, hr, hy, hlc⟩ := HX.out.at_ hlt
        have hl1 := hl.out k hlt
        have hT2 : Hid (tot vs (k + 1) = T + l) := Lib.hid (by rw [tot_succ, hT.out, ev])
        have hm : Hid (tot vs (k + 1) ≤ tot vs n) := Lib.hid (tot_mono hlt)
        rw [ev] at hl1
        clear ev ey hr
        by_cases hfit : ((n + T + l : Nat) : Int) ≤ left
        · have d2 : decide (left - ((n + T : Nat) : Int) - (l : Int) < 0) = false := by simp; omega
          go_wp2_with fail
          refine (szS A5 l c5 _ w (by omega) (by omega) hl1).mono ?_
          rintro e w1 ⟨rfl, rfl⟩
          rw [if_pos (by omega)]
          go_wp2
          go_round
          case rel => exact ⟨k + 1, T + l, by omega, hT2, by omega, by go_num, by go_num⟩
          case measure => simp [intOf]; omega
        · go_wp2_with fail
          refine (szS A5 l c5 _ w (by omega) (by omega) hl1).mono ?_
          rintro e w1 ⟨rfl, rfl⟩
          rw [if_neg (by omega)]
          go_wp2
          go_ret
          exact ⟨by rw [← Er.out, if_neg (by have := hm.out; rw [hT2.out] at this; omega)]; rfl, rfl⟩
      · have hkn : k = n := by omega
        subst hkn
        go_wp2
        go_ret
        exact ⟨by rw [← Er.out, hT.out, if_pos hT1]; go_num, rfl⟩
  · have d : decide (left - (n : Int) < 0) = true := by simp; omega
    have er2 : r = -1 := by rw [← Er.out, if_neg (by omega)]
    have hwl : IntKind.i64.wrap (left - (n : Int)) = left - (n : Int) := by rw [IntKind.wrap_i64]; omega
    subst er2
    go_enter Try.func40, Try.ntmps40
    go_wp2
    go_ret
    exact ⟨rfl, rfl⟩
end Go.Proofs.Ytcjcmhoalomjfaa

/- markInt64SS from a later mark on: for laws over two slices of slices. Condition: at most 1048576 entries. -/
namespace Go.Proofs.Ytcjcmhoalomjfaa
open Go.RowKit

set_option maxHeartbeats 800000 in
/-- markInt64SS, from a later mark on. -/
theorem markSSk (S : Nat) (A : Option Addr) (n c bo bi : Nat) (vs : List SV) (xss : List (List Int)) (w : World) (hx : SS w bo bi A n c vs xss) (hn : n ≤ 1048576) (hlen : Hid (tot vs n ≤ 1048576)) (hS : S ≤ 1048576) :
    Calls Try.prog 45 #[.slice A n c, .int .i64 (1 + (S : Int))] w fun e w' => ∃ X, X ≤ 2097152 ∧ Hid (S + tot vs n = X) ∧ e = .returned (.int .i64 (1 + (X : Int))) ∧ SS w' bo bi A n c vs (marks2 vs (1 + S) n) ∧ OnlyIn w w' vs n := by
  have HX := Lib.hid hx
  clear hx
  go_enter Try.func45, Try.ntmps45
  go_wp2
  go_loopw [1, 5] (fun v i wr => ∃ (k T : Nat) (zss : List (List Int)), k ≤ n ∧ Hid (S + tot vs k = T) ∧ i = .int .i64 (k : Nat) ∧ v = .int .i64 (1 + (T : Int)) ∧ SS wr bo bi A n c vs zss ∧ (∀ t, t < k → zss.getD t [] = marks (1 + S + tot vs t) (vs.getD t sd0).2.1) ∧ OnlyIn w wr vs n) (fun _ i _ => n - (intOf i).toNat)
  case atStart => exact ⟨0, S, _, Nat.zero_le _, Lib.hid rfl, rfl, rfl, HX.out, fun j h => absurd h (by omega), OnlyIn.refl _ _ _⟩
  case round =>
    obtain ⟨k, T, zss, hk, hT, rfl, rfl, ss, hz, oi⟩ := hrel
    have Ss := Lib.hid ss
    have Hz := Lib.hid hz
    have Oi := Lib.hid oi
    have hT1 : T ≤ 2097152 := by have := tot_mono (vs := vs) hk; have := hT.out; have := hlen.out; omega
    clear ss hz oi
    by_cases hlt : k < n
    · obtain ⟨g, rfl, _, _, hc⟩ := Ss.out.at_ (by omega)
      have c1 := hc k hlt
      have r1 := Ss.out.row k hlt
      have hl : (vs.getD k sd0).2.1 ≤ 1048576 := Nat.le_trans (tot_row hlt) hlen.out
      have hT2 : Hid (S + tot vs (k + 1) = T + (vs.getD k sd0).2.1) := Lib.hid (by rw [tot_succ, ← hT.out]; omega)
      have ev : sval (vs.getD k sd0) = .slice (vs.getD k sd0).1 (vs.getD k sd0).2.1 (vs.getD k sd0).2.2 := rfl
      have MK : Hid (∀ w2 ys, Slc w2 bi (vs.getD k sd0).1 (vs.getD k sd0).2.1 (vs.getD k sd0).2.2 ys → wr.grownBy w2 (Value.slice (vs.getD k sd0).1 (vs.getD k sd0).2.1 (vs.getD k sd0).2.2).ownBlock → SS w2 bo bi (some ⟨g, 0, none⟩) n c vs (zss.set k ys) ∧ OnlyIn w w2 vs n) :=
        Lib.hid fun w2 ys h1 h2 => ⟨Ss.out.marked hlt h1 h2, Oi.out.step (i := k) h2 hlt⟩
      obtain ⟨l, el⟩ : ∃ l, (vs.getD k sd0).2.1 = l := ⟨_, rfl⟩
      obtain ⟨A5, e5⟩ : ∃ A5, (vs.getD k sd0).1 = A5 := ⟨_, rfl⟩
      obtain ⟨c5, ec5⟩ : ∃ c5, (vs.getD k sd0).2.2 = c5 := ⟨_, rfl⟩
      have El := Lib.hid el
      rw [e5, el, ec5] at c1 r1 MK
      rw [el] at hl hT2
      have R1 := Lib.hid r1
      clear r1 e5 el ec5 hc ev
      go_wp2_with fail
      refine (markK bi (1 + T) _ A5 l c5 _ wr R1.out (by omega) (by omega) (by omega)).mono ?_
      rintro e w2 ⟨rfl, s2, g2⟩
      have M2 := Lib.hid (MK.out w2 _ s2 g2)
      clear s2 g2
      go_wp2_with fail
      go_roundw
      case rel =>
        refine ⟨k + 1, T + l, zss.set k (marks (1 + T) l), by omega, hT2, by go_num, by go_num, M2.out.1, fun t ht => ?_, M2.out.2⟩
        by_cases e : k = t
        · subst e
          rw [List.getD_eq_getElem?_getD, List.getElem?_set, if_pos rfl, if_pos (by rw [Ss.out.lx]; exact hlt), El.out, show 1 + S + tot vs k = 1 + T by rw [← hT.out]; omega]; rfl
        · rw [List.getD_eq_getElem?_getD, List.getElem?_set, if_neg e, ← List.getD_eq_getElem?_getD]; exact Hz.out t (by omega)
      case measure => simp [intOf]; omega
    · have hkn : k = n := by omega
      subst hkn
      have Ez : Hid (zss = marks2 vs (1 + S) k) := Lib.hid (by
        apply List.ext_getElem (by rw [Ss.out.lx]; simp [marks2])
        intro i h1 h2
        have h3 : i < k := by rw [← Ss.out.lx]; exact h1
        have := Hz.out i h3
        rw [← marks2_getD h3, List.getD_eq_getElem?_getD, List.getD_eq_getElem?_getD, List.getElem?_eq_getElem h1, List.getElem?_eq_getElem h2] at this
        exact this)
      go_wp2
      go_ret
      exact ⟨T, hT1, hT, rfl, by rw [← Ez.out]; exact Ss.out, Oi.out⟩
end Go.Proofs.Ytcjcmhoalomjfaa

/- Slices of slices where a row elsewhere has turned. No condition. -/
namespace Go.Proofs.Ytcjcmhoalomjfaa
open Go.RowKit

theorem SS.farM {w w' : World} {bo bi n c n' c' : Nat} {A A' : Option Addr} {vs : List SV} {xss : List (List Int)} (h : SS w bo bi A n c vs xss) (hg : w.grownBy w' (Value.slice A' n' c').ownBlock)
    (hd : ∀ k, (Value.slice A n c).ownBlock = some k → (Value.slice A' n' c').ownBlock = some k → False)
    (hd2 : ∀ s, s < n → ∀ k, (sval (vs.getD s sd0)).ownBlock = some k → (Value.slice A' n' c').ownBlock = some k → False) : SS w' bo bi A n c vs xss := by
  have ap : ∀ v : Value, (∀ k, v.ownBlock = some k → (Value.slice A' n' c').ownBlock = some k → False) → v.ownBlock = none ∨ v.ownBlock ≠ (Value.slice A' n' c').ownBlock := fun v hv => by
    rcases e : v.ownBlock with _ | k
    · exact .inl rfl
    · exact .inr fun e2 => hv k e e2.symm
  refine ⟨h.own.kept hg (ap _ hd), h.lv, h.lx, fun i hi => (h.row i hi).kept hg (ap _ (hd2 i hi)), h.dis⟩
end Go.Proofs.Ytcjcmhoalomjfaa

/- The walk of the law FnExactCosetRepresentatives: it returns true at every input, and writes nothing that was there. No condition but the program's own contract. -/
namespace Go.Proofs.Ytcjcmhoalomjfaa
open Go.RowKit

set_option maxHeartbeats 4000000 in
set_option maxRecDepth 100000 in
/-- The law FnExactCosetRepresentatives. -/
theorem lawCosetRepresentatives (IM : CtImmM 18 IsRep) (i0 : Int) (g1A : Option Addr) (g1n g1c : Nat) (g1v : List SV) (g1x : List (List Int)) (g2A : Option Addr) (g2n g2c : Nat) (g2v : List SV) (g2x : List (List Int)) (w : World) (wfi0 : I64 i0) (hg1 : RR w w.heap.size g1A g1n g1v g1x) (hmg1 : g1n ≤ maxLen) (hkg1 : Hid (∀ i, i < g1n → (g1v.getD i sd0).2.1 ≤ maxLen)) (hg2 : RR w w.heap.size g2A g2n g2v g2x) (hmg2 : g2n ≤ maxLen) (hkg2 : Hid (∀ i, i < g2n → (g2v.getD i sd0).2.1 ≤ maxLen)) :
    Calls Try.prog 10 #[.int .i64 i0, .slice g1A g1n g1c, .slice g2A g2n g2c] w fun e w' => e = .returned (.bool true) ∧ Below w.heap.size w w' := by
  have Hg1 := Lib.hid hg1
  have hlxg1 := Lib.hid hg1.lx
  have hllg1 := Lib.hid hg1.lens
  have Hg2 := Lib.hid hg2
  have hlxg2 := Lib.hid hg2.lx
  have hllg2 := Lib.hid hg2.lens
  clear hg1 hg2
  by_cases hT0 : ((g1n + tot g1v g1n : Nat) : Int) ≤ (1048576 : Int)
  · skip
    have HT0 := Lib.hid hT0
    obtain ⟨L1, eL1⟩ : ∃ L : Int, (1048576 : Int) - ((g1n + tot g1v g1n : Nat) : Int) = L := ⟨_, rfl⟩
    have hl1 : 0 ≤ L1 ∧ L1 ≤ 1048576 := by omega
    have EL1 := Lib.hid eL1
    clear eL1
    have hLn1 : ¬ L1 < 0 := by omega
    have dLn1 : decide (L1 < 0) = false := by simp; omega
    by_cases hT1 : ((g2n + tot g2v g2n : Nat) : Int) ≤ L1
    · skip
      have HT1 := Lib.hid hT1
      obtain ⟨LE, eLE⟩ : ∃ L : Int, L1 - ((g2n + tot g2v g2n : Nat) : Int) = L := ⟨_, rfl⟩
      have hLE : ¬ LE < 0 := by omega
      have dLE : decide (LE < 0) = false := by simp; omega
      have ELE := Lib.hid eLE
      clear eLE
      have hEq1 := EL1.out
      have hng1 : g1n ≤ 1048576 := by omega
      have KTg1 : Hid (tot g1v g1n ≤ 1048576) := Lib.hid (by omega)
      have hlg1 : Hid (∀ i, i < g1n → (g1v.getD i sd0).2.1 ≤ 1048576) := Lib.hid fun i hi => by have := tot_row (vs := g1v) hi; have := KTg1.out; omega
      have hylg1 : Hid (∀ i, i < g1n → (g1x.getD i []).length ≤ 1048576) := Lib.hid fun i hi => by rw [hllg1.out i hi]; exact hlg1.out i hi
      have hng2 : g2n ≤ 1048576 := by omega
      have KTg2 : Hid (tot g2v g2n ≤ 1048576) := Lib.hid (by omega)
      have hlg2 : Hid (∀ i, i < g2n → (g2v.getD i sd0).2.1 ≤ 1048576) := Lib.hid fun i hi => by have := tot_row (vs := g2v) hi; have := KTg2.out; omega
      have hylg2 : Hid (∀ i, i < g2n → (g2x.getD i []).length ≤ 1048576) := Lib.hid fun i hi => by rw [hllg2.out i hi]; exact hlg2.out i hi
      clear hT0 hT1 hEq1
      go_enter Try.func10, Try.ntmps10
      go_wp2_with fail
      have K0 := szSS2 g1A g1n g1c 1048576 g1v g1x w Hg1.out hmg1 hkg1 (by decide) (by decide)
      refine K0.mono ?_
      rintro e w0 ⟨rfl, rfl⟩
      clear K0
      rw [if_pos HT0.out]
      rw [EL1.out]
      go_wp2_with fail
      have K0 := szSS2 g2A g2n g2c L1 g2v g2x w Hg2.out hmg2 hkg2 hl1.1 hl1.2
      refine K0.mono ?_
      rintro e w0 ⟨rfl, rfl⟩
      clear K0
      rw [if_pos HT1.out]
      rw [ELE.out]
      go_wp2_with fail
      refine (toSS g1A g1n g1c g1v g1x w Hg1.out hng1 hlg1).mono ?_
      rintro e w1 ⟨A1, c1, us1, rfl, s1, q1, b1⟩
      have Z1 : Hid (w.heap.size ≤ w1.heap.size) := Lib.hid b1.size
      have B1 : Hid (Below w.heap.size w w1) := Lib.hid b1
      have Ftg1_1 := Lib.hid s1
      have Ltg1 : Hid (Lies A1 g1n c1 w.heap.size w1.heap.size) := Lib.hid s1.lt_
      have Itg1 : Hid (∀ t, t < g1n → ∀ k, (sval (us1.getD t sd0)).ownBlock = some k → w.heap.size ≤ k ∧ k < w1.heap.size) := Lib.hid fun t ht => (s1.row t ht).lt_
      have Qtg1 := Lib.hid q1
      have hltg1 : Hid (∀ i, i < g1n → (us1.getD i sd0).2.1 ≤ 1048576) := Lib.hid fun i hi => by rw [q1 i hi]; exact hlg1.out i hi
      clear s1 b1 q1
      go_wp2_with fail
      refine (toSS g2A g2n g2c g2v g2x w1 (Hg2.out.up B1.out) hng2 hlg2).mono ?_
      rintro e w2 ⟨A2, c2, us2, rfl, s2, q2, b2⟩
      have Z2 : Hid (w1.heap.size ≤ w2.heap.size) := Lib.hid b2.size
      have B2 : Hid (Below w.heap.size w w2) := Lib.hid (btr B1.out b2)
      have Ftg1_2 := Lib.hid (Ftg1_1.out.up b2)
      clear Ftg1_1
      have Ftg2_2 := Lib.hid s2
      have Ltg2 : Hid (Lies A2 g2n c2 w1.heap.size w2.heap.size) := Lib.hid s2.lt_
      have Itg2 : Hid (∀ t, t < g2n → ∀ k, (sval (us2.getD t sd0)).ownBlock = some k → w1.heap.size ≤ k ∧ k < w2.heap.size) := Lib.hid fun t ht => (s2.row t ht).lt_
      have Qtg2 := Lib.hid q2
      have hltg2 : Hid (∀ i, i < g2n → (us2.getD i sd0).2.1 ≤ 1048576) := Lib.hid fun i hi => by rw [q2 i hi]; exact hlg2.out i hi
      clear s2 b2 q2
      go_wp2_with fail
      have K3 := ctRep i0 A1 g1n c1 us1 g1x A2 g2n c2 us2 g2x w2 ⟨Ftg1_2.out.rr, hng1, hltg1.out⟩ ⟨Ftg2_2.out.rr, hng2, hltg2.out⟩ wfi0
      refine K3.mono ?_
      clear K3
      rintro e w3 ⟨A3, n3, c3, us3, z3, rfl, s3, r3, b3⟩
      have m3 : n3 ≤ 1048576 := by have := (boundRep r3).1; have := s3.lx; omega
      have Z3 : Hid (w2.heap.size ≤ w3.heap.size) := Lib.hid b3.size
      have B3 : Hid (Below w.heap.size w w3) := Lib.hid (btr B2.out b3)
      have Ftg1_3 := Lib.hid (Ftg1_2.out.up b3)
      clear Ftg1_2
      have Ftg2_3 := Lib.hid (Ftg2_2.out.up b3)
      clear Ftg2_2
      have HR := Lib.hid r3
      clear r3
      have FW_3 := Lib.hid s3
      have LW : Hid (Lies A3 n3 c3 w2.heap.size w3.heap.size) := Lib.hid s3.lt_
      have IW : Hid (∀ t, t < n3 → ∀ k, (sval (us3.getD t sd0)).ownBlock = some k → w2.heap.size ≤ k ∧ k < w3.heap.size) := Lib.hid fun t ht => (s3.row t ht).lt_
      clear s3 b3
      clear Ftg1_3
      clear Ftg2_3
      go_wp2_with fail
      refine (toSS g1A g1n g1c g1v g1x w3 (Hg1.out.up B3.out) hng1 hlg1).mono ?_
      rintro e w4 ⟨A4, c4, us4, rfl, s4, q4, b4⟩
      have Z4 : Hid (w3.heap.size ≤ w4.heap.size) := Lib.hid b4.size
      have B4 : Hid (Below w.heap.size w w4) := Lib.hid (btr B3.out b4)
      have FW_4 := Lib.hid (FW_3.out.up b4)
      clear FW_3
      have Fxg1_4 := Lib.hid s4
      have Lxg1 : Hid (Lies A4 g1n c4 w3.heap.size w4.heap.size) := Lib.hid s4.lt_
      have Ixg1 : Hid (∀ t, t < g1n → ∀ k, (sval (us4.getD t sd0)).ownBlock = some k → w3.heap.size ≤ k ∧ k < w4.heap.size) := Lib.hid fun t ht => (s4.row t ht).lt_
      have Qxg1 := Lib.hid q4
      have hlxg1 : Hid (∀ i, i < g1n → (us4.getD i sd0).2.1 ≤ 1048576) := Lib.hid fun i hi => by rw [q4 i hi]; exact hlg1.out i hi
      clear s4 b4 q4
      go_wp2_with fail
      refine (toSS g2A g2n g2c g2v g2x w4 (Hg2.out.up B4.out) hng2 hlg2).mono ?_
      rintro e w5 ⟨A5, c5, us5, rfl, s5, q5, b5⟩
      have Z5 : Hid (w4.heap.size ≤ w5.heap.size) := Lib.hid b5.size
      have B5 : Hid (Below w.heap.size w w5) := Lib.hid (btr B4.out b5)
      have FW_5 := Lib.hid (FW_4.out.up b5)
      clear FW_4
      have Fxg1_5 := Lib.hid (Fxg1_4.out.up b5)
      clear Fxg1_4
      have Fxg2_5 := Lib.hid s5
      have Lxg2 : Hid (Lies A5 g2n c5 w4.heap.size w5.heap.size) := Lib.hid s5.lt_
      have Ixg2 : Hid (∀ t, t < g2n → ∀ k, (sval (us5.getD t sd0)).ownBlock = some k → w4.heap.size ≤ k ∧ k < w5.heap.size) := Lib.hid fun t ht => (s5.row t ht).lt_
      have Qxg2 := Lib.hid q5
      have hlxg2 : Hid (∀ i, i < g2n → (us5.getD i sd0).2.1 ≤ 1048576) := Lib.hid fun i hi => by rw [q5 i hi]; exact hlg2.out i hi
      clear s5 b5 q5
      go_wp2_with fail
      have K6 := IM i0 A4 g1n c4 us4 g1x A5 g2n c5 us5 g2x w5 ⟨Fxg1_5.out.rr, hng1, hlxg1.out⟩ ⟨Fxg2_5.out.rr, hng2, hlxg2.out⟩ wfi0
      refine K6.mono ?_
      clear K6
      rintro e w6 ⟨A6, n6, c6, us6, z6, rfl, s6, r6, b6⟩
      have m6 : n6 ≤ 1048576 := by have := (boundRep r6).1; have := s6.lx; omega
      have Z6 : Hid (w5.heap.size ≤ w6.heap.size) := Lib.hid b6.size
      have B6 : Hid (Below w.heap.size w w6) := Lib.hid (btr B5.out b6)
      have FW_6 := Lib.hid (FW_5.out.up b6)
      clear FW_5
      have Fxg1_6 := Lib.hid (Fxg1_5.out.up b6)
      clear Fxg1_5
      have Fxg2_6 := Lib.hid (Fxg2_5.out.up b6)
      clear Fxg2_5
      have e6 := HR.out.uniq r6
      subst e6
      clear r6
      have FG_6 := Lib.hid s6
      have LG : Hid (Lies A6 n6 c6 w5.heap.size w6.heap.size) := Lib.hid s6.lt_
      have IG : Hid (∀ t, t < n6 → ∀ k, (sval (us6.getD t sd0)).ownBlock = some k → w5.heap.size ≤ k ∧ k < w6.heap.size) := Lib.hid fun t ht => (s6.row t ht).lt_
      clear s6 b6
      go_wp2_with fail
      refine (eqRR_same A6 A3 n6 c6 n3 c3 us6 us3 _ w6 FG_6.out.rr FW_6.out.rr (by omega) (Lib.hid fun i hi => (boundRep HR.out).2.1 i (by rw [FG_6.out.lx]; exact hi))).mono ?_
      rintro e w7 ⟨rfl, b7⟩
      have Z7 : Hid (w6.heap.size ≤ w7.heap.size) := Lib.hid b7.size
      have B7 : Hid (Below w.heap.size w w7) := Lib.hid (btr B6.out b7)
      have FW_7 := Lib.hid (FW_6.out.up b7)
      clear FW_6
      have Fxg1_7 := Lib.hid (Fxg1_6.out.up b7)
      clear Fxg1_6
      have Fxg2_7 := Lib.hid (Fxg2_6.out.up b7)
      clear Fxg2_6
      have FG_7 := Lib.hid (FG_6.out.up b7)
      clear FG_6
      clear b7
      go_wp2_with fail
      refine (toSS g1A g1n g1c g1v g1x w7 (Hg1.out.up B7.out) hng1 hlg1).mono ?_
      rintro e w8 ⟨A8, c8, us8, rfl, s8, q8, b8⟩
      have Z8 : Hid (w7.heap.size ≤ w8.heap.size) := Lib.hid b8.size
      have B8 : Hid (Below w.heap.size w w8) := Lib.hid (btr B7.out b8)
      have FW_8 := Lib.hid (FW_7.out.up b8)
      clear FW_7
      have Fxg1_8 := Lib.hid (Fxg1_7.out.up b8)
      clear Fxg1_7
      have Fxg2_8 := Lib.hid (Fxg2_7.out.up b8)
      clear Fxg2_7
      have FG_8 := Lib.hid (FG_7.out.up b8)
      clear FG_7
      have Fyg1_8 := Lib.hid s8
      have Lyg1 : Hid (Lies A8 g1n c8 w7.heap.size w8.heap.size) := Lib.hid s8.lt_
      have Iyg1 : Hid (∀ t, t < g1n → ∀ k, (sval (us8.getD t sd0)).ownBlock = some k → w7.heap.size ≤ k ∧ k < w8.heap.size) := Lib.hid fun t ht => (s8.row t ht).lt_
      have Qyg1 := Lib.hid q8
      have hlyg1 : Hid (∀ i, i < g1n → (us8.getD i sd0).2.1 ≤ 1048576) := Lib.hid fun i hi => by rw [q8 i hi]; exact hlg1.out i hi
      clear s8 b8 q8
      go_wp2_with fail
      refine (eqRR_same A4 A8 g1n c4 g1n c8 us4 us8 _ w8 Fxg1_8.out.rr Fyg1_8.out.rr (by omega) hylg1).mono ?_
      rintro e w9 ⟨rfl, b9⟩
      have Z9 : Hid (w8.heap.size ≤ w9.heap.size) := Lib.hid b9.size
      have B9 : Hid (Below w.heap.size w w9) := Lib.hid (btr B8.out b9)
      have FW_9 := Lib.hid (FW_8.out.up b9)
      clear FW_8
      have Fxg1_9 := Lib.hid (Fxg1_8.out.up b9)
      clear Fxg1_8
      have Fxg2_9 := Lib.hid (Fxg2_8.out.up b9)
      clear Fxg2_8
      have FG_9 := Lib.hid (FG_8.out.up b9)
      clear FG_8
      have Fyg1_9 := Lib.hid (Fyg1_8.out.up b9)
      clear Fyg1_8
      clear b9
      clear Fyg1_9
      go_wp2_with fail
      refine (toSS g2A g2n g2c g2v g2x w9 (Hg2.out.up B9.out) hng2 hlg2).mono ?_
      rintro e w10 ⟨A10, c10, us10, rfl, s10, q10, b10⟩
      have Z10 : Hid (w9.heap.size ≤ w10.heap.size) := Lib.hid b10.size
      have B10 : Hid (Below w.heap.size w w10) := Lib.hid (btr B9.out b10)
      have FW_10 := Lib.hid (FW_9.out.up b10)
      clear FW_9
      have Fxg1_10 := Lib.hid (Fxg1_9.out.up b10)
      clear Fxg1_9
      have Fxg2_10 := Lib.hid (Fxg2_9.out.up b10)
      clear Fxg2_9
      have FG_10 := Lib.hid (FG_9.out.up b10)
      clear FG_9
      have Fyg2_10 := Lib.hid s10
      have Lyg2 : Hid (Lies A10 g2n c10 w9.heap.size w10.heap.size) := Lib.hid s10.lt_
      have Iyg2 : Hid (∀ t, t < g2n → ∀ k, (sval (us10.getD t sd0)).ownBlock = some k → w9.heap.size ≤ k ∧ k < w10.heap.size) := Lib.hid fun t ht => (s10.row t ht).lt_
      have Qyg2 := Lib.hid q10
      have hlyg2 : Hid (∀ i, i < g2n → (us10.getD i sd0).2.1 ≤ 1048576) := Lib.hid fun i hi => by rw [q10 i hi]; exact hlg2.out i hi
      clear s10 b10 q10
      go_wp2_with fail
      refine (eqRR_same A5 A10 g2n c5 g2n c10 us5 us10 _ w10 Fxg2_10.out.rr Fyg2_10.out.rr (by omega) hylg2).mono ?_
      rintro e w11 ⟨rfl, b11⟩
      have Z11 : Hid (w10.heap.size ≤ w11.heap.size) := Lib.hid b11.size
      have B11 : Hid (Below w.heap.size w w11) := Lib.hid (btr B10.out b11)
      have FW_11 := Lib.hid (FW_10.out.up b11)
      clear FW_10
      have Fxg1_11 := Lib.hid (Fxg1_10.out.up b11)
      clear Fxg1_10
      have Fxg2_11 := Lib.hid (Fxg2_10.out.up b11)
      clear Fxg2_10
      have FG_11 := Lib.hid (FG_10.out.up b11)
      clear FG_10
      have Fyg2_11 := Lib.hid (Fyg2_10.out.up b11)
      clear Fyg2_10
      clear b11
      clear Fyg2_11
      have KTx : Hid (tot us4 g1n ≤ 1048576) := Lib.hid (by rw [tot_eq g1n Qxg1.out]; exact KTg1.out)
      go_wp2_with fail
      refine (markSS A4 g1n c4 _ _ us4 _ w11 Fxg1_11.out (by omega) KTx).mono ?_
      rintro e w12 ⟨rfl, s12, o12⟩
      have Z12 : Hid (w11.heap.size ≤ w12.heap.size) := Lib.hid o12.size
      have B12 : Hid (Below w.heap.size w w12) := Lib.hid (B11.out.trans (o12.below B11.out.size (fun t ht k e => by have h2 := Ixg1.out t ht k e; have := Z1.out; have := Z2.out; have := Z3.out; have := Z4.out; have := Z5.out; have := Z6.out; have := Z7.out; have := Z8.out; have := Z9.out; have := Z10.out; have := Z11.out; have := Z12.out; omega)))
      have FW_12 := Lib.hid (FW_11.out.only2 o12 (fun k hk t ht e => by have h1 := LW.out k hk; have h2 := Ixg1.out t ht k e; have := Z1.out; have := Z2.out; have := Z3.out; have := Z4.out; have := Z5.out; have := Z6.out; have := Z7.out; have := Z8.out; have := Z9.out; have := Z10.out; have := Z11.out; have := Z12.out; omega) (fun s hs k hk t ht e => by have h1 := IW.out s hs k hk; have h2 := Ixg1.out t ht k e; have := Z1.out; have := Z2.out; have := Z3.out; have := Z4.out; have := Z5.out; have := Z6.out; have := Z7.out; have := Z8.out; have := Z9.out; have := Z10.out; have := Z11.out; have := Z12.out; omega))
      clear FW_11
      have Fxg1_12 := Lib.hid s12
      clear Fxg1_11
      have Fxg2_12 := Lib.hid (Fxg2_11.out.only2 o12 (fun k hk t ht e => by have h1 := Lxg2.out k hk; have h2 := Ixg1.out t ht k e; have := Z1.out; have := Z2.out; have := Z3.out; have := Z4.out; have := Z5.out; have := Z6.out; have := Z7.out; have := Z8.out; have := Z9.out; have := Z10.out; have := Z11.out; have := Z12.out; omega) (fun s hs k hk t ht e => by have h1 := Ixg2.out s hs k hk; have h2 := Ixg1.out t ht k e; have := Z1.out; have := Z2.out; have := Z3.out; have := Z4.out; have := Z5.out; have := Z6.out; have := Z7.out; have := Z8.out; have := Z9.out; have := Z10.out; have := Z11.out; have := Z12.out; omega))
      clear Fxg2_11
      have FG_12 := Lib.hid (FG_11.out.only2 o12 (fun k hk t ht e => by have h1 := LG.out k hk; have h2 := Ixg1.out t ht k e; have := Z1.out; have := Z2.out; have := Z3.out; have := Z4.out; have := Z5.out; have := Z6.out; have := Z7.out; have := Z8.out; have := Z9.out; have := Z10.out; have := Z11.out; have := Z12.out; omega) (fun s hs k hk t ht e => by have h1 := IG.out s hs k hk; have h2 := Ixg1.out t ht k e; have := Z1.out; have := Z2.out; have := Z3.out; have := Z4.out; have := Z5.out; have := Z6.out; have := Z7.out; have := Z8.out; have := Z9.out; have := Z10.out; have := Z11.out; have := Z12.out; omega))
      clear FG_11
      clear s12 o12
      obtain ⟨T, eT⟩ : ∃ T, tot us4 g1n = T := ⟨_, rfl⟩
      have hT9 : T ≤ 1048576 := by rw [← eT]; exact KTx.out
      rw [eT]
      clear eT
      have KTy : Hid (tot us5 g2n ≤ 1048576) := Lib.hid (by rw [tot_eq g2n Qxg2.out]; exact KTg2.out)
      go_wp2_with fail
      refine (markSSk T A5 g2n c5 _ _ us5 _ w12 Fxg2_12.out (by omega) KTy (by omega)).mono ?_
      rintro e w13 ⟨X, hX9, eX, rfl, s13, o13⟩
      have Z13 : Hid (w12.heap.size ≤ w13.heap.size) := Lib.hid o13.size
      have B13 : Hid (Below w.heap.size w w13) := Lib.hid (B12.out.trans (o13.below B12.out.size (fun t ht k e => by have h2 := Ixg2.out t ht k e; have := Z1.out; have := Z2.out; have := Z3.out; have := Z4.out; have := Z5.out; have := Z6.out; have := Z7.out; have := Z8.out; have := Z9.out; have := Z10.out; have := Z11.out; have := Z12.out; have := Z13.out; omega)))
      have FW_13 := Lib.hid (FW_12.out.only2 o13 (fun k hk t ht e => by have h1 := LW.out k hk; have h2 := Ixg2.out t ht k e; have := Z1.out; have := Z2.out; have := Z3.out; have := Z4.out; have := Z5.out; have := Z6.out; have := Z7.out; have := Z8.out; have := Z9.out; have := Z10.out; have := Z11.out; have := Z12.out; have := Z13.out; omega) (fun s hs k hk t ht e => by have h1 := IW.out s hs k hk; have h2 := Ixg2.out t ht k e; have := Z1.out; have := Z2.out; have := Z3.out; have := Z4.out; have := Z5.out; have := Z6.out; have := Z7.out; have := Z8.out; have := Z9.out; have := Z10.out; have := Z11.out; have := Z12.out; have := Z13.out; omega))
      clear FW_12
      have Fxg1_13 := Lib.hid (Fxg1_12.out.only2 o13 (fun k hk t ht e => by have h1 := Lxg1.out k hk; have h2 := Ixg2.out t ht k e; have := Z1.out; have := Z2.out; have := Z3.out; have := Z4.out; have := Z5.out; have := Z6.out; have := Z7.out; have := Z8.out; have := Z9.out; have := Z10.out; have := Z11.out; have := Z12.out; have := Z13.out; omega) (fun s hs k hk t ht e => by have h1 := Ixg1.out s hs k hk; have h2 := Ixg2.out t ht k e; have := Z1.out; have := Z2.out; have := Z3.out; have := Z4.out; have := Z5.out; have := Z6.out; have := Z7.out; have := Z8.out; have := Z9.out; have := Z10.out; have := Z11.out; have := Z12.out; have := Z13.out; omega))
      clear Fxg1_12
      have Fxg2_13 := Lib.hid s13
      clear Fxg2_12
      have FG_13 := Lib.hid (FG_12.out.only2 o13 (fun k hk t ht e => by have h1 := LG.out k hk; have h2 := Ixg2.out t ht k e; have := Z1.out; have := Z2.out; have := Z3.out; have := Z4.out; have := Z5.out; have := Z6.out; have := Z7.out; have := Z8.out; have := Z9.out; have := Z10.out; have := Z11.out; have := Z12.out; have := Z13.out; omega) (fun s hs k hk t ht e => by have h1 := IG.out s hs k hk; have h2 := Ixg2.out t ht k e; have := Z1.out; have := Z2.out; have := Z3.out; have := Z4.out; have := Z5.out; have := Z6.out; have := Z7.out; have := Z8.out; have := Z9.out; have := Z10.out; have := Z11.out; have := Z12.out; have := Z13.out; omega))
      clear FG_12
      clear s13 o13
      go_wp2_with fail
      refine (eqRR_same A6 A3 n6 c6 n3 c3 us6 us3 _ w13 FG_13.out.rr FW_13.out.rr (by omega) (Lib.hid fun i hi => (boundRep HR.out).2.1 i (by rw [FG_13.out.lx]; exact hi))).mono ?_
      rintro e w14 ⟨rfl, b14⟩
      have Z14 : Hid (w13.heap.size ≤ w14.heap.size) := Lib.hid b14.size
      have B14 : Hid (Below w.heap.size w w14) := Lib.hid (btr B13.out b14)
      have FW_14 := Lib.hid (FW_13.out.up b14)
      clear FW_13
      have Fxg1_14 := Lib.hid (Fxg1_13.out.up b14)
      clear Fxg1_13
      have Fxg2_14 := Lib.hid (Fxg2_13.out.up b14)
      clear Fxg2_13
      have FG_14 := Lib.hid (FG_13.out.up b14)
      clear FG_13
      clear b14
      clear Fxg1_14
      clear Fxg2_14
      have KG : Hid (tot us6 n6 ≤ 1048576) := Lib.hid (by
        have h9 := (boundRep HR.out).2.2
        rw [FG_14.out.tot_sum]; exact h9)
      go_wp2_with fail
      refine (markSS A6 n6 c6 _ _ us6 _ w14 FG_14.out (by omega) KG).mono ?_
      rintro e w15 ⟨rfl, s15, o15⟩
      have Z15 : Hid (w14.heap.size ≤ w15.heap.size) := Lib.hid o15.size
      have B15 : Hid (Below w.heap.size w w15) := Lib.hid (B14.out.trans (o15.below B14.out.size (fun t ht k e => by have h2 := IG.out t ht k e; have := Z1.out; have := Z2.out; have := Z3.out; have := Z4.out; have := Z5.out; have := Z6.out; have := Z7.out; have := Z8.out; have := Z9.out; have := Z10.out; have := Z11.out; have := Z12.out; have := Z13.out; have := Z14.out; have := Z15.out; omega)))
      have FW_15 := Lib.hid (FW_14.out.only2 o15 (fun k hk t ht e => by have h1 := LW.out k hk; have h2 := IG.out t ht k e; have := Z1.out; have := Z2.out; have := Z3.out; have := Z4.out; have := Z5.out; have := Z6.out; have := Z7.out; have := Z8.out; have := Z9.out; have := Z10.out; have := Z11.out; have := Z12.out; have := Z13.out; have := Z14.out; have := Z15.out; omega) (fun s hs k hk t ht e => by have h1 := IW.out s hs k hk; have h2 := IG.out t ht k e; have := Z1.out; have := Z2.out; have := Z3.out; have := Z4.out; have := Z5.out; have := Z6.out; have := Z7.out; have := Z8.out; have := Z9.out; have := Z10.out; have := Z11.out; have := Z12.out; have := Z13.out; have := Z14.out; have := Z15.out; omega))
      clear FW_14
      have FG_15 := Lib.hid s15
      clear FG_14
      clear s15 o15
      obtain ⟨U, eU⟩ : ∃ U, tot us6 n6 = U := ⟨_, rfl⟩
      have EU := Lib.hid eU
      have hU9 : U ≤ 1048576 := by rw [← eU]; exact KG.out
      rw [eU]
      clear eU
      go_wp2_with fail
      refine (heldSS A6 n6 c6 _ _ us6 w15 FG_15.out (by omega) KG).mono ?_
      rintro e w' ⟨rfl, rfl⟩
      rw [EU.out]
      go_wp2_with fail
      refine (toSS g1A g1n g1c g1v g1x w15 (Hg1.out.up B15.out) hng1 hlg1).mono ?_
      rintro e w16 ⟨A16, c16, us16, rfl, s16, q16, b16⟩
      have Z16 : Hid (w15.heap.size ≤ w16.heap.size) := Lib.hid b16.size
      have B16 : Hid (Below w.heap.size w w16) := Lib.hid (btr B15.out b16)
      have FW_16 := Lib.hid (FW_15.out.up b16)
      clear FW_15
      have FG_16 := Lib.hid (FG_15.out.up b16)
      clear FG_15
      have Fzg1_16 := Lib.hid s16
      have Lzg1 : Hid (Lies A16 g1n c16 w15.heap.size w16.heap.size) := Lib.hid s16.lt_
      have Izg1 : Hid (∀ t, t < g1n → ∀ k, (sval (us16.getD t sd0)).ownBlock = some k → w15.heap.size ≤ k ∧ k < w16.heap.size) := Lib.hid fun t ht => (s16.row t ht).lt_
      have Qzg1 := Lib.hid q16
      have hlzg1 : Hid (∀ i, i < g1n → (us16.getD i sd0).2.1 ≤ 1048576) := Lib.hid fun i hi => by rw [q16 i hi]; exact hlg1.out i hi
      clear s16 b16 q16
      go_wp2_with fail
      refine (toSS g2A g2n g2c g2v g2x w16 (Hg2.out.up B16.out) hng2 hlg2).mono ?_
      rintro e w17 ⟨A17, c17, us17, rfl, s17, q17, b17⟩
      have Z17 : Hid (w16.heap.size ≤ w17.heap.size) := Lib.hid b17.size
      have B17 : Hid (Below w.heap.size w w17) := Lib.hid (btr B16.out b17)
      have FW_17 := Lib.hid (FW_16.out.up b17)
      clear FW_16
      have FG_17 := Lib.hid (FG_16.out.up b17)
      clear FG_16
      have Fzg1_17 := Lib.hid (Fzg1_16.out.up b17)
      clear Fzg1_16
      have Fzg2_17 := Lib.hid s17
      have Lzg2 : Hid (Lies A17 g2n c17 w16.heap.size w17.heap.size) := Lib.hid s17.lt_
      have Izg2 : Hid (∀ t, t < g2n → ∀ k, (sval (us17.getD t sd0)).ownBlock = some k → w16.heap.size ≤ k ∧ k < w17.heap.size) := Lib.hid fun t ht => (s17.row t ht).lt_
      have Qzg2 := Lib.hid q17
      have hlzg2 : Hid (∀ i, i < g2n → (us17.getD i sd0).2.1 ≤ 1048576) := Lib.hid fun i hi => by rw [q17 i hi]; exact hlg2.out i hi
      clear s17 b17 q17
      go_wp2_with fail
      have K18 := IM i0 A16 g1n c16 us16 g1x A17 g2n c17 us17 g2x w17 ⟨Fzg1_17.out.rr, hng1, hlzg1.out⟩ ⟨Fzg2_17.out.rr, hng2, hlzg2.out⟩ wfi0
      refine K18.mono ?_
      clear K18
      rintro e w18 ⟨A18, n18, c18, us18, z18, rfl, s18, r18, b18⟩
      have m18 : n18 ≤ 1048576 := by have := (boundRep r18).1; have := s18.lx; omega
      have Z18 : Hid (w17.heap.size ≤ w18.heap.size) := Lib.hid b18.size
      have B18 : Hid (Below w.heap.size w w18) := Lib.hid (btr B17.out b18)
      have FW_18 := Lib.hid (FW_17.out.up b18)
      clear FW_17
      have FG_18 := Lib.hid (FG_17.out.up b18)
      clear FG_17
      have Fzg1_18 := Lib.hid (Fzg1_17.out.up b18)
      clear Fzg1_17
      have Fzg2_18 := Lib.hid (Fzg2_17.out.up b18)
      clear Fzg2_17
      have e18 := HR.out.uniq r18
      subst e18
      clear r18
      have FH_18 := Lib.hid s18
      have LH : Hid (Lies A18 n18 c18 w17.heap.size w18.heap.size) := Lib.hid s18.lt_
      have IH : Hid (∀ t, t < n18 → ∀ k, (sval (us18.getD t sd0)).ownBlock = some k → w17.heap.size ≤ k ∧ k < w18.heap.size) := Lib.hid fun t ht => (s18.row t ht).lt_
      clear s18 b18
      clear Fzg1_18
      clear Fzg2_18
      go_wp2_with fail
      refine (eqRR_same A18 A3 n18 c18 n3 c3 us18 us3 _ w18 FH_18.out.rr FW_18.out.rr (by omega) (Lib.hid fun i hi => (boundRep HR.out).2.1 i (by rw [FH_18.out.lx]; exact hi))).mono ?_
      rintro e w19 ⟨rfl, b19⟩
      have Z19 : Hid (w18.heap.size ≤ w19.heap.size) := Lib.hid b19.size
      have B19 : Hid (Below w.heap.size w w19) := Lib.hid (btr B18.out b19)
      have FW_19 := Lib.hid (FW_18.out.up b19)
      clear FW_18
      have FG_19 := Lib.hid (FG_18.out.up b19)
      clear FG_18
      have FH_19 := Lib.hid (FH_18.out.up b19)
      clear FH_18
      clear b19
      go_wp2_with fail
      refine (heldSS A6 n6 c6 _ _ us6 w19 FG_19.out (by omega) KG).mono ?_
      rintro e w' ⟨rfl, rfl⟩
      rw [EU.out]
      go_wp2_with fail
      go_ret
      exact ⟨rfl, B19.out⟩
    · skip
      have HT1 := Lib.hid hT1
      clear hT0 hT1
      go_enter Try.func10, Try.ntmps10
      go_wp2_with fail
      have K0 := szSS2 g1A g1n g1c 1048576 g1v g1x w Hg1.out hmg1 hkg1 (by decide) (by decide)
      refine K0.mono ?_
      rintro e w0 ⟨rfl, rfl⟩
      clear K0
      rw [if_pos HT0.out]
      rw [EL1.out]
      go_wp2_with fail
      have K0 := szSS2 g2A g2n g2c L1 g2v g2x w Hg2.out hmg2 hkg2 hl1.1 hl1.2
      refine K0.mono ?_
      rintro e w0 ⟨rfl, rfl⟩
      clear K0
      rw [if_neg (Int.not_le.2 HT1.out)]
      go_wp2
      go_ret
      exact ⟨rfl, Below.refl _ _⟩
  · skip
    have HT0 := Lib.hid hT0
    clear hT0
    go_enter Try.func10, Try.ntmps10
    go_wp2_with fail
    have K0 := szSS2 g1A g1n g1c 1048576 g1v g1x w Hg1.out hmg1 hkg1 (by decide) (by decide)
    refine K0.mono ?_
    rintro e w0 ⟨rfl, rfl⟩
    clear K0
    rw [if_neg (Int.not_le.2 HT0.out)]
    go_wp2
    go_ret
    exact ⟨rfl, Below.refl _ _⟩
end Go.Proofs.Ytcjcmhoalomjfaa

/- The program's chain: what including one product leaves; the loop over an orbit; members with given entries found link by link. No Go in it. No condition. -/
namespace Go.Proofs.Ytcjcmhoalomjfaa
open Go.RowKit

theorem nd_subP {l' : List Nat} : ∀ {l : List Nat}, l'.Nodup → (∀ x ∈ l', x ∈ l) → l'.length ≤ l.length := by
  induction l' with
  | nil => intro l _ _; simp
  | cons a t ih =>
    intro l hd h
    rw [List.nodup_cons] at hd
    have ha : a ∈ l := h a (by simp)
    have := ih (l := l.erase a) hd.2 fun x hx => by
      have hne : x ≠ a := fun e => hd.1 (e ▸ hx)
      exact (List.mem_erase_of_ne hne).2 (h x (by simp [hx]))
    rw [List.length_erase_of_mem ha] at this
    have h0 : 0 < l.length := List.length_pos_of_mem ha
    simp; omega
section
variable {N k : Nat} {c c' cj : Ch} {p q m : List Int} {O O' : List Nat}

/-- What including one product leaves. -/
structure Ic (N k : Nat) (c c' : Ch) (q : List Int) : Prop where
  low : Low N c' k
  grw : Grw k c c'
  gen : c'.gen k = c.gen k
  sv : Sv N c' k q
  mono : ∀ p, Sv N c k p → Sv N c' k p
theorem Ic.old (h : Low N c k) (hk : k < N) (h1 : 1 ≤ N) (h2 : N ≤ 20) (hq : Mb (c.gen k) N q) (hr : c.rep k (nx q k) ≠ []) (ha : Ap N (k + 1) c c' (compL q (iv (c.rep k (nx q k))))) : Ic N k c c' q :=
  have b := Bp.old h hk h1 h2 hq hr ha
  ⟨b.low, b.grw, b.gen, b.sv, b.mono⟩
theorem Ic.put (h : Low N c k) (hk : k < N) (h1 : 1 ≤ N) (h2 : N ≤ 20) (hq : Mb (c.gen k) N q) (hr : c.rep k (nx q k) = []) : Ic N k c (c.set k (nx q k) q) q := by
  obtain ⟨l1, g1⟩ := h.put hk h1 h2 hq hr
  have hp := hq.pn h.pn h1 h2
  have hne : q ≠ [] := by intro e; have := hp.2; rw [e] at this; simp at this; omega
  refine ⟨l1, g1, rfl, ?_, fun p hs => h.mono_sv l1 g1 hk (fun _ h => h) hs⟩
  have := l1.rep_sv hk (y := nx q k) (by rw [set_at]; exact hne)
  rw [set_at] at this; exact this

/-- The orbit lists the points that have a representative, each once. -/
def Orb (c : Ch) (k : Nat) (O : List Nat) : Prop := O.Nodup ∧ ∀ y, y ∈ O ↔ c.rep k y ≠ []
theorem Orb.congr (h : Orb c k O) (e : ∀ y, c'.rep k y = c.rep k y) : Orb c' k O := ⟨h.1, fun y => by rw [h.2, e]⟩
theorem Orb.put (h : Orb c k O) {y : Nat} (hr : c.rep k y = []) (hq : q ≠ []) : Orb (c.set k y q) k (O ++ [y]) := by
  refine ⟨List.nodup_append.2 ⟨h.1, by simp, fun a ha b hb e => ?_⟩, fun z => ?_⟩
  · rw [List.mem_singleton] at hb
    subst hb; subst e
    exact (h.2 a).1 ha hr
  · rw [List.mem_append, List.mem_singleton, h.2]
    by_cases e : z = y
    · subst e; rw [set_at]; exact ⟨fun _ => hq, fun _ => .inr rfl⟩
    · rw [set_ne (.inr e)]; exact ⟨fun h => h.resolve_right e, fun h => .inl h⟩
theorem Orb.lt (h : Orb c k O) (hr : RepOK N c k) {y : Nat} (hy : y ∈ O) : y < N := (hr.at_ y ((h.2 y).1 hy)).1
theorem Orb.len (h : Orb c k O) (hr : RepOK N c k) : O.length ≤ N := by
  have : O.length ≤ (List.range N).length := nd_subP h.1 fun y hy => List.mem_range.2 (h.lt hr hy)
  simpa using this

/-- Which generators the products of the t-th orbit point are formed with. -/
def gsA (kn : Nat) (gs : List (List Int)) (p : List Int) (t : Nat) : List (List Int) := if t < kn then [p] else gs
/-- The loop over the orbit: i points are done, of the next one j products. -/
structure Bf (N k : Nat) (c1 cj : Ch) (O : List Nat) (p : List Int) (kn i j : Nat) : Prop where
  low : Low N cj k
  grw : Grw k c1 cj
  gen : cj.gen k = c1.gen k
  mono : ∀ q, Sv N c1 k q → Sv N cj k q
  old : ∀ t, t < kn → c1.rep k (O.getD t 0) ≠ []
  len : kn ≤ O.length
  done : ∀ t, t < i → ∀ g ∈ gsA kn (c1.gen k) p t, Sv N cj k (compL (cj.rep k (O.getD t 0)) g)
  part : ∀ s, s < j → Sv N cj k (compL (cj.rep k (O.getD i 0)) ((gsA kn (c1.gen k) p i).getD s []))
theorem Bf.start {c1 : Ch} (h : Low N c1 k) (hO : Orb c1 k O) : Bf N k c1 c1 O p O.length 0 0 :=
  ⟨h, .refl _ _, rfl, fun _ h => h, fun t ht => (hO.2 _).1 (by rw [List.getD_eq_getElem?_getD, List.getElem?_eq_getElem ht]; exact List.getElem_mem _), Nat.le_refl _, fun t ht => absurd ht (by omega), fun t ht => absurd ht (by omega)⟩
theorem getD_pre {O O' : List Nat} (h : O <+: O') {t : Nat} (ht : t < O.length) : O'.getD t 0 = O.getD t 0 := by
  obtain ⟨l, rfl⟩ := h
  rw [List.getD_eq_getElem?_getD, List.getD_eq_getElem?_getD, List.getElem?_append_left ht]
theorem Bf.next {c1 : Ch} {kn i j : Nat} (h : Bf N k c1 cj O p kn i j) (hO : Orb cj k O) (hi : i < O.length) (hpre : O <+: O') (hc : Ic N k cj c' (compL (cj.rep k (O.getD i 0)) ((gsA kn (c1.gen k) p i).getD j []))) : Bf N k c1 c' O' p kn i (j + 1) := by
  have hrep : ∀ t, t < O.length → c'.rep k (O'.getD t 0) = cj.rep k (O.getD t 0) := fun t ht => by
    rw [getD_pre hpre ht]
    exact hc.grw.keep _ _ ((hO.2 _).1 (by rw [List.getD_eq_getElem?_getD, List.getElem?_eq_getElem ht]; exact List.getElem_mem _))
  refine ⟨hc.low, h.grw.trans hc.grw, by rw [hc.gen, h.gen], fun p hs => hc.mono _ (h.mono _ hs), fun t ht => by rw [getD_pre hpre (by have := h.len; omega)]; exact h.old t ht, Nat.le_trans h.len hpre.length_le, fun t ht g hg => ?_, fun s hs => ?_⟩
  · rw [hrep t (by omega)]; exact hc.mono _ (h.done t ht g hg)
  · rw [hrep i hi]
    rcases Nat.lt_or_ge s j with hl | hl
    · exact hc.mono _ (h.part s hl)
    · obtain rfl : s = j := by omega
      exact hc.sv
theorem Bf.round {c1 : Ch} {kn i : Nat} (h : Bf N k c1 cj O p kn i (gsA kn (c1.gen k) p i).length) : Bf N k c1 cj O p kn (i + 1) 0 := by
  refine ⟨h.low, h.grw, h.gen, h.mono, h.old, h.len, fun t ht g hg => ?_, fun s hs => absurd hs (by omega)⟩
  rcases Nat.lt_or_ge t i with hl | hl
  · exact h.done t hl g hg
  · obtain rfl : t = i := by omega
    obtain ⟨s, hs, rfl⟩ := mem_at hg
    exact h.part s hs
/-- The product that is formed next lies in the group of the level. -/
theorem Bf.mb {kn i j : Nat} (h : Bf N k (c.push k p) cj O p kn i j) (hO : Orb cj k O) (hi : i < O.length) (hj : j < (gsA kn ((c.push k p).gen k) p i).length) :
    Mb (cj.gen k) N (compL (cj.rep k (O.getD i 0)) ((gsA kn ((c.push k p).gen k) p i).getD j [])) ∧ Pn N (cj.rep k (O.getD i 0)) ∧ (gsA kn ((c.push k p).gen k) p i).getD j [] ∈ cj.gen k := by
  have hr : cj.rep k (O.getD i 0) ≠ [] := (hO.2 _).1 (by rw [List.getD_eq_getElem?_getD, List.getElem?_eq_getElem hi]; exact List.getElem_mem _)
  have hm : (gsA kn ((c.push k p).gen k) p i).getD j [] ∈ gsA kn ((c.push k p).gen k) p i := by
    rw [List.getD_eq_getElem?_getD, List.getElem?_eq_getElem hj]; exact List.getElem_mem _
  have hg : (gsA kn ((c.push k p).gen k) p i).getD j [] ∈ cj.gen k := by
    rw [h.gen]
    unfold gsA at hm ⊢
    by_cases e : i < kn
    · simp only [if_pos e] at hm ⊢
      rw [List.mem_singleton] at hm
      rw [hm, push_at]; simp
    · simp only [if_neg e] at hm ⊢; exact hm
  exact ⟨.mul (h.low.inn _ hr) hg, (h.low.rep.at_ _ hr).2.1, hg⟩
theorem Bf.all {kn : Nat} (h : UpTo N c k) (hk : k < N) (h1 : 1 ≤ N) (h2 : N ≤ 20) (hp : Pn N p) (hf : Fx k p) (hs : ¬ Sv N c k p) (hb : Bf N k (c.push k p) cj O p kn O.length 0) (hO : Orb cj k O) : Ap N k c cj p := by
  have hl := h.low hk h1 h2
  have hg1 : cj.gen k = c.gen k ++ [p] := by rw [hb.gen, push_at]
  have g0 : Grw k c (c.push k p) := ⟨fun _ _ _ => rfl, fun _ _ _ => rfl, fun i hi => push_ne (by omega)⟩
  have hG := g0.trans hb.grw
  have hat : ∀ y, cj.rep k y ≠ [] → ∃ t, t < O.length ∧ O.getD t 0 = y := fun y hy => by
    obtain ⟨t, ht, e⟩ := List.mem_iff_getElem.1 ((hO.2 y).2 hy)
    exact ⟨t, ht, by rw [List.getD_eq_getElem?_getD, List.getElem?_eq_getElem ht, ← e]; rfl⟩
  have hclose : ∀ y, cj.rep k y ≠ [] → ∀ g ∈ cj.gen k, Sv N cj k (compL (cj.rep k y) g) := fun y hy g hg => by
    obtain ⟨t, ht, et⟩ := hat y hy
    by_cases e : t < kn
    · have hc1 := hb.old t e
      rw [et] at hc1
      rw [hg1] at hg
      rcases List.mem_append.1 hg with hg | hg
      · rw [hG.keep _ _ hc1]
        refine hb.mono _ (Sv.congr (c := c) ?_ fun _ _ _ => rfl)
        exact (h.sv k (Nat.le_refl _) (by omega) _).2 (.mul (hl.inn y hc1) hg)
      · have := hb.done t ht g (by unfold gsA; rw [if_pos e]; exact hg)
        rw [et] at this; exact this
    · have := hb.done t ht g (by unfold gsA; rw [if_neg e, ← hb.gen]; exact hg)
      rw [et] at this; exact this
  have hid : c.rep k k ≠ [] := by rw [hl.rep.one]; intro e; have := idL_length N; rw [e] at this; simp at this; omega
  have hsv : Sv N cj k p := by
    have h3 := hclose k (by rw [hG.keep _ _ hid]; exact hid) p (by rw [hg1]; simp)
    rw [hG.keep _ _ hid, hl.rep.one, hp.idl] at h3
    exact h3
  have hcnt : cnt N c k < cnt N cj k := by
    have hle := cnt_mono (N := N) hG k
    rcases Nat.lt_or_ge (cnt N c k) (cnt N cj k) with hlt | hge
    · exact hlt
    · exfalso
      refine hs (sv_back hsv (Nat.le_refl _) fun j y hj hjN hy => (cnt_same hG hge hj hjN hy).symm)
  refine ⟨hb.low.whole hk h1 h2 hclose ?_, hG, fun q => by rw [hg1]⟩
  rw [hg1, List.length_append]
  have := h.len k (Nat.le_refl _) hk
  simp; omega
/-- At the last link everything that fixes the points before is known. -/
theorem sv_last (h : UpTo N c k) (hk : k + 1 = N) (h1 : 1 ≤ N) (h2 : N ≤ 20) (hp : Pn N p) (hf : Fx k p) : Sv N c k p := by
  have e : nx p k = k := by
    have a := hf.ge hp (by omega)
    have b := hp.lt (x := k) (by omega)
    omega
  have hid := (hf.succ e)
  rw [hk] at hid
  rw [hid.all hp]
  exact (sv_down (h.rep k (Nat.le_refl _) (by omega)) (by omega) (pn_id h1 h2) (fx_id (by omega)) (nx_id (by omega))).2 ((h.sv (k + 1) (by omega) (by omega) _).2 .one)

/-! ### members with given entries -/
theorem UpTo.stab (h : UpTo N c k) (h1 : 1 ≤ N) (h2 : N ≤ 20) {j : Nat} (hj : k ≤ j) (hjN : j ≤ N) (hp : Pn N p) (hf : Fx j p) : Sv N c k p ↔ Sv N c j p := by
  induction j with
  | zero => obtain rfl : k = 0 := by omega
            exact Iff.rfl
  | succ j ih =>
    by_cases e : k = j + 1
    · subst e; exact Iff.rfl
    · rw [ih (by omega) (by omega) (hf.mono (by omega))]
      exact sv_down (h.rep j (by omega) (by omega)) (by omega) hp (hf.mono (by omega)) (hf j (by omega))
theorem UpTo.gpn (h : UpTo N c k) (hk : k ≤ N) : ∀ g ∈ c.gen k, Pn N g := h.pn (Nat.le_refl _) hk
theorem UpTo.mfx (h : UpTo N c k) (h1 : 1 ≤ N) (h2 : N ≤ 20) (hk : k ≤ N) (hm : Mb (c.gen k) N p) : Fx k p := by
  rcases Nat.lt_or_ge k N with hl | hl
  · exact hm.fx (h.gp k (Nat.le_refl _) hl) h1 h2 hk
  · obtain rfl : k = N := by omega
    rw [h.top] at hm
    rw [hm.none_]; exact fx_id (Nat.le_refl _)
/-- A representative of a later link is a member of this one. -/
theorem UpTo.rep_mb (h : UpTo N c k) (h1 : 1 ≤ N) (h2 : N ≤ 20) {j y : Nat} (hj : k ≤ j) (hjN : j < N) (hy : c.rep j y ≠ []) : Mb (c.gen k) N (c.rep j y) := by
  obtain ⟨a1, a2, a3, a4⟩ := (h.rep j hj hjN).at_ y hy
  refine (h.sv k (Nat.le_refl _) (by omega) _).1 ((h.stab h1 h2 hj (by omega) a2 a3).2 ?_)
  exact ((h.mono hj).low hjN h1 h2).rep_sv hjN hy
/-- A member that has the given entries from k on, as far as j. -/
structure Mt (N : Nat) (c : Ch) (k : Nat) (vals : List Int) (m : List Int) (j : Nat) : Prop where
  kj : k ≤ j
  jN : j ≤ N
  pn : Pn N m
  mb : Mb (c.gen k) N m
  ag : ∀ i, k ≤ i → i < j → (nx m i : Int) = vals.getD i 0
  jl : j = k ∨ j ≤ vals.length
/-- No member has one entry more. -/
def NoM (N : Nat) (c : Ch) (k : Nat) (vals : List Int) (j : Nat) : Prop := j < N → j < vals.length → ∀ q, Mb (c.gen k) N q → ¬ ∀ i, k ≤ i → i ≤ j → (nx q i : Int) = vals.getD i 0
theorem Mt.start {vals : List Int} (h1 : 1 ≤ N) (h2 : N ≤ 20) (hk : k ≤ N) : Mt N c k vals (idL N) k :=
  ⟨Nat.le_refl _, hk, pn_id h1 h2, .one, fun i a b => absurd b (by omega), .inl rfl⟩
theorem Mt.step {vals : List Int} {j y : Nat} (h : Mt N c k vals m j) (hu : UpTo N c k) (h1 : 1 ≤ N) (h2 : N ≤ 20) (hj : j < N) (hl : j < vals.length) (hy : c.rep j y ≠ []) (hv : (nx m y : Int) = vals.getD j 0) : Mt N c k vals (compL (c.rep j y) m) (j + 1) := by
  obtain ⟨a1, a2, a3, a4⟩ := (hu.rep j h.kj hj).at_ y hy
  have hkj := h.kj
  refine ⟨by omega, by omega, a2.comp h.pn, (hu.rep_mb h1 h2 h.kj hj hy).comp (hu.gpn (by omega)) h1 h2 h.mb, fun i hi hij => ?_, .inr (by omega)⟩
  rcases Nat.lt_or_ge i j with hlt | hge
  · rw [a2.nxc (by omega), a3 i hlt]; exact h.ag i hi hlt
  · obtain rfl : i = j := by omega
    rw [a2.nxc hj, a4]; exact hv
theorem Mt.stop {vals : List Int} {j : Nat} (h : Mt N c k vals m j) (hu : UpTo N c k) (h1 : 1 ≤ N) (h2 : N ≤ 20) (hn : ∀ y, y < N → (nx m y : Int) = vals.getD j 0 → c.rep j y = []) : NoM N c k vals j := fun hj hl q hq hag => by
  have hkj := h.kj
  have hqp := hq.pn (hu.gpn (by omega)) h1 h2
  have hqf := hu.mfx h1 h2 (by omega) hq
  have hmf := hu.mfx h1 h2 (by omega) h.mb
  have hr := hqp.comp h.pn.iv
  have hfx : Fx j (compL q (iv m)) := fun i hi => by
    rw [hqp.nxc (by omega)]
    have e : nx q i = nx m i := by
      rcases Nat.lt_or_ge i k with hlt | hge
      · rw [hqf i hlt, hmf i hlt]
      · have a := hag i hge (by omega)
        have b := h.ag i hge hi
        omega
    rw [e, h.pn.nxi (by omega)]
  have hmb : Mb (c.gen k) N (compL q (iv m)) := hq.comp (hu.gpn (by omega)) h1 h2 (h.mb.inv (hu.gpn (by omega)) h1 h2)
  have hs := (hu.stab h1 h2 h.kj h.jN hr hfx).1 ((hu.sv k (Nat.le_refl _) (by omega) _).2 hmb)
  have h3 := (hs.inv_low hj).2.2.1
  rw [hqp.nxc hj] at h3
  have hlt := hqp.lt hj
  refine h3 (hn _ (h.pn.iv.lt hlt) ?_)
  rw [h.pn.nxi' hlt]
  exact hag j h.kj (Nat.le_refl _)
/-- Membership: all entries are found. -/
theorem Mt.mem {j : Nat} (h : Mt N c k p m j) (hn : NoM N c k p j) (hu : UpTo N c k) (h1 : 1 ≤ N) (h2 : N ≤ 20) (hk : k ≤ N) (hp : Pn N p) (hf : Fx k p) : j = N ↔ Mb (c.gen k) N p := by
  constructor
  · rintro rfl
    have hmf := hu.mfx h1 h2 hk h.mb
    have : m = p := h.pn.ext hp fun x hx => by
      rcases Nat.lt_or_ge x k with hlt | hge
      · rw [hmf x hlt, hf x hlt]
      · have a := h.ag x hge hx
        rw [nx_val hp.1 (by rw [hp.2]; exact hx)] at a
        omega
    rw [← this]; exact h.mb
  · intro hm
    rcases Nat.lt_or_ge j N with hl | hl
    · exfalso
      refine hn hl (by rw [hp.2]; exact hl) p hm fun i _ hi => ?_
      rw [nx_val hp.1 (by rw [hp.2]; omega)]
    · have := h.jN; omega
end
end Go.Proofs.Ytcjcmhoalomjfaa
