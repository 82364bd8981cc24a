/- Part 9 of the texts: SbD, WalkI6, PsD. No condition of its own: each text tells its own. -/
import Derived.Test.YtcjcmhoalomjfaaMg7
import Derived.Test.YtcjcmhoalomjfaaMg4
import Derived.Test.YtcjcmhoalomjfaaMg2
import Derived.Deep.RegionHeld3
import Derived.Deep.Onto
import Derived.Deep.RegionLaw
set_option linter.unusedVariables false
set_option linter.unusedSimpArgs false

/- DerivedSubgroupOrder of the model. Conditions: at most 1048576 lists of at most 1048576 numbers. -/
namespace Go.Proofs.Ytcjcmhoalomjfaa
open Go.RowKit

section
variable {w w' : World} {base bo bi g N n m cc : Nat} {c : Ch} {L : LY} {A : Option Addr} {us : List SV} {W : List (List Int)} {S : Nat → Prop}
/-- A chain is kept where blocks turn that are none of its own. -/
theorem Cn.side (h : Cn w base g N c L) (hc : Chg w w' S) (hg : ¬ S g) (hR : ¬ S L.R) (hM : ∀ b, Mut N L b → ¬ S b) (hI : NoInt w S) : Cn w' base g N c L :=
  ⟨(hc.block g h.blk.lt hg).trans h.blk, h.hg, ownsRow_chg h.own1 hc fun k e => by injection e with e; exact e ▸ hR,
    fun i hi => ownsRow_chg (h.row1 i hi) hc fun k e => by injection e with e; exact hM k (.inr (.inl ⟨i, hi, e.symm⟩)), h.len1, fun i hi y hy => (h.ent1 i hi y hy).chg hc hI,
    ownsRow_chg h.own2 hc fun k e => by injection e with e; exact hM k (.inl e.symm),
    fun i hi => ownsRow_chg (h.row2 i hi) hc fun k e => hM k (.inr (.inr ⟨i, hi, e⟩)), h.len2, fun i hi y hy => (h.ent2 i hi y hy).chg hc hI, h.dRG, h.dro, h.drg, h.dgv⟩
theorem Cn.mono (h : Cn w base g N c L) {base' : Nat} (hb : base' ≤ base) : Cn w base' g N c L :=
  ⟨h.blk, Nat.le_trans hb h.hg, World.ownsRow.mono h.own1 hb, fun i hi => World.ownsRow.mono (h.row1 i hi) hb, h.len1, fun i hi y hy => (h.ent1 i hi y hy).mono hb,
    World.ownsRow.mono h.own2 hb, fun i hi => World.ownsRow.mono (h.row2 i hi) hb, h.len2, fun i hi y hy => (h.ent2 i hi y hy).mono hb, h.dRG, h.dro, h.drg, h.dgv⟩
/-- Beside a slice of slices that is appended to. -/
theorem Cn.beside (h : Cn w base g N c L) {v : Value} {xs : List Value} (ho : w.ownsRow bo 33 1 v n xs) (hg : w.grownBy w' v.ownBlock) (hM : ∀ b, v.ownBlock = some b → ¬ Mut N L b) : Cn w' base g N c L := by
  have ht : ∀ b, v.ownBlock = some b → ∃ cur, w.heap[b]? = some (.cells cur 33 (0, 0)) := fun b e => ownsRow_typ ho e
  refine h.side (S := fun b => v.ownBlock = some b) (.of_grown hg fun k e => e) (fun e => ?_) (fun e => ?_) (fun b hb e => hM b e hb) (fun b e => ?_)
  · obtain ⟨cur, e1⟩ := ht g e
    have e2 := h.blk
    unfold Blk at e2
    rw [e1] at e2
    injection e2 with e2
    injection e2 with _ e2
    exact absurd e2 (by decide)
  · obtain ⟨cur, e1⟩ := ht L.R e
    obtain ⟨cur2, e2⟩ := ownsRow_typ h.own1 (k := L.R) rfl
    rw [e1] at e2
    injection e2 with e2
    injection e2 with _ e2
    exact absurd e2 (by decide)
  · obtain ⟨cur, e1⟩ := ht b e
    exact ⟨cur, _, _, e1, by decide⟩
theorem SS.besideC (h : SS w bo bi A n cc us W) (hc : Chg w w' S) (hI : NoInt w S) (hM : ∀ b, (Value.slice A n cc).ownBlock = some b → ¬ S b) : SS w' bo bi A n cc us W :=
  ⟨ownsRow_chg h.own hc hM, h.lv, h.lx, fun i hi => (h.row i hi).chg hc hI, h.dis⟩
end

set_option maxHeartbeats 16000000 in
set_option maxRecDepth 100000 in
theorem ctDer : CtImI 51 IsDer := by
  intro a A n c vs xss w g ha
  have HX := Lib.hid g.rr
  have hlx : Hid (xss.length = n) := Lib.hid g.rr.lx
  have hn := g.hn
  have hl := Lib.hid g.hl
  clear g
  go_enter Try.func51, Try.ntmps51
  go_wp2_with fail
  refine (specGS a A n c vs xss w HX.out hn hl ha).mono ?_
  rintro e w1 ⟨rfl, b1⟩
  have B1 := Lib.hid b1
  have X1 := Lib.hid (HX.out.up b1)
  clear b1
  rcases hs : gB a xss with _ | _
  · have Fin : Hid (IsDer a xss 0) := Lib.hid (.inr ⟨hs, rfl⟩)
    clear hs
    go_wp2_with fail
    go_ret
    exact ⟨_, rfl, Fin.out, B1.out⟩
  · obtain ⟨N, rfl, hN1, hN2, hg8, hpm, hok⟩ := gB_pm hs
    have Hs := Lib.hid hs
    have Ok : Hid (∀ g ∈ xss, Pn N g) := Lib.hid hok
    have hn8 : n ≤ 8 := by rw [← hlx.out]; exact hg8
    clear hs hpm hok hg8 HX
    have D0 := Lib.hid (SS.lit0 w1 w1.heap.size w1.heap.size (Nat.le_refl _))
    go_wp2_with fail
    go_loopg [5, 6] n (fun gg v iv wr => ∃ (i m cc : Nat) (A' : Option Addr) (us : List SV) (W : List (List Int)), i ≤ n ∧ n - i ≤ gg ∧ iv = .int .i64 (i : Nat) ∧ v = .slice A' m cc ∧ SS wr w1.heap.size w1.heap.size A' m cc us W ∧ (∀ s ∈ W, ∃ p ∈ xss, ∃ q ∈ xss, s = cmt p q) ∧ (∀ t u, u < t → t < i → cmt (xss.getD t []) (xss.getD u []) ∈ W) ∧ W.length ≤ 8 * i ∧ Below w1.heap.size w1 wr)
    case atStart => exact ⟨0, _, _, _, _, _, Nat.zero_le _, by omega, rfl, rfl, D0.out, fun s hs => (by cases hs), fun t u _ h => absurd h (by omega), Nat.le_refl _, (Below.refl _ _).alloc (Nat.le_refl _) _⟩
    case round =>
      clear D0
      obtain ⟨i, m, cc, A', us, W, hi, hgg, rfl, rfl, hss, hcm, hpr, hlw, bel⟩ := hrel
      have Ss0 := Lib.hid hss
      have Cm0 := Lib.hid hcm
      have Pr0 := Lib.hid hpr
      have Be0 := Lib.hid bel
      have hlm0 : Hid (m = W.length) := Lib.hid hss.lx.symm
      clear hss hcm hpr bel
      by_cases hlt : i < n
      · obtain ⟨b, off, A5, l, c5, p, eA, hb, hv, ep, x1, rp, lp, hl5⟩ := X1.out.at_ hlt
        subst eA
        have hpm : p ∈ xss := by rw [← ep]; exact getD_memL (by rw [hlx.out]; exact hlt)
        have hpP := Ok.out p hpm
        obtain rfl : l = N := by have := hpP.2; omega
        have Rp := Lib.hid rp
        have PP := Lib.hid hpP
        have Pm_ := Lib.hid hpm
        have Ep := Lib.hid ep
        have Hb := Lib.hid hb
        have Xi := Lib.hid x1
        have q0 : (0 : Int) ≤ i := by omega
        have q1 : (i : Int) < n := by omega
        clear hv ep hb rp hpP hpm x1
        go_wp2_with fail
        go_loopg [5, 7] n (fun gg v kv wr => ∃ (k m cc : Nat) (A' : Option Addr) (us : List SV) (W : List (List Int)), k ≤ i ∧ i - k ≤ gg ∧ kv = .int .i64 (k : Nat) ∧ v = .slice A' m cc ∧ SS wr w1.heap.size w1.heap.size A' m cc us W ∧ (∀ s ∈ W, ∃ p ∈ xss, ∃ q ∈ xss, s = cmt p q) ∧ (∀ t u, u < t → t < i → cmt (xss.getD t []) (xss.getD u []) ∈ W) ∧ (∀ u, u < k → cmt p (xss.getD u []) ∈ W) ∧ W.length ≤ 8 * i + k ∧ Below w1.heap.size w1 wr)
        case atStart => exact ⟨0, _, _, _, _, _, Nat.zero_le _, by omega, rfl, rfl, Ss0.out, Cm0.out, Pr0.out, fun u h => absurd h (by omega), by omega, Be0.out⟩
        case round =>
          clear Ss0 Cm0 Pr0 Be0 hlm0 hlw
          obtain ⟨k, m, cc, A', us, W, hk, hg2, rfl, rfl, hss, hcm, hpr, hpk, hlw, bel⟩ := hrel
          have Ss := Lib.hid hss
          have Cm := Lib.hid hcm
          have Pr := Lib.hid hpr
          have Pk := Lib.hid hpk
          have Be := Lib.hid bel
          have hlm : Hid (m = W.length) := Lib.hid hss.lx.symm
          have hzw := bel.size
          clear hss hcm hpr hpk bel
          by_cases hkt : k < i
          · obtain ⟨b', off', A6, l2, c6, q, eA, hb', hv, eq_, y1, rq, lq, hl6⟩ := X1.out.at_ (show k < n by omega)
            injection eA with eA
            injection eA with eb eo _
            subst eb eo
            have hqm : q ∈ xss := by rw [← eq_]; exact getD_memL (by rw [hlx.out]; omega)
            have hqP := Ok.out q hqm
            obtain rfl : l2 = l := by have := hqP.2; omega
            have QQ := Lib.hid hqP
            have Qm := Lib.hid hqm
            have Eq := Lib.hid eq_
            have Yk := Lib.hid y1
            have Rq := Lib.hid rq
            have Rq2 := Lib.hid (rq.up Be.out)
            have Rp2 := Lib.hid (Rp.out.up Be.out)
            have x2 := (Be.out.cell (p := ⟨b, off + i, none⟩) Hb.out).trans Xi.out
            have y2 := (Be.out.cell (p := ⟨b, off + k, none⟩) Hb.out).trans Yk.out
            have r0 : (0 : Int) ≤ k := by omega
            have r1 : (k : Int) < n := by omega
            have hm9 : m ≤ 100 := by have := hlm.out; omega
            have CC : Hid (Pn l2 (cmt p q)) := Lib.hid (cmt_pn PP.out QQ.out)
            clear hv eq_ hb' rq hqP hqm y1
            go_wp2_with fail
            go_region_held3 (fun w' => w'.cell? ⟨b, off + i, none⟩ = some (.slice A5 l2 c5) ∧ w'.cell? ⟨b, off + k, none⟩ = some (.slice A6 l2 c6))
              (first | exact ⟨x2, y2⟩ | exact hS1 | exact hS2 | exact hS3 | exact hS4 | exact hS5 | exact hS6 | go_keep)
              (first
                | (have _q := Ss9; clear _q; refine step_appV rfl (.tmp 27) (.tmp 49) rfl w1.heap.size (.slice A' m cc) m (us.map sval) ?_ ((Ss9.out.alloc (.cells #[.slice A9 l2 c9] 33)).own) w9.heap.size (A9, l2, c9) ?_ ((Blk.new w9 _ _).cell 0) ?_ ?_ ?_; (simp [Act.eval, Act.put]); (simp [Act.eval, Act.put]); (omega); (have hz := b9.size; simp; omega); intro A10 c10 w10 o10 g10 h10
                   have B10 : Below w1.heap.size w1 w10 := (((btr Be.out b9).alloc (btr Be.out b9).size _).grown g10 (by have := (btr Be.out b9).size; simp; omega) (fun j hj => (Ss.out.lt_ j hj).1))
                   have hS6 := And.intro ((B10.cell (p := ⟨b, off + i, none⟩) Hb.out).trans Xi.out) ((B10.cell (p := ⟨b, off + k, none⟩) Hb.out).trans Yk.out))
                | (have _q := s8; clear _q; go_at_call 65; refine (specComp A7 A8 c7 c8 l2 (compL (iv p) (iv q)) (compL p q) _ ?_ ?_ ?_ ?_ ?_ hN2).mono ?_; (exact s7.ri_.up b78); (exact s8.ri_); (exact s7.hid); (exact s8.hid); (exact Lib.hid (PP.out.iv.comp QQ.out.iv).1); rintro e w9 ⟨A9, c9, rfl, s9, b9'⟩
                   have b9 : Below wr.heap.size wr w9 := btr b8 ⟨b9'.os, b9'.tape, b9'.output, b9'.size, b9'.block⟩
                   have Ss9 := Lib.hid (Ss.out.up b9)
                   have hS5 := And.intro (((btr Be.out b9).cell (p := ⟨b, off + i, none⟩) Hb.out).trans Xi.out) (((btr Be.out b9).cell (p := ⟨b, off + k, none⟩) Hb.out).trans Yk.out))
                | (have _q := s7; clear _q; go_at_call 65; refine (specComp A5 A6 c5 c6 l2 p q _ ?_ ?_ ?_ ?_ ?_ hN2).mono ?_; (exact Rp2.out.up b7); (exact Rq2.out.up b7); (exact Lib.hid PP.out.2); (exact Lib.hid QQ.out.2); (exact Lib.hid PP.out.1); rintro e w8 ⟨A8, c8, rfl, s8, b8'⟩
                   have b78 : Below w7.heap.size w7 w8 := ⟨b8'.os, b8'.tape, b8'.output, b8'.size, b8'.block⟩
                   have b8 : Below wr.heap.size wr w8 := btr b7 b78
                   have hS4 := And.intro (((btr Be.out b8).cell (p := ⟨b, off + i, none⟩) Hb.out).trans Xi.out) (((btr Be.out b8).cell (p := ⟨b, off + k, none⟩) Hb.out).trans Yk.out))
                | (have _q := sb; clear _q; go_at_call 65; refine (specComp Aa Ab ca cb l2 (iv p) (iv q) _ ?_ ?_ ?_ ?_ ?_ hN2).mono ?_; (exact sa.ri_.up b56); (exact sb.ri_); (exact sa.hid); (exact sb.hid); (exact Lib.hid PP.out.iv.1); rintro e w7 ⟨A7, c7, rfl, s7, b7'⟩
                   have b7 : Below wr.heap.size wr w7 := btr b6 ⟨b7'.os, b7'.tape, b7'.output, b7'.size, b7'.block⟩
                   have hS3 := And.intro (((btr Be.out b7).cell (p := ⟨b, off + i, none⟩) Hb.out).trans Xi.out) (((btr Be.out b7).cell (p := ⟨b, off + k, none⟩) Hb.out).trans Yk.out))
                | (have _q := sa; clear _q; go_at_call 78; refine (specInv A6 c6 l2 q w5 ?_ ?_ ?_ hN2).mono ?_; (exact Rq2.out.up b5); (exact Lib.hid QQ.out.2); (exact Lib.hid QQ.out.1); rintro e w6 ⟨Ab, cb, rfl, sb, b6'⟩
                   rw [inv_iv QQ.out] at sb
                   have b56 : Below w5.heap.size w5 w6 := ⟨b6'.os, b6'.tape, b6'.output, b6'.size, b6'.block⟩
                   have b6 : Below wr.heap.size wr w6 := btr b5 b56
                   have hS2 := And.intro (((btr Be.out b6).cell (p := ⟨b, off + i, none⟩) Hb.out).trans Xi.out) (((btr Be.out b6).cell (p := ⟨b, off + k, none⟩) Hb.out).trans Yk.out))
                | (go_at_call 78; refine (specInv A5 c5 l2 p _ ?_ ?_ ?_ hN2).mono ?_; (exact Rp2.out); (exact Lib.hid PP.out.2); (exact Lib.hid PP.out.1); rintro e w5 ⟨Aa, ca, rfl, sa, b5'⟩
                   rw [inv_iv PP.out] at sa
                   have b5 : Below wr.heap.size wr w5 := ⟨b5'.os, b5'.tape, b5'.output, b5'.size, b5'.block⟩
                   have hS1 := And.intro (((btr Be.out b5).cell (p := ⟨b, off + i, none⟩) Hb.out).trans Xi.out) (((btr Be.out b5).cell (p := ⟨b, off + k, none⟩) Hb.out).trans Yk.out)))
            have S9 : Hid (Slc w9 w1.heap.size A9 l2 c9 (cmt p q)) := Lib.hid (s9.mono (by have := b8.size; omega))
            have D9 : ∀ t, t < m → (sval (us.getD t sd0)).ownBlock = none ∨ (sval (us.getD t sd0)).ownBlock ≠ (sval (A9, l2, c9)).ownBlock := lies_dis (w := wr) Ss.out s9.lies b8.size
            have Ss10 : Hid (SS w10 w1.heap.size w1.heap.size A10 (m + 1) c10 (us ++ [(A9, l2, c9)]) (W ++ [cmt p q])) := Lib.hid ((Ss9.out.alloc _).snocV (d := (A9, l2, c9)) (S9.out.alloc _) D9 o10 g10)
            have Bf10 := Lib.hid B10
            have Cm2 : Hid (∀ s ∈ W ++ [cmt p q], ∃ p ∈ xss, ∃ q ∈ xss, s = cmt p q) := Lib.hid fun s hs => by
              rcases List.mem_append.1 hs with hs | hs
              · exact Cm.out s hs
              · exact ⟨p, Pm_.out, q, Qm.out, List.mem_singleton.1 hs⟩
            have Pr2 : Hid (∀ t u, u < t → t < i → cmt (xss.getD t []) (xss.getD u []) ∈ W ++ [cmt p q]) := Lib.hid fun t u h1 h2 => List.mem_append_left _ (Pr.out t u h1 h2)
            have Pk2 : Hid (∀ u, u < k + 1 → cmt p (xss.getD u []) ∈ W ++ [cmt p q]) := Lib.hid fun u hu => by
              rcases Nat.lt_or_ge u k with h | h
              · exact List.mem_append_left _ (Pk.out u h)
              · obtain rfl : u = k := by omega
                rw [Eq.out]; simp
            have hlw2 : (W ++ [cmt p q]).length ≤ 8 * i + (k + 1) := by rw [List.length_append, List.length_singleton]; omega
            clear b5 b6 b7 b8 b9 b56 b78 hS1 hS2 hS3 hS4 hS5 hS6 sa sb s7 s8 s9 x2 y2 o10 g10 h10 D9 B10
            go_wp2_with fail
            go_roundg (i - (k + 1))
            case rel => exact ⟨k + 1, _, _, _, _, _, by omega, by omega, by go_num, rfl, Ss10.out, Cm2.out, Pr2.out, Pk2.out, hlw2, Bf10.out⟩
            case measure => omega
          · obtain rfl : k = i := by omega
            have Pr2 : Hid (∀ t u, u < t → t < k + 1 → cmt (xss.getD t []) (xss.getD u []) ∈ W) := Lib.hid fun t u h1 h2 => by
              rcases Nat.lt_or_ge t k with h | h
              · exact Pr.out t u h1 h
              · obtain rfl : t = k := by omega
                rw [Ep.out]; exact Pk.out u h1
            go_wp2_with fail
            go_roundg (n - (k + 1))
            case rel => exact ⟨k + 1, _, _, _, _, _, by omega, by omega, by go_num, rfl, Ss.out, Cm.out, Pr2.out, by omega, Be.out⟩
            case measure => omega
      · obtain rfl : n = i := by omega
        have Ini : Hid (∀ s ∈ W, Drv N (Mb xss N) s) := Lib.hid fun s hs => by
          obtain ⟨p, hp, q, hq, rfl⟩ := Cm0.out s hs
          exact drv_cmt (sgp_mb Ok.out hN1 hN2) (.of (Ok.out p hp) hp) (.of (Ok.out q hq) hq)
        have All : Hid (∀ p ∈ xss, ∀ q ∈ xss, cmt p q ∈ W ∨ cmt q p ∈ W ∨ p = q) := Lib.hid fun p hp q hq => by
          obtain ⟨t, ht, rfl⟩ := mem_at hp
          obtain ⟨u, hu, rfl⟩ := mem_at hq
          rcases Nat.lt_trichotomy t u with h | h | h
          · exact .inr (.inl (Pr0.out u t h (by rw [← hlx.out]; exact hu)))
          · subst h; exact .inr (.inr rfl)
          · exact .inl (Pr0.out t u h (by rw [← hlx.out]; exact ht))
        have Dv0 : Hid (Dv N xss W W [] 0) := Lib.hid (.start Ini.out (by omega))
        have hzr := Be0.out.size
        have U0 := Lib.hid (upTo0 N hN1 hN2)
        clear Ini Cm0 Pr0 hlm0
        go_wp2_with fail
        refine (specEmpty N wr hN1 hN2).mono ?_
        rintro e w3 ⟨g, L, rfl, hc3, b3⟩
        have C3 := Lib.hid (hc3.mono hzr)
        have Ap3 : Hid (∀ b, (Value.slice A' m cc).ownBlock = some b → ¬ Mut N L b) := Lib.hid fun b hb hm => by
          have h1 := (Ss0.out.lt_ b hb).2
          have h2 := (hc3.mut hm).1
          omega
        have Ss3 := Lib.hid (Ss0.out.up b3)
        have Be3 : Hid (Below w1.heap.size w1 w3) := Lib.hid (btr Be0.out b3)
        clear hc3 b3 Ss0 Be0
        go_wp2_with fail
        go_loopg [5, 9] 700 (fun gg v iv wr => ∃ (j m cc : Nat) (A' : Option Addr) (us : List SV) (V hs : List (List Int)) (ch : Ch) (L : LY), j ≤ V.length ∧ 700 - j ≤ gg ∧ iv = .int .i64 (j : Nat) ∧ v = .slice A' m cc ∧ SS wr w1.heap.size w1.heap.size A' m cc us V ∧ Cn wr w1.heap.size g N ch L ∧ Whole N hs ch ∧ (∀ b, (Value.slice A' m cc).ownBlock = some b → ¬ Mut N L b) ∧ Dv N xss W V hs j ∧ Below w1.heap.size w1 wr)
        case atStart => exact ⟨0, _, _, _, _, _, [], ch0 N, L, Nat.zero_le _, by omega, rfl, rfl, Ss3.out, C3.out, ⟨U0.out, fun q => Iff.rfl⟩, Ap3.out, Dv0.out, Be3.out⟩
        case round =>
          clear Ss3 C3 Ap3 Dv0 Be3 U0
          obtain ⟨j, m, cc, A', us, V, hs, ch, L, hj, hg2, rfl, rfl, hss, hc, hw, hap, hdv, bel⟩ := hrel
          have Ss := Lib.hid hss
          have Cj := Lib.hid hc
          have Wj := Lib.hid hw
          have Ap := Lib.hid hap
          have Dj := Lib.hid hdv
          have Be := Lib.hid bel
          have hlm : Hid (V.length = m) := Lib.hid hss.lx
          obtain ⟨few1, few2⟩ := hdv.few Ok.out hN1 hN2
          have hjm : j ≤ m := by rw [← hss.lx]; exact hj
          have hm6 : m ≤ 600 := by rw [← hss.lx]; exact few2
          have Pnh := Lib.hid (hdv.pnh Ok.out hN1 hN2)
          have hzw := bel.size
          clear hss hc hw hap hdv bel hj few1 few2
          by_cases hlt : j < m
          · obtain ⟨b, off, A5, l, c5, y, eA, hb, ev, ey, x1, ri, ly, hl5⟩ := Ss.out.rr.at_ hlt
            subst eA
            have hyV : y ∈ V := getD_of (by rw [hlm.out]; exact hlt) ey
            have hyP := Dj.out.pn Ok.out hN1 hN2 y hyV
            obtain rfl : l = N := by have := hyP.2; omega
            have Row : Hid (Slc wr w1.heap.size A5 l c5 y) := Lib.hid (by have := Ss.out.row j hlt; rw [ev, ey] at this; exact this)
            have YP := Lib.hid hyP
            have Ri := Lib.hid ri
            have Ey := Lib.hid ey
            obtain ⟨ans, hans⟩ := bool_of (Mb hs l y)
            have Ha := Lib.hid hans
            have q0 : (0 : Int) ≤ j := by omega
            have q1 : (j : Int) < m := by omega
            clear ev ey ri ly hl5 hyV hyP hans
            go_wp2_with fail
            refine (specHas w1.heap.size g l c5 A5 ch L hs y wr Cj.out Wj.out Ri.out YP ans Ha).mono ?_
            rintro e w4 ⟨rfl, b4⟩
            have C4 := Lib.hid (Cj.out.up b4)
            have Ss4 := Lib.hid (Ss.out.up b4)
            have R4 := Lib.hid (Row.out.up b4)
            have x4 := (b4.cell (p := ⟨b, off + j, none⟩) hb).trans x1
            have Be4 : Hid (Below w1.heap.size w1 w4) := Lib.hid (btr Be.out b4)
            have hz4 := Be4.out.size
            clear b4 x1 hb Cj Row Ri Be hzw
            rcases ans with _ | _
            · have hno : ¬ Mb hs l y := fun h => absurd (Ha.out.2 h) (by decide)
              have Dn := Lib.hid (Dj.out.add Ok.out hN1 hN2 (by rw [hlx.out]; exact hn8) (by rw [hlm.out]; exact hlt) Ey.out hno)
              clear hno
              go_wp2_with fail
              have K := specAddGen w1.heap.size g l hN1 hN2 l 0 (by omega) c5 A5 ch L y w4 C4.out R4.out YP.out Fx.zero Wj.out.up
              refine K.mono ?_
              rintro e w5 ⟨ch', L', rfl, hc5, hch, hmt, hap⟩
              have C5 := Lib.hid hc5
              have Ss5 := Lib.hid (Ss4.out.besideC hch C4.out.noInt Ap.out)
              have Ap5 : Hid (∀ b', (Value.slice (some ⟨b, off, none⟩) m cc).ownBlock = some b' → ¬ Mut l L' b') := Lib.hid fun b' hb' hm => by
                rcases hmt b' hm with h | h
                · exact Ap.out b' hb' h
                · have := (Ss4.out.lt_ b' hb').2; omega
              have Be5 : Hid (Below w1.heap.size w1 w5) := Lib.hid (Be4.out.trans (hch.below (fun k hk => (C4.out.mut hk).1) hz4))
              have W5 : Hid (Whole l (hs ++ [y]) ch') := Lib.hid (Wj.out.next hN1 hN2 Pnh.out YP.out hap)
              clear K hc5 hch hmt hap C4 Ss4 R4 x4 Be4 hz4
              go_wp2_with fail
              obtain ⟨wo, rfl⟩ : ∃ wo, wo = wr := ⟨_, rfl⟩
              go_loopg [5, 10] n (fun gg v kv wr => ∃ (k m' cc : Nat) (A' : Option Addr) (us : List SV), k ≤ n ∧ n - k ≤ gg ∧ m' = m + k ∧ kv = .int .i64 (k : Nat) ∧ v = .slice A' m' cc ∧ SS wr w1.heap.size w1.heap.size A' m' cc us (V ++ (xss.take k).map fun g => cj g y) ∧ Cn wr w1.heap.size g l ch' L' ∧ (∀ b, (Value.slice A' m' cc).ownBlock = some b → ¬ Mut l L' b) ∧ Below w1.heap.size w1 wr)
              case atStart => exact ⟨0, _, _, _, _, Nat.zero_le _, by omega, rfl, rfl, rfl, by simpa using Ss5.out, C5.out, Ap5.out, Be5.out⟩
              case round =>
                clear Ss5 C5 Ap5 Be5
                obtain ⟨k, m', cc', A', us', hk, hg3, hmk, rfl, rfl, hss, hc, hap, bel⟩ := hrel
                have Hmk := Lib.hid hmk
                have hjm' : j < m' := by omega
                have hm7 : m' ≤ 700 := by omega
                have S2 := Lib.hid hss
                have C2 := Lib.hid hc
                have Ap2 := Lib.hid hap
                have Be := Lib.hid bel
                have hzw := bel.size
                clear hss hc hap bel hmk
                by_cases hkt : k < n
                · obtain ⟨b2, off2, A6, l2, c6, q, eA, hb2, hv, eq_, y1, rq, lq, hl6⟩ := X1.out.at_ hkt
                  subst eA
                  have hqm : q ∈ xss := by rw [← eq_]; exact getD_memL (by rw [hlx.out]; exact hkt)
                  have hqP := Ok.out q hqm
                  obtain rfl : l2 = l := by have := hqP.2; omega
                  obtain ⟨b3, off3, A7, l3, c7, y', eA, hb3, ev3, ey3, x3, ri3, ly3, hl7⟩ := S2.out.rr.at_ hjm'
                  subst eA
                  obtain rfl : y' = y := by
                    rw [← ey3, List.getD_eq_getElem?_getD, List.getElem?_append_left (by rw [hlm.out]; exact hlt), ← List.getD_eq_getElem?_getD]; exact Ey.out
                  obtain rfl : l3 = l2 := by have := YP.out.2; omega
                  have QQ := Lib.hid hqP
                  have Eq := Lib.hid eq_
                  have Rq2 := Lib.hid (rq.up Be.out)
                  have R3 := Lib.hid ri3
                  have y2 := (Be.out.cell (p := ⟨b2, off2 + k, none⟩) hb2).trans y1
                  have hb2w : b2 < wr.heap.size := by omega
                  have r0 : (0 : Int) ≤ k := by omega
                  have r1 : (k : Int) < n := by omega
                  have r2 : (j : Int) < m' := by omega
                  have IV := Lib.hid hqP.iv
                  clear hv eq_ rq hqP hqm y1 ev3 ey3 ri3 ly3 hl7 hl6 lq
                  go_wp2_with fail
                  go_region_law (first
                    | (have _q := Ss9; clear _q; refine step_appV rfl (.tmp 77) (.tmp 93) rfl w1.heap.size (.slice (some ⟨b3, off3, none⟩) m' cc') m' (us'.map sval) ?_ ((Ss9.out.alloc (.cells #[.slice A9 l3 c9] 33)).own) w9.heap.size (A9, l3, c9) ?_ ((Blk.new w9 _ _).cell 0) ?_ ?_ ?_; (simp [Act.eval, Act.put]); (simp [Act.eval, Act.put]); (omega); (have hz := b9.size; simp; omega); (intro A10 c10 w10 o10 g10 h10))
                    | (go_simp; go_wp2_with (first
                      | (have _q := s8; clear _q; go_at_call 65; refine (specComp A8 A6 c8 c6 l3 (compL (iv q) y') q _ ?_ ?_ ?_ ?_ ?_ hN2).mono ?_; (exact s8.ri_); (exact Rq2.out.up b8); (exact s8.hid); (exact Lib.hid QQ.out.2); (exact Lib.hid (IV.out.comp YP.out).1); rintro e w9 ⟨A9, c9, rfl, s9, b9'⟩
                         have b9 : Below wr.heap.size wr w9 := btr b8 ⟨b9'.os, b9'.tape, b9'.output, b9'.size, b9'.block⟩
                         have Ss9 := Lib.hid (S2.out.up b9)
                         have y9 := (b9.cell (p := ⟨b2, off2 + k, none⟩) hb2w).trans y2
                         have x9 := (b9.cell (p := ⟨b3, off3 + j, none⟩) hb3).trans x3)
                      | (have _q := s7; clear _q; go_at_call 65; refine (specComp Aa A7 ca c7 l3 (iv q) y' _ ?_ ?_ ?_ ?_ ?_ hN2).mono ?_; (exact s7.ri_); (exact R3.out.up b7); (exact s7.hid); (exact Lib.hid YP.out.2); (exact Lib.hid IV.out.1); rintro e w8 ⟨A8, c8, rfl, s8, b8'⟩
                         have b8 : Below wr.heap.size wr w8 := btr b7 ⟨b8'.os, b8'.tape, b8'.output, b8'.size, b8'.block⟩
                         have y8 := (b8.cell (p := ⟨b2, off2 + k, none⟩) hb2w).trans y2
                         have x8 := (b8.cell (p := ⟨b3, off3 + j, none⟩) hb3).trans x3)
                      | (go_at_call 78; refine (specInv A6 c6 l3 q _ ?_ ?_ ?_ hN2).mono ?_; (exact Rq2.out); (exact Lib.hid QQ.out.2); (exact Lib.hid QQ.out.1); rintro e w7 ⟨Aa, ca, rfl, s7, b7'⟩
                         rw [inv_iv QQ.out] at s7
                         have b7 : Below wr.heap.size wr w7 := ⟨b7'.os, b7'.tape, b7'.output, b7'.size, b7'.block⟩
                         have y7 := (b7.cell (p := ⟨b2, off2 + k, none⟩) hb2w).trans y2
                         have x7 := (b7.cell (p := ⟨b3, off3 + j, none⟩) hb3).trans x3))))
                  all_goals
                    have S9 : Hid (Slc w9 w1.heap.size A9 l3 c9 (cj q y')) := Lib.hid (s9.mono (by have := b8.size; omega))
                    have D9 : ∀ t, t < m' → (sval (us'.getD t sd0)).ownBlock = none ∨ (sval (us'.getD t sd0)).ownBlock ≠ (sval (A9, l3, c9)).ownBlock := lies_dis (w := wr) S2.out s9.lies b8.size
                    have S10 := (Ss9.out.alloc (.cells #[.slice A9 l3 c9] 33)).snocV (d := (A9, l3, c9)) (S9.out.alloc _) D9 o10 g10
                    have Ss10 : Hid (SS w10 w1.heap.size w1.heap.size A10 (m' + 1) c10 (us' ++ [(A9, l3, c9)]) (V ++ (xss.take (k + 1)).map fun g => cj g y')) := Lib.hid (by
                      have e1 : (xss.take (k + 1)).map (fun g => cj g y') = (xss.take k).map (fun g => cj g y') ++ [cj q y'] := by
                        rw [List.take_succ_eq_append_getElem (by rw [hlx.out]; exact hkt), List.map_append]
                        have e1 : xss[k]'(by rw [hlx.out]; exact hkt) = q := by rw [← Eq.out, List.getD_eq_getElem?_getD, List.getElem?_eq_getElem (by rw [hlx.out]; exact hkt)]; rfl
                        rw [e1]; rfl
                      rw [e1, ← List.append_assoc]; exact S10)
                    have B10 : Hid (Below w1.heap.size w1 w10) := Lib.hid (((btr Be.out b9).alloc (btr Be.out b9).size _).grown g10 (by have := (btr Be.out b9).size; simp; omega) (fun j hj => (S2.out.lt_ j hj).1))
                    have Ap10 : Hid (∀ b, (Value.slice A10 (m' + 1) c10).ownBlock = some b → ¬ Mut l3 L' b) := Lib.hid fun b hb hm => by
                      rcases h10 with e | e
                      · exact Ap2.out b (e ▸ hb) hm
                      · have h1 := (C2.out.mut hm).2
                        have h2 := b9.size
                        rw [e] at hb
                        injection hb with hb
                        simp at hb; omega
                    have C10 : Hid (Cn w10 w1.heap.size g l3 ch' L') := Lib.hid (((C2.out.up b9).up ((Below.refl _ _).alloc (Nat.le_refl _) _)).beside (Ss9.out.alloc (.cells #[.slice A9 l3 c9] 33)).own g10 Ap2.out)
                    clear o10 g10 h10 D9 S10 s9 b9
                    go_wp2_with fail
                    go_roundg (n - (k + 1))
                    case rel => exact ⟨k + 1, _, _, _, _, by omega, by omega, by have := Hmk.out; omega, by go_num, rfl, Ss10.out, C10.out, Ap10.out, B10.out⟩
                    case measure => omega
                · obtain rfl : n = k := by omega
                  have S3 : Hid (SS wr w1.heap.size w1.heap.size A' m' cc' us' (V ++ xss.map fun g => cj g y)) := Lib.hid (by have := S2.out; rwa [List.take_of_length_le (by rw [hlx.out]; exact Nat.le_refl _)] at this)
                  have hlen : j + 1 ≤ (V ++ xss.map fun g => cj g y).length := by rw [List.length_append, hlm.out]; omega
                  go_wp2_with fail
                  go_roundg (700 - (j + 1))
                  case rel => exact ⟨j + 1, _, _, _, _, _, hs ++ [y], ch', L', hlen, by omega, by go_num, rfl, S3.out, C2.out, W5.out, Ap2.out, Dn.out, Be.out⟩
                  case measure => omega
            · have Dn := Lib.hid (Dj.out.skip (by rw [Ey.out]; exact Ha.out.1 rfl))
              go_wp2_with fail
              go_roundg (700 - (j + 1))
              case rel => exact ⟨j + 1, _, _, _, _, _, hs, ch, L, by rw [hlm.out]; omega, by omega, by go_num, rfl, Ss4.out, C4.out, Wj.out, Ap.out, Dn.out, Be4.out⟩
              case measure => omega
          · obtain rfl : j = m := by omega
            have Fin : ∃ v : Nat, prodL (osL N ch N) = (v : Int) ∧ IsDer N xss v := by
              obtain ⟨v, cv, ev⟩ := (Wj.out.os hN1 hN2).order Pnh.out hN1 hN2
              have hf := Dj.out
              rw [← hlm.out] at hf
              exact ⟨v, ev, .inl ⟨Hs.out, v, by rw [Int.toNat_natCast]; exact cv.congr (hf.fin Ok.out hN1 hN2 All.out), rfl⟩⟩
            obtain ⟨v, ev, hfin⟩ := Fin
            have Fin := Lib.hid hfin
            have Ev := Lib.hid ev
            clear hfin ev
            go_wp2_with fail
            refine (specOrder w1.heap.size g N ch L hs wr Cj.out Wj.out hN1 hN2).mono ?_
            rintro e w4 ⟨rfl, b4⟩
            rw [Ev.out]
            have B4 : Hid (Below w.heap.size w w4) := Lib.hid (btr (btr B1.out Be.out) b4)
            clear b4
            go_wp2_with fail
            go_ret
            exact ⟨_, rfl, Fin.out, B4.out⟩
end Go.Proofs.Ytcjcmhoalomjfaa

/- The walk of the law FnExactDerivedSubgroupOrder: it returns true at every input, and writes nothing that was there. No condition but the program's own contract. -/
namespace Go.Proofs.Ytcjcmhoalomjfaa
open Go.RowKit

set_option maxHeartbeats 4000000 in
set_option maxRecDepth 100000 in
/-- The law FnExactDerivedSubgroupOrder. -/
theorem lawDerivedSubgroupOrder (IM : CtImI 37 IsDer) (i0 : Int) (g1A : Option Addr) (g1n g1c : Nat) (g1v : List SV) (g1x : List (List Int)) (w : World) (wfi0 : I64 i0) (hg1 : RR w w.heap.size g1A g1n g1v g1x) (hmg1 : g1n ≤ maxLen) (hkg1 : Hid (∀ i, i < g1n → (g1v.getD i sd0).2.1 ≤ maxLen)) :
    Calls Try.prog 14 #[.int .i64 i0, .slice g1A g1n g1c] w fun e w' => e = .returned (.bool true) ∧ Below w.heap.size w w' := by
  have Hg1 := Lib.hid hg1
  have hlxg1 := Lib.hid hg1.lx
  have hllg1 := Lib.hid hg1.lens
  clear hg1
  by_cases hT0 : ((g1n + tot g1v g1n : Nat) : Int) ≤ (1048576 : Int)
  · skip
    have HT0 := Lib.hid hT0
    obtain ⟨LE, eLE⟩ : ∃ L : Int, (1048576 : Int) - ((g1n + tot g1v g1n : Nat) : Int) = L := ⟨_, rfl⟩
    have hLE : ¬ LE < 0 := by omega
    have dLE : decide (LE < 0) = false := by simp; omega
    have ELE := Lib.hid eLE
    clear eLE
    have hng1 : g1n ≤ 1048576 := by omega
    have KTg1 : Hid (tot g1v g1n ≤ 1048576) := Lib.hid (by omega)
    have hlg1 : Hid (∀ i, i < g1n → (g1v.getD i sd0).2.1 ≤ 1048576) := Lib.hid fun i hi => by have := tot_row (vs := g1v) hi; have := KTg1.out; omega
    have hylg1 : Hid (∀ i, i < g1n → (g1x.getD i []).length ≤ 1048576) := Lib.hid fun i hi => by rw [hllg1.out i hi]; exact hlg1.out i hi
    clear hT0 
    go_enter Try.func14, Try.ntmps14
    go_wp2_with fail
    have K0 := szSS2 g1A g1n g1c 1048576 g1v g1x w Hg1.out hmg1 hkg1 (by decide) (by decide)
    refine K0.mono ?_
    rintro e w0 ⟨rfl, rfl⟩
    clear K0
    rw [if_pos HT0.out]
    rw [ELE.out]
    go_wp2_with fail
    refine (toSS g1A g1n g1c g1v g1x w Hg1.out hng1 hlg1).mono ?_
    rintro e w1 ⟨A1, c1, us1, rfl, s1, q1, b1⟩
    have Z1 : Hid (w.heap.size ≤ w1.heap.size) := Lib.hid b1.size
    have B1 : Hid (Below w.heap.size w w1) := Lib.hid b1
    have Ftg1_1 := Lib.hid s1
    have Ltg1 : Hid (Lies A1 g1n c1 w.heap.size w1.heap.size) := Lib.hid s1.lt_
    have Itg1 : Hid (∀ t, t < g1n → ∀ k, (sval (us1.getD t sd0)).ownBlock = some k → w.heap.size ≤ k ∧ k < w1.heap.size) := Lib.hid fun t ht => (s1.row t ht).lt_
    have Qtg1 := Lib.hid q1
    have hltg1 : Hid (∀ i, i < g1n → (us1.getD i sd0).2.1 ≤ 1048576) := Lib.hid fun i hi => by rw [q1 i hi]; exact hlg1.out i hi
    clear s1 b1 q1
    go_wp2_with fail
    have K2 := ctDer i0 A1 g1n c1 us1 g1x w1 ⟨Ftg1_1.out.rr, hng1, hltg1.out⟩ wfi0
    refine K2.mono ?_
    clear K2
    rintro e w2 ⟨v2, rfl, r2, b2⟩
    have Z2 : Hid (w1.heap.size ≤ w2.heap.size) := Lib.hid b2.size
    have B2 : Hid (Below w.heap.size w w2) := Lib.hid (btr B1.out b2)
    have Ftg1_2 := Lib.hid (Ftg1_1.out.up b2)
    clear Ftg1_1
    have HR := Lib.hid r2
    clear r2
    clear b2
    clear Ftg1_2
    go_wp2_with fail
    refine (toSS g1A g1n g1c g1v g1x w2 (Hg1.out.up B2.out) hng1 hlg1).mono ?_
    rintro e w3 ⟨A3, c3, us3, rfl, s3, q3, b3⟩
    have Z3 : Hid (w2.heap.size ≤ w3.heap.size) := Lib.hid b3.size
    have B3 : Hid (Below w.heap.size w w3) := Lib.hid (btr B2.out b3)
    have Fxg1_3 := Lib.hid s3
    have Lxg1 : Hid (Lies A3 g1n c3 w2.heap.size w3.heap.size) := Lib.hid s3.lt_
    have Ixg1 : Hid (∀ t, t < g1n → ∀ k, (sval (us3.getD t sd0)).ownBlock = some k → w2.heap.size ≤ k ∧ k < w3.heap.size) := Lib.hid fun t ht => (s3.row t ht).lt_
    have Qxg1 := Lib.hid q3
    have hlxg1 : Hid (∀ i, i < g1n → (us3.getD i sd0).2.1 ≤ 1048576) := Lib.hid fun i hi => by rw [q3 i hi]; exact hlg1.out i hi
    clear s3 b3 q3
    go_wp2_with fail
    have K4 := IM i0 A3 g1n c3 us3 g1x w3 ⟨Fxg1_3.out.rr, hng1, hlxg1.out⟩ wfi0
    refine K4.mono ?_
    clear K4
    rintro e w4 ⟨v4, rfl, r4, b4⟩
    have Z4 : Hid (w3.heap.size ≤ w4.heap.size) := Lib.hid b4.size
    have B4 : Hid (Below w.heap.size w w4) := Lib.hid (btr B3.out b4)
    have Fxg1_4 := Lib.hid (Fxg1_3.out.up b4)
    clear Fxg1_3
    have e4 := HR.out.uniq r4
    subst e4
    clear r4
    clear b4
    go_wp2_with fail
    refine (toSS g1A g1n g1c g1v g1x w4 (Hg1.out.up B4.out) hng1 hlg1).mono ?_
    rintro e w5 ⟨A5, c5, us5, rfl, s5, q5, b5⟩
    have Z5 : Hid (w4.heap.size ≤ w5.heap.size) := Lib.hid b5.size
    have B5 : Hid (Below w.heap.size w w5) := Lib.hid (btr B4.out b5)
    have Fxg1_5 := Lib.hid (Fxg1_4.out.up b5)
    clear Fxg1_4
    have Fyg1_5 := Lib.hid s5
    have Lyg1 : Hid (Lies A5 g1n c5 w4.heap.size w5.heap.size) := Lib.hid s5.lt_
    have Iyg1 : Hid (∀ t, t < g1n → ∀ k, (sval (us5.getD t sd0)).ownBlock = some k → w4.heap.size ≤ k ∧ k < w5.heap.size) := Lib.hid fun t ht => (s5.row t ht).lt_
    have Qyg1 := Lib.hid q5
    have hlyg1 : Hid (∀ i, i < g1n → (us5.getD i sd0).2.1 ≤ 1048576) := Lib.hid fun i hi => by rw [q5 i hi]; exact hlg1.out i hi
    clear s5 b5 q5
    go_wp2_with fail
    refine (eqRR_same A3 A5 g1n c3 g1n c5 us3 us5 _ w5 Fxg1_5.out.rr Fyg1_5.out.rr (by omega) hylg1).mono ?_
    rintro e w6 ⟨rfl, b6⟩
    have Z6 : Hid (w5.heap.size ≤ w6.heap.size) := Lib.hid b6.size
    have B6 : Hid (Below w.heap.size w w6) := Lib.hid (btr B5.out b6)
    have Fxg1_6 := Lib.hid (Fxg1_5.out.up b6)
    clear Fxg1_5
    have Fyg1_6 := Lib.hid (Fyg1_5.out.up b6)
    clear Fyg1_5
    clear b6
    clear Fyg1_6
    go_wp2_with fail
    go_ret
    exact ⟨rfl, B6.out⟩
  · skip
    have HT0 := Lib.hid hT0
    clear hT0
    go_enter Try.func14, Try.ntmps14
    go_wp2_with fail
    have K0 := szSS2 g1A g1n g1c 1048576 g1v g1x w Hg1.out hmg1 hkg1 (by decide) (by decide)
    refine K0.mono ?_
    rintro e w0 ⟨rfl, rfl⟩
    clear K0
    rw [if_neg (Int.not_le.2 HT0.out)]
    go_wp2
    go_ret
    exact ⟨rfl, Below.refl _ _⟩
end Go.Proofs.Ytcjcmhoalomjfaa

/- The program's commutatorsOf, derivedChain and DerivedSubgroupOrder. Conditions: at most 1048576 lists of at most 1048576 numbers. -/
namespace Go.Proofs.Ytcjcmhoalomjfaa
open Go.RowKit

section
variable {w w' : World} {base B N k n c : Nat} {M M' S : Nat → Prop} {ch : Ch} {L L' : Nat → LK} {A : Option Addr} {vs : List SV} {W : List (List Int)}
/-- A chain is kept where blocks turn that are none of its own; what may turn grows. -/
theorem Ck.step (h : Ck w base N k M ch L) (hbs : base ≤ w.heap.size) (hc : Chg w w' S) (hS : ∀ b, S b → M b) (hn : ∀ b, Mu N k L b → ¬ S b) (hMM : ∀ b, M b → M' b) (hM : ∀ b, M' b → M b ∨ (w.heap.size ≤ b ∧ b < w'.heap.size)) : Ck w' base N k M' ch L :=
  ⟨fun i a b => (h.lk i a b).keep hc (fun t b' ht e => hn b' ⟨i, t, a, b, ht, e⟩) hS fun b' e => (hM b' e).imp id And.left, fun i t b a1 a2 a3 e => hMM b (h.mm i t b a1 a2 a3 e), fun b e => by
    have := hc.size
    rcases hM b e with h1 | h1
    · have := h.mlt b h1; omega
    · omega, h.dis⟩
/-- A list of permutations in a slice of the call's own; what it reads lies outside of M. -/
structure Wt (w : World) (B : Nat) (M : Nat → Prop) (A : Option Addr) (n c : Nat) (vs : List SV) (W : List (List Int)) : Prop where
  own : w.ownsRow B 69 1 (.slice A n c) n (vs.map sval)
  lv : vs.length = n
  lx : W.length = n
  row : ∀ j, j < n → Rd w M (vs.getD j sd0) (W.getD j [])
  inM : ∀ b, (Value.slice A n c).ownBlock = some b → M b
theorem Wt.nil_ : Wt w B M none 0 0 [] [] := ⟨World.ownsRow_nil _ _ _ _, rfl, rfl, fun j h => absurd h (by omega), fun b e => by cases e⟩
theorem Wt.lt_ (h : Wt w B M A n c vs W) : ∀ b, (Value.slice A n c).ownBlock = some b → B ≤ b ∧ b < w.heap.size := World.ownsRow.lt h.own
theorem Wt.keep (h : Wt w B M A n c vs W) (hc : Chg w w' S) (hS : ∀ b, S b → M b) (hn : ∀ b, (Value.slice A n c).ownBlock = some b → ¬ S b) (hMM : ∀ b, M b → M' b) (hM : ∀ b, M' b → M b ∨ w.heap.size ≤ b) : Wt w' B M' A n c vs W :=
  ⟨ownsRow_chg h.own hc hn, h.lv, h.lx, fun j hj => (h.row j hj).keep hc hS hM, fun b e => hMM b (h.inM b e)⟩
theorem Wt.up (h : Wt w B M A n c vs W) (hb : Below w.heap.size w w') : Wt w' B M A n c vs W := h.keep (S := fun _ => False) (.of_below hb) (fun _ e => e.elim) (fun _ _ e => e) (fun _ e => e) fun _ e => .inl e
theorem Wt.at_ (h : Wt w B M A n c vs W) {j : Nat} (hj : j < n) : ∃ g dA dn dc, A = some ⟨g, 0, none⟩ ∧ g < w.heap.size ∧ vs.getD j sd0 = (dA, dn, dc) ∧ w.cell? ⟨g, j, none⟩ = some (.slice dA dn dc) ∧ Rd w M (dA, dn, dc) (W.getD j []) := by
  rcases h.own.2 with ⟨e, h0⟩ | ⟨g', cap, cur, e, hb', hg', hnc, _⟩
  · omega
  · injection e with e _ _
    rcases hv : vs.getD j sd0 with ⟨dA, dn, dc⟩
    subst e
    refine ⟨g', dA, dn, dc, rfl, (Array.getElem?_eq_some_iff.1 hg').1, rfl, ?_, hv ▸ h.row j hj⟩
    rw [h.own.cellAt j (by omega), List.getElem?_map]
    rw [List.getD_eq_getElem?_getD, List.getElem?_eq_getElem (by rw [h.lv]; exact hj)] at hv
    rw [List.getElem?_eq_getElem (by rw [h.lv]; exact hj)]
    have hv : vs[j]'(by rw [h.lv]; exact hj) = (dA, dn, dc) := hv
    show some (sval _) = _
    rw [hv]; rfl
/-- What an append leaves. -/
theorem Wt.snoc (h : Wt w B M A n c vs W) {d : SV} {p : List Int} {A' : Option Addr} {c' : Nat} (hd : Rd w M d p) (ho : w'.ownsRow B 69 1 (.slice A' (n + 1) c') (n + 1) (vs.map sval ++ [sval d])) (hg : w.grownBy w' (Value.slice A n c).ownBlock)
    (hat : (Value.slice A' (n + 1) c').ownBlock = (Value.slice A n c).ownBlock ∨ (Value.slice A' (n + 1) c').ownBlock = some w.heap.size) :
    Wt w' B (fun b => M b ∨ (Value.slice A' (n + 1) c').ownBlock = some b) A' (n + 1) c' (vs ++ [d]) (W ++ [p]) := by
  have hc : Chg w w' (fun b => (Value.slice A n c).ownBlock = some b) := .of_grown hg fun b e => e
  have hM : ∀ b, (M b ∨ (Value.slice A' (n + 1) c').ownBlock = some b) → M b ∨ w.heap.size ≤ b := fun b e => by
    rcases e with e | e
    · exact .inl e
    · rcases hat with h2 | h2
      · exact .inl (h.inM b (h2 ▸ e))
      · rw [h2] at e; injection e with e; exact .inr (by omega)
  refine ⟨by rw [List.map_append]; exact ho, by simp [h.lv], by simp [h.lx], fun j hj => ?_, fun b e => .inr e⟩
  by_cases e : j < n
  · rw [getD_app _ _ _ _ (by rw [h.lv]; exact e), getD_app _ _ _ _ (by rw [h.lx]; exact e)]
    exact (h.row j e).keep hc h.inM hM
  · obtain rfl : j = n := by omega
    rw [getD_snoc _ _ _ _ h.lv.symm, getD_snoc _ _ _ _ h.lx.symm]
    exact hd.keep hc h.inM hM
end

set_option maxHeartbeats 8000000 in
set_option maxRecDepth 100000 in
/-- commutatorsOf. -/
theorem implComms (N n c : Nat) (A : Option Addr) (vs : List SV) (gs : List (List Int)) (M0 : Nat → Prop) (w : World) (hx : RR w w.heap.size A n vs gs) (ok : Hid (∀ g ∈ gs, Pn N g)) (hn8 : n ≤ 8) (hN2 : N ≤ 20) (hM0 : Hid (∀ b, M0 b → b < w.heap.size)) :
    Calls Try.prog 117 #[.slice A n c] w fun e w' => ∃ (A' : Option Addr) (m c' : Nat) (us : List SV) (W : List (List Int)) (M : Nat → Prop), e = .returned (.slice A' m c') ∧ Wt w' w.heap.size M A' m c' us W ∧ (∀ b, M0 b → M b) ∧ (∀ b, M b → M0 b ∨ (w.heap.size ≤ b ∧ b < w'.heap.size)) ∧
      (∀ s ∈ W, ∃ p ∈ gs, ∃ q ∈ gs, s = cmt p q) ∧ (∀ p ∈ gs, ∀ q ∈ gs, cmt p q ∈ W) ∧ W.length ≤ 64 ∧ Below w.heap.size w w' := by
  have HX := Lib.hid hx
  have hlx : Hid (gs.length = n) := Lib.hid hx.lx
  clear hx
  go_enter Try.func117, Try.ntmps117
  go_wp2_with fail
  go_loopg [3, 10] n (fun gg v iv wr => ∃ (i m cc : Nat) (A' : Option Addr) (us : List SV) (W : List (List Int)) (M : Nat → Prop), i ≤ n ∧ n - i ≤ gg ∧ iv = .int .i64 (i : Nat) ∧ v = .slice A' m cc ∧ Wt wr w.heap.size M A' m cc us W ∧ (∀ b, M0 b → M b) ∧ (∀ b, M b → M0 b ∨ (w.heap.size ≤ b ∧ b < wr.heap.size)) ∧ (∀ s ∈ W, ∃ p ∈ gs, ∃ q ∈ gs, s = cmt p q) ∧ (∀ t, t < i → ∀ q ∈ gs, cmt (gs.getD t []) q ∈ W) ∧ W.length ≤ 8 * i ∧ Below w.heap.size w wr)
  case atStart => exact ⟨0, _, _, _, _, _, M0, Nat.zero_le _, by omega, rfl, rfl, Wt.nil_, fun _ e => e, fun _ e => .inl e, fun s hs => (by cases hs), fun t h => absurd h (by omega), Nat.le_refl _, Below.refl _ _⟩
  case round =>
    obtain ⟨i, m, cc, A', us, W, M, hi, hgg, rfl, rfl, hwt, hm1, hm2, hcm, hpr, hlw, bel⟩ := hrel
    have Wt0 := Lib.hid hwt
    have Ma := Lib.hid hm1
    have Mb_ := Lib.hid hm2
    have Cm0 := Lib.hid hcm
    have Pr0 := Lib.hid hpr
    have Be0 := Lib.hid bel
    clear hwt hm1 hm2 hcm hpr bel
    by_cases hlt : i < n
    · obtain ⟨b, off, A5, l, c5, p, eA, hb, hv, ep, x1, rp, lp, hl5⟩ := HX.out.at_ hlt
      subst eA
      have hpm : p ∈ gs := by rw [← ep]; exact getD_memL (by rw [hlx.out]; exact hlt)
      have hpP := ok.out p hpm
      obtain rfl : l = N := by have := hpP.2; omega
      have Rp := Lib.hid rp
      have PP := Lib.hid hpP
      have Pm_ := Lib.hid hpm
      have Ep := Lib.hid ep
      have x2 := (Be0.out.cell (p := ⟨b, off + i, none⟩) hb).trans x1
      have q0 : (0 : Int) ≤ i := by omega
      have q1 : (i : Int) < n := by omega
      clear hv ep rp hpP hpm x1
      go_wp2_with fail
      go_loopg [3, 16] n (fun gg v kv wr => ∃ (k m cc : Nat) (A' : Option Addr) (us : List SV) (W : List (List Int)) (M : Nat → Prop), k ≤ n ∧ n - k ≤ gg ∧ kv = .int .i64 (k : Nat) ∧ v = .slice A' m cc ∧ Wt wr w.heap.size M A' m cc us W ∧ (∀ b, M0 b → M b) ∧ (∀ b, M b → M0 b ∨ (w.heap.size ≤ b ∧ b < wr.heap.size)) ∧ (∀ s ∈ W, ∃ p ∈ gs, ∃ q ∈ gs, s = cmt p q) ∧ (∀ t, t < i → ∀ q ∈ gs, cmt (gs.getD t []) q ∈ W) ∧ (∀ q ∈ gs.take k, cmt p q ∈ W) ∧ W.length ≤ 8 * i + k ∧ Below w.heap.size w wr)
      case atStart => exact ⟨0, _, _, _, _, _, M, Nat.zero_le _, by omega, rfl, rfl, Wt0.out, Ma.out, Mb_.out, Cm0.out, Pr0.out, fun q hq => by simp at hq, by omega, Be0.out⟩
      case round =>
        clear Wt0 Ma Mb_ Cm0 Pr0 Be0 hlw x2
        obtain ⟨k, m, cc, A', us, W, M, hk, hg2, rfl, rfl, hwt, hm1, hm2, hcm, hpr, hpk, hlw, bel⟩ := hrel
        have Ww := Lib.hid hwt
        have Ma := Lib.hid hm1
        have Mb_ := Lib.hid hm2
        have Cm := Lib.hid hcm
        have Pr := Lib.hid hpr
        have Pk := Lib.hid hpk
        have Be := Lib.hid bel
        have hlm : Hid (W.length = m) := Lib.hid hwt.lx
        have hzw := bel.size
        clear hwt hm1 hm2 hcm hpr hpk bel
        by_cases hkt : k < n
        · obtain ⟨b', off', A6, l2, c6, q, eA, hb', hv, eq_, y1, rq, lq, hl6⟩ := HX.out.at_ hkt
          injection eA with eA
          injection eA with eb eo _
          subst eb eo
          have hqm : q ∈ gs := by rw [← eq_]; exact getD_memL (by rw [hlx.out]; exact hkt)
          have hqP := ok.out q hqm
          obtain rfl : l2 = l := by have := hqP.2; omega
          have QQ := Lib.hid hqP
          have Qm := Lib.hid hqm
          have Eq := Lib.hid eq_
          have Rq2 := Lib.hid (rq.up Be.out)
          have Rp2 := Lib.hid (Rp.out.up Be.out)
          have y2 := (Be.out.cell (p := ⟨b, off + k, none⟩) hb').trans y1
          have r0 : (0 : Int) ≤ k := by omega
          have r1 : (k : Int) < n := by omega
          have hm9 : m ≤ 100 := by have := hlm.out; omega
          have CJ : Hid (Pn l2 (cj q p)) := Lib.hid ((hqP.iv.comp PP.out).comp hqP)
          have lp2 : Hid (p.length = l2) := Lib.hid PP.out.2
          clear hv eq_ hb' rq hqP hqm y1
          go_wp2_with fail
          refine (implInv A5 c5 l2 p wr Rp2.out lp2 (Lib.hid PP.out.1) hN2).mono ?_
          rintro e w5 ⟨A7, c7, rfl, s7, b5⟩
          rw [inv_iv PP.out] at s7
          have S7 := Lib.hid s7
          have B5 := Lib.hid b5
          clear s7 b5
          go_wp2_with fail
          refine (implCj A5 A6 c5 c6 l2 p q w5 (Rp2.out.up B5.out) (Rq2.out.up B5.out) PP QQ).mono ?_
          rintro e w6 ⟨A8, c8, rfl, s8, b6⟩
          have S8 := Lib.hid s8
          have S7b := Lib.hid (S7.out.up b6)
          have B6 : Hid (Below wr.heap.size wr w6) := Lib.hid (btr B5.out b6)
          clear s8 b6
          go_wp2_with fail
          refine (implThen A7 A8 c7 c8 l2 (iv p) (cj q p) w6 S7b.out.ri_ S8.out.ri_ (Lib.hid PP.out.iv.2) (Lib.hid CJ.out.2) (Lib.hid PP.out.iv.1) hN2).mono ?_
          rintro e w7 ⟨A9, c9, rfl, s9, b7⟩
          rw [cmt_cj PP.out QQ.out] at s9
          have S9 := Lib.hid s9
          have B7 : Hid (Below wr.heap.size wr w7) := Lib.hid (btr B6.out b7)
          have hz7 : wr.heap.size ≤ w7.heap.size := B7.out.size
          have hz6 : wr.heap.size ≤ w6.heap.size := B6.out.size
          have W7 := Lib.hid (Ww.out.up B7.out)
          have R9 : Hid (Rd w7 M (A9, l2, c9) (cmt p q)) := Lib.hid (.of_slc (d := (A9, l2, c9)) s9 fun b e => by
            have h0 := hM0.out b
            rcases Mb_.out b e with h | h
            · have := h0 h; omega
            · omega)
          clear s9 b7
          go_wp2_with (at_builtin; go_must (refine wpList_appP rfl _ _ rfl w.heap.size (.slice A' m cc) m (us.map sval) rfl (World.ownsRow.alloc W7.out.own _) w7.heap.size (A9, l2, c9) rfl (by rw [World.cell?_alloc_at _ _ _ _ rfl]; rfl) (by omega) (by simp; omega) ?_); intro A10 c10 w10 o10 g10 h10)
          have Al : Below w7.heap.size w7 (w7.alloc (.cells #[.slice A9 l2 c9] 69)) := (Below.refl _ _).alloc (Nat.le_refl _) _
          have Wn := (W7.out.up Al).snoc (R9.out.up Al) o10 g10 h10
          have Be10 : Hid (Below w.heap.size w w10) := Lib.hid (((btr Be.out B7.out).alloc (btr Be.out B7.out).size _).grown g10 (by have := (btr Be.out B7.out).size; simp; omega) (fun j hj => (Ww.out.lt_ j hj).1))
          have Wn1 := Lib.hid Wn
          have Ma2 : Hid (∀ b, M0 b → (M b ∨ (Value.slice A10 (m + 1) c10).ownBlock = some b)) := Lib.hid fun b e => .inl (Ma.out b e)
          have Mb2 : Hid (∀ b, (M b ∨ (Value.slice A10 (m + 1) c10).ownBlock = some b) → M0 b ∨ (w.heap.size ≤ b ∧ b < w10.heap.size)) := Lib.hid fun b e => by
            have hz := g10.size
            simp at hz
            rcases e with e | e
            · rcases Mb_.out b e with h | h
              · exact .inl h
              · exact .inr (by omega)
            · exact .inr (Wn.lt_ b e)
          have Cm2 : Hid (∀ s ∈ W ++ [cmt p q], ∃ p ∈ gs, ∃ q ∈ gs, s = cmt p q) := Lib.hid fun s hs => by
            rcases List.mem_append.1 hs with hs | hs
            · exact Cm.out s hs
            · exact ⟨p, Pm_.out, q, Qm.out, List.mem_singleton.1 hs⟩
          have Pr2 : Hid (∀ t, t < i → ∀ q' ∈ gs, cmt (gs.getD t []) q' ∈ W ++ [cmt p q]) := Lib.hid fun t h q' hq' => List.mem_append_left _ (Pr.out t h q' hq')
          have Pk2 : Hid (∀ x ∈ gs.take (k + 1), cmt p x ∈ W ++ [cmt p q]) := Lib.hid fun x hx => by
            rw [List.take_succ_eq_append_getElem (by rw [hlx.out]; exact hkt)] at hx
            rcases List.mem_append.1 hx with hx | hx
            · exact List.mem_append_left _ (Pk.out x hx)
            · have e1 : gs[k]'(by rw [hlx.out]; exact hkt) = q := by rw [← Eq.out, List.getD_eq_getElem?_getD, List.getElem?_eq_getElem (by rw [hlx.out]; exact hkt)]; rfl
              rw [List.mem_singleton.1 hx, e1]; simp
          have hlw2 : (W ++ [cmt p q]).length ≤ 8 * i + (k + 1) := by rw [List.length_append, List.length_singleton]; omega
          clear o10 g10 h10 Wn Al y2
          go_wp2_with fail
          go_roundg (n - (k + 1))
          case rel => exact ⟨k + 1, _, _, _, _, _, _, by omega, by omega, by go_num, rfl, Wn1.out, Ma2.out, Mb2.out, Cm2.out, Pr2.out, Pk2.out, hlw2, Be10.out⟩
          case measure => omega
        · obtain rfl : n = k := by omega
          have Pr2 : Hid (∀ t, t < i + 1 → ∀ q ∈ gs, cmt (gs.getD t []) q ∈ W) := Lib.hid fun t h1 q hq => by
            rcases Nat.lt_or_ge t i with h | h
            · exact Pr.out t h q hq
            · obtain rfl : t = i := by omega
              rw [Ep.out]; exact Pk.out q (by rw [List.take_of_length_le (by rw [hlx.out]; exact Nat.le_refl _)]; exact hq)
          go_wp2_with fail
          go_roundg (n - (i + 1))
          case rel => exact ⟨i + 1, _, _, _, _, _, M, by omega, by omega, by go_num, rfl, Ww.out, Ma.out, Mb_.out, Cm.out, Pr2.out, by omega, Be.out⟩
          case measure => omega
    · obtain rfl : n = i := by omega
      have All : Hid (∀ p ∈ gs, ∀ q ∈ gs, cmt p q ∈ W) := Lib.hid fun p hp q hq => by
        obtain ⟨t, ht, rfl⟩ := mem_at hp
        exact Pr0.out t (by rw [← hlx.out]; exact ht) q hq
      go_wp2_with fail
      go_ret
      exact ⟨_, _, _, us, W, M, rfl, Wt0.out, Ma.out, Mb_.out, Cm0.out, All.out, by omega, Be0.out⟩

set_option maxHeartbeats 16000000 in
set_option maxRecDepth 100000 in
/-- derivedChain. -/
theorem implDerivedChain (N n c : Nat) (A : Option Addr) (vs : List SV) (gs : List (List Int)) (w : World) (hx : RR w w.heap.size A n vs gs) (ok : Hid (∀ g ∈ gs, Pn N g)) (hn8 : n ≤ 8) (hN1 : 1 ≤ N) (hN2 : N ≤ 20) :
    Calls Try.prog 86 #[.int .i64 (N : Nat), .slice A n c] w fun e w' => ∃ (ch : Ch) (L : Nat → LK) (M : Nat → Prop) (hs : List (List Int)), e = .returned (.pointer (some ⟨(L 0).B, 0, none⟩)) ∧ Ck w' w.heap.size N 0 M ch L ∧ Orbs N 0 ch L ∧ Whole N hs ch ∧ (∀ s ∈ hs, Pn N s) ∧ (∀ p, Mb hs N p ↔ Drv N (Mb gs N) p) ∧ Below w.heap.size w w' := by
  have HX := Lib.hid hx
  have hlx : Hid (gs.length = n) := Lib.hid hx.lx
  clear hx
  go_enter Try.func86, Try.ntmps86
  go_wp2_with fail
  refine (implChainOf N 0 0 none [] [] w RR.nil_ hN1 hN2 (by omega) (Lib.hid fun g hg => (by cases hg))).mono ?_
  rintro e w2 ⟨ch0, L0, M0, rfl, hc, ho, hw, b2⟩
  have C2 := Lib.hid hc
  have O2 := Lib.hid ho
  have W2 := Lib.hid hw
  have B2 := Lib.hid b2
  have hz2 := b2.size
  clear hc ho hw b2
  go_wp2_with fail
  refine (implComms N n c A vs gs M0 w2 (HX.out.up B2.out) ok hn8 hN2 (Lib.hid fun b e => (C2.out.mlt b e).2)).mono ?_
  rintro e w3 ⟨A3, m3, c3, us3, W, M3, rfl, hwt, hm1, hm2, hcm, hall, hlw, b3⟩
  have Wt3 := Lib.hid hwt
  have C3 : Hid (Ck w3 w.heap.size N 0 M3 ch0 L0) := Lib.hid (C2.out.step hz2 (S := fun _ => False) (.of_below b3) (fun _ e => e.elim) (fun _ _ e => e) hm1 hm2)
  have Ap3 : Hid (∀ b, (Value.slice A3 m3 c3).ownBlock = some b → ¬ Mu N 0 L0 b) := Lib.hid fun b hb hm => by
    have h1 := (hwt.lt_ b hb).1
    have h2 := (C2.out.mlt b (C2.out.muM b hm)).2
    omega
  have B3 : Hid (Below w.heap.size w w3) := Lib.hid (btr B2.out b3)
  have Hz3 := Lib.hid b3.size
  have All : Hid (∀ p ∈ gs, ∀ q ∈ gs, cmt p q ∈ W ∨ cmt q p ∈ W ∨ p = q) := Lib.hid fun p hp q hq => .inl (hall p hp q hq)
  have Dv0 : Hid (Dv N gs W W [] 0) := Lib.hid (.start (fun s hs => by
    obtain ⟨p, hp, q, hq, rfl⟩ := hcm s hs
    exact drv_cmt (sgp_mb ok.out hN1 hN2) (.of (ok.out p hp) hp) (.of (ok.out q hq) hq)) hlw)
  clear hwt hm1 hm2 hcm hall hlw b3 C2
  go_wp2_with fail
  go_loopg [6, 7] 700 (fun gg v iv wr => ∃ (j m cc : Nat) (A' : Option Addr) (us : List SV) (V hs : List (List Int)) (ch : Ch) (L : Nat → LK) (M : Nat → Prop), j ≤ V.length ∧ 700 - j ≤ gg ∧ iv = .int .i64 (j : Nat) ∧ v = .slice A' m cc ∧ Wt wr w2.heap.size M A' m cc us V ∧ Ck wr w.heap.size N 0 M ch L ∧ Orbs N 0 ch L ∧ Whole N hs ch ∧ (L 0).B = (L0 0).B ∧ (∀ b, (Value.slice A' m cc).ownBlock = some b → ¬ Mu N 0 L b) ∧ Dv N gs W V hs j ∧ w2.heap.size ≤ wr.heap.size ∧ Below w.heap.size w wr)
  case atStart => exact ⟨0, _, _, _, _, _, [], ch0, L0, M3, Nat.zero_le _, by omega, rfl, rfl, Wt3.out, C3.out, O2.out, W2.out, rfl, Ap3.out, Dv0.out, Hz3.out, B3.out⟩
  case round =>
    clear Wt3 C3 Ap3 Dv0 B3 O2 W2
    obtain ⟨j, m, cc, A', us, V, hs, ch, L, M, hj, hg2, rfl, rfl, hwt, hc, ho, hw, hB, hap, hdv, hz0, bel⟩ := hrel
    have HzA := Lib.hid hz0
    clear hz0
    have Ws := Lib.hid hwt
    have Cj := Lib.hid hc
    have Oj := Lib.hid ho
    have Wj := Lib.hid hw
    have HB := Lib.hid hB
    have Ap := Lib.hid hap
    have Dj := Lib.hid hdv
    have Be := Lib.hid bel
    have hlm : Hid (V.length = m) := Lib.hid hwt.lx
    obtain ⟨few1, few2⟩ := hdv.few ok.out hN1 hN2
    have hjm : j ≤ m := by rw [← hwt.lx]; exact hj
    have hm6 : m ≤ 600 := by rw [← hwt.lx]; exact few2
    have Pnh := Lib.hid (hdv.pnh ok.out hN1 hN2)
    have hzw := bel.size
    clear hwt hc ho hw hB hap hdv bel hj few1 few2
    by_cases hlt : j < m
    · obtain ⟨b, A5, l, c5, eA, hb, ev, x1, hrd⟩ := Ws.out.at_ hlt
      subst eA
      obtain ⟨y, ey⟩ : ∃ y, V.getD j [] = y := ⟨_, rfl⟩
      rw [ey] at hrd
      have hyV : y ∈ V := getD_of (by rw [hlm.out]; exact hlt) ey
      have hyP := Dj.out.pn ok.out hN1 hN2 y hyV
      obtain rfl : l = N := by have h1 : y.length = l := hrd.len; have := hyP.2; omega
      have Rdy := Lib.hid hrd
      have YP := Lib.hid hyP
      have Ey := Lib.hid ey
      obtain ⟨ans, hans⟩ := boolOf (Mb hs l y)
      have Ha := Lib.hid hans
      have q0 : (0 : Int) ≤ j := by omega
      have q1 : (j : Int) < m := by omega
      have K := implContains w.heap.size l 0 c5 M ch L A5 y wr Cj.out (by omega) (Lib.hid Wj.out.up) hN2 Rdy.out.ri YP (Lib.hid Fx.zero) ans (Lib.hid (Ha.out.trans (Wj.out.mem y).symm))
      rw [HB.out] at K
      have Kh := Lib.hid K
      clear ev ey hrd hyV hyP hans K
      go_wp2_with fail
      refine Kh.out.mono ?_
      rintro e w4 ⟨rfl, b4⟩
      have C4 := Lib.hid (Cj.out.up b4)
      have Ws4 := Lib.hid (Ws.out.up b4)
      have R4 := Lib.hid (Rdy.out.up b4)
      have Be4 : Hid (Below w.heap.size w w4) := Lib.hid (btr Be.out b4)
      have hz4 := Be4.out.size
      have Hz4 : Hid (w2.heap.size ≤ w4.heap.size) := Lib.hid (Nat.le_trans HzA.out b4.size)
      clear b4 x1 hb Cj Rdy Be hzw Kh Ws
      rcases ans with _ | _
      · have hno : ¬ Mb hs l y := fun h => absurd (Ha.out.2 h) (by decide)
        have Dn := Lib.hid (Dj.out.add ok.out hN1 hN2 (by rw [hlx.out]; exact hn8) (by rw [hlm.out]; exact hlt) Ey.out hno)
        have K := implAdd w.heap.size l hN2 (l - 1) 0 (by omega) M ch L A5 c5 y w4 C4.out Oj.out R4.out YP.out Fx.zero Wj.out.up
        rw [HB.out] at K
        have Kh := Lib.hid K
        clear hno K
        go_wp2_with fail
        refine Kh.out.mono ?_
        rintro e w5 ⟨ch', L', M', rfl, hc5, ho5, hg5, hap5⟩
        have C5 := Lib.hid hc5
        have O5 := Lib.hid ho5
        have Ws5 : Hid (Wt w5 w2.heap.size M' (some ⟨b, 0, none⟩) m cc us V) := Lib.hid (Ws4.out.keep hg5.chg C4.out.muM Ap.out hg5.mm hg5.new_)
        have R5 := Lib.hid (R4.out.gw hg5 C4.out.muM)
        have Ap5 : Hid (∀ b', (Value.slice (some ⟨b, 0, none⟩) m cc).ownBlock = some b' → ¬ Mu l 0 L' b') := Lib.hid fun b' hb' hm => by
          rcases hg5.mu b' hm with h | h
          · exact Ap.out b' hb' h
          · have := (Ws4.out.lt_ b' hb').2; omega
        have HB5 : Hid ((L' 0).B = (L0 0).B) := Lib.hid ((hg5.ptr 0).trans HB.out)
        have Be5 : Hid (Below w.heap.size w w5) := Lib.hid (Be4.out.trans (hg5.chg.below (fun b' e => (C4.out.mlt b' (C4.out.muM b' e)).1) hz4))
        have Hz5 : Hid (w2.heap.size ≤ w5.heap.size) := Lib.hid (Nat.le_trans Hz4.out hg5.chg.size)
        have W5 : Hid (Whole l (hs ++ [y]) ch') := Lib.hid (Wj.out.next hN1 hN2 Pnh.out YP.out hap5)
        clear Kh hc5 ho5 hg5 hap5 C4 Ws4 R4 Be4 hz4
        go_wp2_with fail
        obtain ⟨wo, rfl⟩ : ∃ wo, wo = wr := ⟨_, rfl⟩
        go_loopg [6, 33] n (fun gg v kv wr => ∃ (k m' cc : Nat) (A' : Option Addr) (us : List SV) (M : Nat → Prop), k ≤ n ∧ n - k ≤ gg ∧ m' = m + k ∧ kv = .int .i64 (k : Nat) ∧ v = .slice A' m' cc ∧ Wt wr w2.heap.size M A' m' cc us (V ++ (gs.take k).map fun g => cj g y) ∧ Ck wr w.heap.size l 0 M ch' L' ∧ (∀ b, (Value.slice A' m' cc).ownBlock = some b → ¬ Mu l 0 L' b) ∧ Rd wr M (A5, l, c5) y ∧ w2.heap.size ≤ wr.heap.size ∧ Below w.heap.size w wr)
        case atStart => exact ⟨0, _, _, _, _, M', Nat.zero_le _, by omega, rfl, rfl, rfl, by simpa using Ws5.out, C5.out, Ap5.out, R5.out, Hz5.out, Be5.out⟩
        case round =>
          clear Ws5 C5 Ap5 R5 Be5
          obtain ⟨k, m', cc', A', us', M2, hk, hg3, hmk, rfl, rfl, hwt, hc, hap, hrd, hz0, bel⟩ := hrel
          have HzB := Lib.hid hz0
          clear hz0
          have Hmk := Lib.hid hmk
          have hm7 : m' ≤ 700 := by omega
          have S2 := Lib.hid hwt
          have C2 := Lib.hid hc
          have Ap2 := Lib.hid hap
          have R2 := Lib.hid hrd
          have Be := Lib.hid bel
          have hzw := bel.size
          clear hwt hc hap hrd bel hmk
          by_cases hkt : k < n
          · obtain ⟨b2, off2, A6, l2, c6, q, eA, hb2, hv, eq_, y1, rq, lq, hl6⟩ := HX.out.at_ hkt
            subst eA
            have hqm : q ∈ gs := by rw [← eq_]; exact getD_memL (by rw [hlx.out]; exact hkt)
            have hqP := ok.out q hqm
            obtain rfl : l2 = l := by have := hqP.2; omega
            have QQ := Lib.hid hqP
            have Eq := Lib.hid eq_
            have Rq2 := Lib.hid (rq.up Be.out)
            have y2 := (Be.out.cell (p := ⟨b2, off2 + k, none⟩) hb2).trans y1
            have r0 : (0 : Int) ≤ k := by omega
            have r1 : (k : Int) < n := by omega
            clear hv eq_ rq hqP hqm y1 lq hl6
            go_wp2_with fail
            refine (implCj A5 A6 c5 c6 l2 y q wr R2.out.ri Rq2.out YP QQ).mono ?_
            rintro e w9 ⟨A9, c9, rfl, s9, b9⟩
            have S9 := Lib.hid s9
            have B9 := Lib.hid b9
            have hz9 := b9.size
            have Sw := Lib.hid (S2.out.up b9)
            have C9 := Lib.hid (C2.out.up b9)
            have R9 := Lib.hid (R2.out.up b9)
            have Rn : Hid (Rd w9 M2 (A9, l2, c9) (cj q y)) := Lib.hid (.of_slc (d := (A9, l2, c9)) s9 fun b e => (C2.out.mlt b e).2)
            clear s9 b9 y2
            go_wp2_with (at_builtin; go_must (refine wpList_appP rfl _ _ rfl w2.heap.size (.slice A' m' cc') m' (us'.map sval) rfl (World.ownsRow.alloc Sw.out.own _) w9.heap.size (A9, l2, c9) rfl (by rw [World.cell?_alloc_at _ _ _ _ rfl]; rfl) (by omega) (by have := HzB.out; simp; omega) ?_); intro A10 c10 w10 o10 g10 h10)
            have Al : Below w9.heap.size w9 (w9.alloc (.cells #[.slice A9 l2 c9] 69)) := (Below.refl _ _).alloc (Nat.le_refl _) _
            have Wn := (Sw.out.up Al).snoc (Rn.out.up Al) o10 g10 h10
            have S10 : Hid (Wt w10 w2.heap.size (fun b => M2 b ∨ (Value.slice A10 (m' + 1) c10).ownBlock = some b) A10 (m' + 1) c10 (us' ++ [(A9, l2, c9)]) (V ++ (gs.take (k + 1)).map fun g => cj g y)) := Lib.hid (by
              have e1 : (gs.take (k + 1)).map (fun g => cj g y) = (gs.take k).map (fun g => cj g y) ++ [cj q y] := by
                rw [List.take_succ_eq_append_getElem (by rw [hlx.out]; exact hkt), List.map_append]
                have e1 : gs[k]'(by rw [hlx.out]; exact hkt) = q := by rw [← Eq.out, List.getD_eq_getElem?_getD, List.getElem?_eq_getElem (by rw [hlx.out]; exact hkt)]; rfl
                rw [e1]; rfl
              rw [e1, ← List.append_assoc]; exact Wn)
            have hcg : Chg (w9.alloc (.cells #[.slice A9 l2 c9] 69)) w10 (fun b => (Value.slice A' m' cc').ownBlock = some b) := .of_grown g10 fun b e => e
            have hMn : ∀ b, (M2 b ∨ (Value.slice A10 (m' + 1) c10).ownBlock = some b) → M2 b ∨ ((w9.alloc (.cells #[.slice A9 l2 c9] 69)).heap.size ≤ b ∧ b < w10.heap.size) := fun b e => by
              rcases e with e | e
              · exact .inl e
              · rcases h10 with h | h
                · exact .inl (S2.out.inM b (h ▸ e))
                · have h2 := (Wn.lt_ b e).2
                  rw [h] at e; injection e with e
                  exact .inr (by omega)
            have C10 : Hid (Ck w10 w.heap.size l2 0 (fun b => M2 b ∨ (Value.slice A10 (m' + 1) c10).ownBlock = some b) ch' L') := Lib.hid ((C9.out.up Al).step (by simp; omega) hcg S2.out.inM (fun b hb e => Ap2.out b e hb) (fun _ e => .inl e) hMn)
            have R10 : Hid (Rd w10 (fun b => M2 b ∨ (Value.slice A10 (m' + 1) c10).ownBlock = some b) (A5, l2, c5) y) := Lib.hid ((R9.out.up Al).keep hcg S2.out.inM fun b e => (hMn b e).imp id And.left)
            have Ap10 : Hid (∀ b, (Value.slice A10 (m' + 1) c10).ownBlock = some b → ¬ Mu l2 0 L' b) := Lib.hid fun b hb hm => by
              rcases h10 with e | e
              · exact Ap2.out b (e ▸ hb) hm
              · have h1 := (C2.out.mlt b (C2.out.muM b hm)).2
                rw [e] at hb
                injection hb with hb
                simp at hb; omega
            have B10 : Hid (Below w.heap.size w w10) := Lib.hid (((btr Be.out B9.out).alloc (btr Be.out B9.out).size _).grown g10 (by have := (btr Be.out B9.out).size; simp; omega) (fun j hj => by have := (S2.out.lt_ j hj).1; omega))
            have Hz10 : Hid (w2.heap.size ≤ w10.heap.size) := Lib.hid (by have := g10.size; have := HzB.out; simp at *; omega)
            clear o10 g10 h10 Wn Al hcg hMn
            go_wp2_with fail
            go_roundg (n - (k + 1))
            case rel => exact ⟨k + 1, _, _, _, _, _, by omega, by omega, by have := Hmk.out; omega, by go_num, rfl, S10.out, C10.out, Ap10.out, R10.out, Hz10.out, B10.out⟩
            case measure => omega
          · obtain rfl : n = k := by omega
            have S3 : Hid (Wt wr w2.heap.size M2 A' m' cc' us' (V ++ gs.map fun g => cj g y)) := Lib.hid (by have := S2.out; rwa [List.take_of_length_le (by rw [hlx.out]; exact Nat.le_refl _)] at this)
            have hlen : j + 1 ≤ (V ++ gs.map fun g => cj g y).length := by rw [List.length_append, hlm.out]; omega
            go_wp2_with fail
            go_roundg (700 - (j + 1))
            case rel => exact ⟨j + 1, _, _, _, _, _, hs ++ [y], ch', L', M2, hlen, by omega, by go_num, rfl, S3.out, C2.out, O5.out, W5.out, HB5.out, Ap2.out, Dn.out, HzB.out, Be.out⟩
            case measure => omega
      · have Dn := Lib.hid (Dj.out.skip (by rw [Ey.out]; exact Ha.out.1 rfl))
        go_wp2_with fail
        go_roundg (700 - (j + 1))
        case rel => exact ⟨j + 1, _, _, _, _, _, hs, ch, L, M, by rw [hlm.out]; omega, by omega, by go_num, rfl, Ws4.out, C4.out, Oj.out, Wj.out, HB.out, Ap.out, Dn.out, Hz4.out, Be4.out⟩
        case measure => omega
    · obtain rfl : j = m := by omega
      have Fin : Hid (∀ p, Mb hs N p ↔ Drv N (Mb gs N) p) := Lib.hid (by
        have hf := Dj.out
        rw [← hlm.out] at hf
        exact hf.fin ok.out hN1 hN2 All.out)
      go_wp2_with fail
      go_ret
      exact ⟨ch, L, M, hs, by rw [HB.out]; rfl, Cj.out, Oj.out, Wj.out, Pnh.out, Fin.out, Be.out⟩

set_option maxHeartbeats 4000000 in
set_option maxRecDepth 100000 in
/-- DerivedSubgroupOrder. -/
theorem implDerivedSubgroupOrder : CtImI 37 IsDer := by
  intro a A n c vs xss w g _
  have HX := Lib.hid g.rr
  have hlx : Hid (xss.length = n) := Lib.hid g.rr.lx
  have hn := g.hn
  have hl := Lib.hid g.hl
  clear g
  go_enter Try.func37, Try.ntmps37
  go_wp2_with fail
  refine (implGS a A n c vs xss w HX.out hn hl).mono ?_
  rintro e w1 ⟨rfl, b1⟩
  have B1 := Lib.hid b1
  clear b1
  rcases hs : gB a xss with _ | _
  · have Fin : Hid (IsDer a xss 0) := Lib.hid (.inr ⟨hs, rfl⟩)
    clear hs
    go_wp2_with fail
    go_ret
    exact ⟨_, rfl, Fin.out, B1.out⟩
  · obtain ⟨N, rfl, hN1, hN2, hg8, hpm, hok⟩ := gB_pm hs
    have Hs := Lib.hid hs
    have Ok : Hid (∀ g ∈ xss, Pn N g) := Lib.hid hok
    have hn8 : n ≤ 8 := by rw [← hlx.out]; exact hg8
    clear hs hpm hok hg8
    go_wp2_with fail
    refine (implDerivedChain N n c A vs xss w1 (HX.out.up B1.out) Ok hn8 hN1 hN2).mono ?_
    rintro e w2 ⟨ch, L, M, hs, rfl, hc, ho, hw, hp, hd, b2⟩
    have W2 := Lib.hid hw
    have C2 := Lib.hid hc
    have O2 := Lib.hid ho
    have Hp := Lib.hid hp
    have B2 : Hid (Below w.heap.size w w2) := Lib.hid (btr B1.out b2)
    have Fin : ∃ v : Nat, prodL (osL N ch N) = (v : Int) ∧ IsDer N xss v := by
      obtain ⟨v, cv, ev⟩ := (hw.os hN1 hN2).order hp hN1 hN2
      exact ⟨v, ev, .inl ⟨Hs.out, v, by rw [Int.toNat_natCast]; exact cv.congr hd, rfl⟩⟩
    obtain ⟨v, ev, hfin⟩ := Fin
    have Fin := Lib.hid hfin
    have K := implOrder w1.heap.size N 0 0 M ch L hs w2 C2.out O2.out W2 (Nat.le_refl _) (Nat.zero_le _) hN1 hN2 Hp
    rw [ptr_at (by omega)] at K
    have Ev : Hid (pr (osL N ch N) 0 (N - 0) = (v : Int)) := Lib.hid (by rw [← ev, prodL_pr, osL_len]; rfl)
    have Kh := Lib.hid K
    clear hc ho hw hp hd b2 ev hfin K
    go_wp2_with fail
    refine Kh.out.mono ?_
    rintro e w3 ⟨rfl, rfl⟩
    rw [Ev.out]
    go_wp2_with fail
    go_ret
    exact ⟨_, rfl, Fin.out, B2.out⟩
end Go.Proofs.Ytcjcmhoalomjfaa
