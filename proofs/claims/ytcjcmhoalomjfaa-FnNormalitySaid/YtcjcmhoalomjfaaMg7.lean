/- Part 7 of the texts: SbM, WalkF6, RkA, RkL, EqI, SbN, Conj, PkM, Shelf, Row, PkV, PkO, PkL, PsN, PsM, WalkG6. No condition of its own: each text tells its own. -/
import Derived.Test.YtcjcmhoalomjfaaMg4
import Derived.Test.YtcjcmhoalomjfaaMg6
import Derived.Test.YtcjcmhoalomjfaaMg2
import Derived.Test.YtcjcmhoalomjfaaMg3
import Derived.Test.YtcjcmhoalomjfaaMg1
import Derived.Test.YtcjcmhoalomjfaaMg5
import Derived.Deep.RegionHeld3
import Derived.BigQuiet
import Derived.WalkSpells
import Derived.Shelf.SortM.Plain
import Derived.Test.YtcjcmhoalomjfaaProg
import Derived.Sort.Grow
import Derived.Laws.EntriesVeiled
set_option linter.unusedVariables false
set_option linter.unusedSimpArgs false

/- IsNormalSubgroup of the model. Conditions: at most 1048576 lists of at most 1048576 numbers. -/
namespace Go.Proofs.Ytcjcmhoalomjfaa
open Go.RowKit

theorem inv_iv {N : Nat} {q : List Int} (h : Pn N q) : invL q N = iv q := by unfold iv; rw [h.2]

set_option maxHeartbeats 8000000 in
set_option maxRecDepth 100000 in
/-- IsNormalSubgroup. -/
theorem ctNor : CtImmB 34 IsNor := by
  intro a A n c vs xss M m cm us yss w g s ha
  have G := Lib.hid g
  have S := Lib.hid s
  have HX := Lib.hid g.rr
  have HY := Lib.hid s.rr
  have hlx : Hid (xss.length = n) := Lib.hid g.rr.lx
  have hly : Hid (yss.length = m) := Lib.hid s.rr.lx
  clear g s
  go_enter Try.func34, Try.ntmps34
  go_wp2_with fail
  refine (ctSub a A n c vs xss M m cm us yss w G.out S.out ha).mono ?_
  rintro e w1 ⟨v, rfl, hv, b1⟩
  have B1 := Lib.hid b1
  clear b1
  rcases v with _ | _
  · have Fin : Hid (IsNor a xss yss false) := Lib.hid ⟨fun h => (by cases h), fun h => absurd (hv.2 h.1) (by decide)⟩
    clear hv
    go_wp2_with fail
    go_ret
    exact ⟨_, rfl, Fin.out, B1.out⟩
  · have Hs : Hid (SubG a xss yss) := Lib.hid (hv.1 rfl)
    clear hv
    obtain ⟨N, rfl, hN1, hN2, hg8, hpm, hok⟩ := gB_pm Hs.out.1
    obtain ⟨N', eN, _, _, hg8b, _, hok2⟩ := gB_pm Hs.out.2.1
    obtain rfl : N = N' := by omega
    have Ok : Hid (∀ g ∈ xss, Pn N g) := Lib.hid hok
    have Ok2 : Hid (∀ g ∈ yss, Pn N g) := Lib.hid hok2
    have hn8 : n ≤ 8 := by rw [← hlx.out]; exact hg8
    have hm8 : m ≤ 8 := by rw [← hly.out]; exact hg8b
    have Nri := Lib.hid (nrm_iff Ok2.out Ok.out hN1 hN2)
    clear hpm hok hok2 hg8 hg8b eN G S
    go_wp2_with fail
    refine (specBuild N n c A vs xss w1 (HX.out.up B1.out) hN1 hN2 hn8 Ok).mono ?_
    rintro e w3 ⟨g, L, ch, rfl, hc, hw, b3⟩
    have W3 := Lib.hid hw
    have C3 := Lib.hid hc
    have B3 : Hid (Below w.heap.size w w3) := Lib.hid (btr B1.out b3)
    have X3 := Lib.hid (HX.out.up B3.out)
    have Y3 := Lib.hid (HY.out.up B3.out)
    clear hc hw b3
    clear HX HY B1
    go_wp2_with fail
    go_loopg [8] n (fun gg iv wr => ∃ i : Nat, i ≤ n ∧ n - i ≤ gg ∧ iv = .int .i64 (i : Nat) ∧ (∀ s ∈ xss.take i, ∀ q ∈ yss, Mb xss N (cj q s)) ∧ Below w3.heap.size w3 wr)
    case atStart => exact ⟨0, Nat.zero_le _, by omega, rfl, fun x hx => by simp at hx, Below.refl _ _⟩
    case round =>
      obtain ⟨i, hi, hgg, rfl, hall, bel⟩ := hrel
      have Al := Lib.hid hall
      have Be := Lib.hid bel
      clear hall bel
      by_cases hlt : i < n
      · obtain ⟨bx, ox, A5, l, c5, p, rfl, hbx, hv, ep, x1, rp, lp, hl5⟩ := X3.out.at_ hlt
        have hpm : p ∈ xss := by rw [← ep]; exact getD_memL (by rw [hlx.out]; exact hlt)
        have hpP := Ok.out p hpm
        obtain rfl : l = N := by have := hpP.2; omega
        have Rp := Lib.hid rp
        have PP := Lib.hid hpP
        have Pm_ := Lib.hid hpm
        have Ep := Lib.hid ep
        have Hbx := Lib.hid hbx
        have X1 := Lib.hid x1
        have q0 : (0 : Int) ≤ i := by omega
        have q1 : (i : Int) < n := by omega
        have x1 := (Be.out.cell (p := ⟨bx, ox + i, none⟩) Hbx.out).trans X1.out
        clear hv ep hbx rp hpP hpm
        go_wp2_with fail
        go_loopg [9] m (fun gg kv wr => ∃ k : Nat, k ≤ m ∧ m - k ≤ gg ∧ kv = .int .i64 (k : Nat) ∧ (∀ q ∈ yss.take k, Mb xss l (cj q p)) ∧ Below w3.heap.size w3 wr)
        case atStart => exact ⟨0, Nat.zero_le _, by omega, rfl, fun x hx => by simp at hx, Be.out⟩
        case round =>
          clear x1 Be
          obtain ⟨k, hk, hg2, rfl, hal2, bel⟩ := hrel
          have Al2 := Lib.hid hal2
          have Be := Lib.hid bel
          have Cj := Lib.hid (C3.out.up bel)
          clear hal2 bel
          by_cases hkt : k < m
          · obtain ⟨by_, oy, A6, l2, c6, q, rfl, hby, hv, eq_, y1, rq, lq, hl6⟩ := Y3.out.at_ hkt
            have hqm : q ∈ yss := by rw [← eq_]; exact getD_memL (by rw [hly.out]; exact hkt)
            have hqP := Ok2.out q hqm
            obtain rfl : l2 = l := by have := hqP.2; omega
            have QQ := Lib.hid hqP
            have Qm := Lib.hid hqm
            have Eq := Lib.hid eq_
            have Rq2 := Lib.hid (rq.up Be.out)
            have Rp2 := Lib.hid (Rp.out.up Be.out)
            have y2 := (Be.out.cell (p := ⟨by_, oy + k, none⟩) hby).trans y1
            have x2 := (Be.out.cell (p := ⟨bx, ox + i, none⟩) Hbx.out).trans X1.out
            have hbxw : bx < wr.heap.size := Nat.lt_of_lt_of_le Hbx.out Be.out.size
            have hbyw : by_ < wr.heap.size := Nat.lt_of_lt_of_le hby Be.out.size
            have r0 : (0 : Int) ≤ k := by omega
            have r1 : (k : Int) < m := by omega
            have CP : Hid (Pn l2 (cj q p)) := Lib.hid ((QQ.out.iv.comp PP.out).comp QQ.out)
            obtain ⟨ans, hans⟩ := bool_of (Mb xss l2 (cj q p))
            have Ha := Lib.hid hans
            clear hv eq_ hby rq hqP hqm hans y1
            go_wp2_with fail
            go_region_held3 (fun w' => w'.cell? ⟨bx, ox + i, none⟩ = some (.slice A5 l2 c5) ∧ w'.cell? ⟨by_, oy + k, none⟩ = some (.slice A6 l2 c6))
              (first | exact ⟨x2, y2⟩ | exact hS1 | exact hS2 | exact hS3 | exact hS4 | go_keep)
              (first
                | (go_at_call 77; refine (specHas w1.heap.size g l2 c9 A9 ch L xss (cj q p) w7 ?_ ?_ ?_ ?_ ans Ha).mono ?_; (exact Cj.out.up b7); (exact W3.out); (exact s9.ri_); (exact CP); rintro e w8 ⟨rfl, b8'⟩
                   have b8 : Below wr.heap.size wr w8 := btr b7 b8'
                   have hS4 := And.intro ((b8.cell (p := ⟨bx, ox + i, none⟩) hbxw).trans x2) ((b8.cell (p := ⟨by_, oy + k, none⟩) hbyw).trans y2))
                | (go_at_call 65; refine (specComp A8 (A6) c8 c6 l2 (compL (iv q) p) q w6 ?_ ?_ ?_ ?_ ?_ hN2).mono ?_; (exact s8.ri_); (exact Rq2.out.up b6); (exact s8.hid); (exact Lib.hid QQ.out.2); (exact Lib.hid (QQ.out.iv.comp PP.out).1); rintro e w7 ⟨A9, c9, rfl, s9, b7'⟩
                   have b7 : Below wr.heap.size wr w7 := btr b6 b7'
                   have hS3 := And.intro ((b7.cell (p := ⟨bx, ox + i, none⟩) hbxw).trans x2) ((b7.cell (p := ⟨by_, oy + k, none⟩) hbyw).trans y2))
                | (go_at_call 65; refine (specComp A7 (A5) c7 c5 l2 (iv q) p w5 ?_ ?_ ?_ ?_ ?_ hN2).mono ?_; (exact s7.ri_); (exact Rp2.out.up b5); (exact s7.hid); (exact Lib.hid PP.out.2); (exact Lib.hid QQ.out.iv.1); rintro e w6 ⟨A8, c8, rfl, s8, b6'⟩
                   have b6 : Below wr.heap.size wr w6 := btr b5 b6'
                   have hS2 := And.intro ((b6.cell (p := ⟨bx, ox + i, none⟩) hbxw).trans x2) ((b6.cell (p := ⟨by_, oy + k, none⟩) hbyw).trans y2))
                | (go_at_call 78; refine (specInv A6 c6 l2 q _ ?_ ?_ ?_ hN2).mono ?_; (exact Rq2.out); (exact Lib.hid QQ.out.2); (exact Lib.hid QQ.out.1); rintro e w5 ⟨A7, c7, rfl, s7, b5'⟩
                   rw [inv_iv QQ.out] at s7
                   have b5 : Below wr.heap.size wr w5 := ⟨b5'.os, b5'.tape, b5'.output, b5'.size, b5'.block⟩
                   have hS1 := And.intro ((b5.cell (p := ⟨bx, ox + i, none⟩) hbxw).trans x2) ((b5.cell (p := ⟨by_, oy + k, none⟩) hbyw).trans y2)))
            have B8 : Hid (Below w3.heap.size w3 w8) := Lib.hid (btr Be.out b8)
            clear b5 b6 b7 b8 hS1 hS2 hS3 hS4 s7 s8 s9 x2 y2
            rcases ans with _ | _
            · have Fin : Hid (IsNor l2 xss yss false) := Lib.hid ⟨fun h => (by cases h), fun h => (by
                have h3 := h.2
                rw [Int.toNat_natCast] at h3
                exact absurd (Ha.out.2 (Nri.out.1 h3 p Pm_.out q Qm.out)) (by decide))⟩
              have B9 : Hid (Below w.heap.size w w8) := Lib.hid (btr B3.out B8.out)
              go_wp2_with fail
              go_ret
              exact ⟨_, rfl, Fin.out, B9.out⟩
            · have Al3 : Hid (∀ x ∈ yss.take (k + 1), Mb xss l2 (cj x p)) := Lib.hid fun x hx => by
                rw [List.take_succ_eq_append_getElem (by rw [hly.out]; exact hkt)] at hx
                rcases List.mem_append.1 hx with hx | hx
                · exact Al2.out x hx
                · have e1 : yss[k]'(by rw [hly.out]; exact hkt) = q := by rw [← Eq.out, List.getD_eq_getElem?_getD, List.getElem?_eq_getElem (by rw [hly.out]; exact hkt)]; rfl
                  rw [List.mem_singleton.1 hx, e1]; exact Ha.out.1 rfl
              go_wp2_with fail
              go_roundg (m - (k + 1))
              case rel => exact ⟨k + 1, by omega, by omega, by go_num, Al3.out, B8.out⟩
              case measure => omega
          · obtain rfl : k = m := by omega
            have Al3 : Hid (∀ s ∈ xss.take (i + 1), ∀ q ∈ yss, Mb xss l (cj q s)) := Lib.hid fun x hx q hq => by
              rw [List.take_succ_eq_append_getElem (by rw [hlx.out]; exact hlt)] at hx
              rcases List.mem_append.1 hx with hx | hx
              · exact Al.out x hx q hq
              · have e1 : xss[i]'(by rw [hlx.out]; exact hlt) = p := by rw [← Ep.out, List.getD_eq_getElem?_getD, List.getElem?_eq_getElem (by rw [hlx.out]; exact hlt)]; rfl
                rw [List.mem_singleton.1 hx, e1]
                exact Al2.out q (by rw [List.take_of_length_le (by rw [hly.out]; exact Nat.le_refl _)]; exact hq)
            go_wp2_with fail
            go_roundg (n - (i + 1))
            case rel => exact ⟨i + 1, by omega, by omega, by go_num, Al3.out, Be.out⟩
            case measure => omega
      · obtain rfl : i = n := by omega
        have Fin : Hid (IsNor N xss yss true) := Lib.hid ⟨fun _ => ⟨Hs.out, by
          rw [Int.toNat_natCast]
          exact Nri.out.2 fun s hs => Al.out s (by rw [List.take_of_length_le (by rw [hlx.out]; exact Nat.le_refl _)]; exact hs)⟩, fun _ => rfl⟩
        have B9 : Hid (Below w.heap.size w wr) := Lib.hid (btr B3.out Be.out)
        go_wp2_with fail
        go_ret
        exact ⟨_, rfl, Fin.out, B9.out⟩
end Go.Proofs.Ytcjcmhoalomjfaa

/- The walk of the law FnExactIsNormalSubgroup: it returns true at every input, and writes nothing that was there. No condition but the program's own contract. -/
namespace Go.Proofs.Ytcjcmhoalomjfaa
open Go.RowKit

set_option maxHeartbeats 4000000 in
set_option maxRecDepth 100000 in
/-- The law FnExactIsNormalSubgroup. -/
theorem lawIsNormalSubgroup (IM : CtImmB 33 IsNor) (i0 : Int) (g1A : Option Addr) (g1n g1c : Nat) (g1v : List SV) (g1x : List (List Int)) (g2A : Option Addr) (g2n g2c : Nat) (g2v : List SV) (g2x : List (List Int)) (w : World) (wfi0 : I64 i0) (hg1 : RR w w.heap.size g1A g1n g1v g1x) (hmg1 : g1n ≤ maxLen) (hkg1 : Hid (∀ i, i < g1n → (g1v.getD i sd0).2.1 ≤ maxLen)) (hg2 : RR w w.heap.size g2A g2n g2v g2x) (hmg2 : g2n ≤ maxLen) (hkg2 : Hid (∀ i, i < g2n → (g2v.getD i sd0).2.1 ≤ maxLen)) :
    Calls Try.prog 11 #[.int .i64 i0, .slice g1A g1n g1c, .slice g2A g2n g2c] w fun e w' => e = .returned (.bool true) ∧ Below w.heap.size w w' := by
  have Hg1 := Lib.hid hg1
  have hlxg1 := Lib.hid hg1.lx
  have hllg1 := Lib.hid hg1.lens
  have Hg2 := Lib.hid hg2
  have hlxg2 := Lib.hid hg2.lx
  have hllg2 := Lib.hid hg2.lens
  clear hg1 hg2
  by_cases hT0 : ((g1n + tot g1v g1n : Nat) : Int) ≤ (1048576 : Int)
  · skip
    have HT0 := Lib.hid hT0
    obtain ⟨L1, eL1⟩ : ∃ L : Int, (1048576 : Int) - ((g1n + tot g1v g1n : Nat) : Int) = L := ⟨_, rfl⟩
    have hl1 : 0 ≤ L1 ∧ L1 ≤ 1048576 := by omega
    have EL1 := Lib.hid eL1
    clear eL1
    have hLn1 : ¬ L1 < 0 := by omega
    have dLn1 : decide (L1 < 0) = false := by simp; omega
    by_cases hT1 : ((g2n + tot g2v g2n : Nat) : Int) ≤ L1
    · skip
      have HT1 := Lib.hid hT1
      obtain ⟨LE, eLE⟩ : ∃ L : Int, L1 - ((g2n + tot g2v g2n : Nat) : Int) = L := ⟨_, rfl⟩
      have hLE : ¬ LE < 0 := by omega
      have dLE : decide (LE < 0) = false := by simp; omega
      have ELE := Lib.hid eLE
      clear eLE
      have hEq1 := EL1.out
      have hng1 : g1n ≤ 1048576 := by omega
      have KTg1 : Hid (tot g1v g1n ≤ 1048576) := Lib.hid (by omega)
      have hlg1 : Hid (∀ i, i < g1n → (g1v.getD i sd0).2.1 ≤ 1048576) := Lib.hid fun i hi => by have := tot_row (vs := g1v) hi; have := KTg1.out; omega
      have hylg1 : Hid (∀ i, i < g1n → (g1x.getD i []).length ≤ 1048576) := Lib.hid fun i hi => by rw [hllg1.out i hi]; exact hlg1.out i hi
      have hng2 : g2n ≤ 1048576 := by omega
      have KTg2 : Hid (tot g2v g2n ≤ 1048576) := Lib.hid (by omega)
      have hlg2 : Hid (∀ i, i < g2n → (g2v.getD i sd0).2.1 ≤ 1048576) := Lib.hid fun i hi => by have := tot_row (vs := g2v) hi; have := KTg2.out; omega
      have hylg2 : Hid (∀ i, i < g2n → (g2x.getD i []).length ≤ 1048576) := Lib.hid fun i hi => by rw [hllg2.out i hi]; exact hlg2.out i hi
      clear hT0 hT1 hEq1
      go_enter Try.func11, Try.ntmps11
      go_wp2_with fail
      have K0 := szSS2 g1A g1n g1c 1048576 g1v g1x w Hg1.out hmg1 hkg1 (by decide) (by decide)
      refine K0.mono ?_
      rintro e w0 ⟨rfl, rfl⟩
      clear K0
      rw [if_pos HT0.out]
      rw [EL1.out]
      go_wp2_with fail
      have K0 := szSS2 g2A g2n g2c L1 g2v g2x w Hg2.out hmg2 hkg2 hl1.1 hl1.2
      refine K0.mono ?_
      rintro e w0 ⟨rfl, rfl⟩
      clear K0
      rw [if_pos HT1.out]
      rw [ELE.out]
      go_wp2_with fail
      refine (toSS g1A g1n g1c g1v g1x w Hg1.out hng1 hlg1).mono ?_
      rintro e w1 ⟨A1, c1, us1, rfl, s1, q1, b1⟩
      have Z1 : Hid (w.heap.size ≤ w1.heap.size) := Lib.hid b1.size
      have B1 : Hid (Below w.heap.size w w1) := Lib.hid b1
      have Ftg1_1 := Lib.hid s1
      have Ltg1 : Hid (Lies A1 g1n c1 w.heap.size w1.heap.size) := Lib.hid s1.lt_
      have Itg1 : Hid (∀ t, t < g1n → ∀ k, (sval (us1.getD t sd0)).ownBlock = some k → w.heap.size ≤ k ∧ k < w1.heap.size) := Lib.hid fun t ht => (s1.row t ht).lt_
      have Qtg1 := Lib.hid q1
      have hltg1 : Hid (∀ i, i < g1n → (us1.getD i sd0).2.1 ≤ 1048576) := Lib.hid fun i hi => by rw [q1 i hi]; exact hlg1.out i hi
      clear s1 b1 q1
      go_wp2_with fail
      refine (toSS g2A g2n g2c g2v g2x w1 (Hg2.out.up B1.out) hng2 hlg2).mono ?_
      rintro e w2 ⟨A2, c2, us2, rfl, s2, q2, b2⟩
      have Z2 : Hid (w1.heap.size ≤ w2.heap.size) := Lib.hid b2.size
      have B2 : Hid (Below w.heap.size w w2) := Lib.hid (btr B1.out b2)
      have Ftg1_2 := Lib.hid (Ftg1_1.out.up b2)
      clear Ftg1_1
      have Ftg2_2 := Lib.hid s2
      have Ltg2 : Hid (Lies A2 g2n c2 w1.heap.size w2.heap.size) := Lib.hid s2.lt_
      have Itg2 : Hid (∀ t, t < g2n → ∀ k, (sval (us2.getD t sd0)).ownBlock = some k → w1.heap.size ≤ k ∧ k < w2.heap.size) := Lib.hid fun t ht => (s2.row t ht).lt_
      have Qtg2 := Lib.hid q2
      have hltg2 : Hid (∀ i, i < g2n → (us2.getD i sd0).2.1 ≤ 1048576) := Lib.hid fun i hi => by rw [q2 i hi]; exact hlg2.out i hi
      clear s2 b2 q2
      go_wp2_with fail
      have K3 := ctNor i0 A1 g1n c1 us1 g1x A2 g2n c2 us2 g2x w2 ⟨Ftg1_2.out.rr, hng1, hltg1.out⟩ ⟨Ftg2_2.out.rr, hng2, hltg2.out⟩ wfi0
      refine K3.mono ?_
      clear K3
      rintro e w3 ⟨v3, rfl, r3, b3⟩
      have Z3 : Hid (w2.heap.size ≤ w3.heap.size) := Lib.hid b3.size
      have B3 : Hid (Below w.heap.size w w3) := Lib.hid (btr B2.out b3)
      have Ftg1_3 := Lib.hid (Ftg1_2.out.up b3)
      clear Ftg1_2
      have Ftg2_3 := Lib.hid (Ftg2_2.out.up b3)
      clear Ftg2_2
      have HR := Lib.hid r3
      clear r3
      clear b3
      clear Ftg1_3
      clear Ftg2_3
      go_wp2_with fail
      refine (toSS g1A g1n g1c g1v g1x w3 (Hg1.out.up B3.out) hng1 hlg1).mono ?_
      rintro e w4 ⟨A4, c4, us4, rfl, s4, q4, b4⟩
      have Z4 : Hid (w3.heap.size ≤ w4.heap.size) := Lib.hid b4.size
      have B4 : Hid (Below w.heap.size w w4) := Lib.hid (btr B3.out b4)
      have Fxg1_4 := Lib.hid s4
      have Lxg1 : Hid (Lies A4 g1n c4 w3.heap.size w4.heap.size) := Lib.hid s4.lt_
      have Ixg1 : Hid (∀ t, t < g1n → ∀ k, (sval (us4.getD t sd0)).ownBlock = some k → w3.heap.size ≤ k ∧ k < w4.heap.size) := Lib.hid fun t ht => (s4.row t ht).lt_
      have Qxg1 := Lib.hid q4
      have hlxg1 : Hid (∀ i, i < g1n → (us4.getD i sd0).2.1 ≤ 1048576) := Lib.hid fun i hi => by rw [q4 i hi]; exact hlg1.out i hi
      clear s4 b4 q4
      go_wp2_with fail
      refine (toSS g2A g2n g2c g2v g2x w4 (Hg2.out.up B4.out) hng2 hlg2).mono ?_
      rintro e w5 ⟨A5, c5, us5, rfl, s5, q5, b5⟩
      have Z5 : Hid (w4.heap.size ≤ w5.heap.size) := Lib.hid b5.size
      have B5 : Hid (Below w.heap.size w w5) := Lib.hid (btr B4.out b5)
      have Fxg1_5 := Lib.hid (Fxg1_4.out.up b5)
      clear Fxg1_4
      have Fxg2_5 := Lib.hid s5
      have Lxg2 : Hid (Lies A5 g2n c5 w4.heap.size w5.heap.size) := Lib.hid s5.lt_
      have Ixg2 : Hid (∀ t, t < g2n → ∀ k, (sval (us5.getD t sd0)).ownBlock = some k → w4.heap.size ≤ k ∧ k < w5.heap.size) := Lib.hid fun t ht => (s5.row t ht).lt_
      have Qxg2 := Lib.hid q5
      have hlxg2 : Hid (∀ i, i < g2n → (us5.getD i sd0).2.1 ≤ 1048576) := Lib.hid fun i hi => by rw [q5 i hi]; exact hlg2.out i hi
      clear s5 b5 q5
      go_wp2_with fail
      have K6 := IM i0 A4 g1n c4 us4 g1x A5 g2n c5 us5 g2x w5 ⟨Fxg1_5.out.rr, hng1, hlxg1.out⟩ ⟨Fxg2_5.out.rr, hng2, hlxg2.out⟩ wfi0
      refine K6.mono ?_
      clear K6
      rintro e w6 ⟨v6, rfl, r6, b6⟩
      have Z6 : Hid (w5.heap.size ≤ w6.heap.size) := Lib.hid b6.size
      have B6 : Hid (Below w.heap.size w w6) := Lib.hid (btr B5.out b6)
      have Fxg1_6 := Lib.hid (Fxg1_5.out.up b6)
      clear Fxg1_5
      have Fxg2_6 := Lib.hid (Fxg2_5.out.up b6)
      clear Fxg2_5
      have e6 := HR.out.uniq r6
      subst e6
      clear r6
      clear b6
      go_wp2_with fail
      refine (toSS g1A g1n g1c g1v g1x w6 (Hg1.out.up B6.out) hng1 hlg1).mono ?_
      rintro e w7 ⟨A7, c7, us7, rfl, s7, q7, b7⟩
      have Z7 : Hid (w6.heap.size ≤ w7.heap.size) := Lib.hid b7.size
      have B7 : Hid (Below w.heap.size w w7) := Lib.hid (btr B6.out b7)
      have Fxg1_7 := Lib.hid (Fxg1_6.out.up b7)
      clear Fxg1_6
      have Fxg2_7 := Lib.hid (Fxg2_6.out.up b7)
      clear Fxg2_6
      have Fyg1_7 := Lib.hid s7
      have Lyg1 : Hid (Lies A7 g1n c7 w6.heap.size w7.heap.size) := Lib.hid s7.lt_
      have Iyg1 : Hid (∀ t, t < g1n → ∀ k, (sval (us7.getD t sd0)).ownBlock = some k → w6.heap.size ≤ k ∧ k < w7.heap.size) := Lib.hid fun t ht => (s7.row t ht).lt_
      have Qyg1 := Lib.hid q7
      have hlyg1 : Hid (∀ i, i < g1n → (us7.getD i sd0).2.1 ≤ 1048576) := Lib.hid fun i hi => by rw [q7 i hi]; exact hlg1.out i hi
      clear s7 b7 q7
      go_wp2_with fail
      refine (eqRR_same A4 A7 g1n c4 g1n c7 us4 us7 _ w7 Fxg1_7.out.rr Fyg1_7.out.rr (by omega) hylg1).mono ?_
      rintro e w8 ⟨rfl, b8⟩
      have Z8 : Hid (w7.heap.size ≤ w8.heap.size) := Lib.hid b8.size
      have B8 : Hid (Below w.heap.size w w8) := Lib.hid (btr B7.out b8)
      have Fxg1_8 := Lib.hid (Fxg1_7.out.up b8)
      clear Fxg1_7
      have Fxg2_8 := Lib.hid (Fxg2_7.out.up b8)
      clear Fxg2_7
      have Fyg1_8 := Lib.hid (Fyg1_7.out.up b8)
      clear Fyg1_7
      clear b8
      clear Fyg1_8
      go_wp2_with fail
      refine (toSS g2A g2n g2c g2v g2x w8 (Hg2.out.up B8.out) hng2 hlg2).mono ?_
      rintro e w9 ⟨A9, c9, us9, rfl, s9, q9, b9⟩
      have Z9 : Hid (w8.heap.size ≤ w9.heap.size) := Lib.hid b9.size
      have B9 : Hid (Below w.heap.size w w9) := Lib.hid (btr B8.out b9)
      have Fxg1_9 := Lib.hid (Fxg1_8.out.up b9)
      clear Fxg1_8
      have Fxg2_9 := Lib.hid (Fxg2_8.out.up b9)
      clear Fxg2_8
      have Fyg2_9 := Lib.hid s9
      have Lyg2 : Hid (Lies A9 g2n c9 w8.heap.size w9.heap.size) := Lib.hid s9.lt_
      have Iyg2 : Hid (∀ t, t < g2n → ∀ k, (sval (us9.getD t sd0)).ownBlock = some k → w8.heap.size ≤ k ∧ k < w9.heap.size) := Lib.hid fun t ht => (s9.row t ht).lt_
      have Qyg2 := Lib.hid q9
      have hlyg2 : Hid (∀ i, i < g2n → (us9.getD i sd0).2.1 ≤ 1048576) := Lib.hid fun i hi => by rw [q9 i hi]; exact hlg2.out i hi
      clear s9 b9 q9
      go_wp2_with fail
      refine (eqRR_same A5 A9 g2n c5 g2n c9 us5 us9 _ w9 Fxg2_9.out.rr Fyg2_9.out.rr (by omega) hylg2).mono ?_
      rintro e w10 ⟨rfl, b10⟩
      have Z10 : Hid (w9.heap.size ≤ w10.heap.size) := Lib.hid b10.size
      have B10 : Hid (Below w.heap.size w w10) := Lib.hid (btr B9.out b10)
      have Fxg1_10 := Lib.hid (Fxg1_9.out.up b10)
      clear Fxg1_9
      have Fxg2_10 := Lib.hid (Fxg2_9.out.up b10)
      clear Fxg2_9
      have Fyg2_10 := Lib.hid (Fyg2_9.out.up b10)
      clear Fyg2_9
      clear b10
      clear Fyg2_10
      go_wp2_with fail
      go_ret
      exact ⟨rfl, B10.out⟩
    · skip
      have HT1 := Lib.hid hT1
      clear hT0 hT1
      go_enter Try.func11, Try.ntmps11
      go_wp2_with fail
      have K0 := szSS2 g1A g1n g1c 1048576 g1v g1x w Hg1.out hmg1 hkg1 (by decide) (by decide)
      refine K0.mono ?_
      rintro e w0 ⟨rfl, rfl⟩
      clear K0
      rw [if_pos HT0.out]
      rw [EL1.out]
      go_wp2_with fail
      have K0 := szSS2 g2A g2n g2c L1 g2v g2x w Hg2.out hmg2 hkg2 hl1.1 hl1.2
      refine K0.mono ?_
      rintro e w0 ⟨rfl, rfl⟩
      clear K0
      rw [if_neg (Int.not_le.2 HT1.out)]
      go_wp2
      go_ret
      exact ⟨rfl, Below.refl _ _⟩
  · skip
    have HT0 := Lib.hid hT0
    clear hT0
    go_enter Try.func11, Try.ntmps11
    go_wp2_with fail
    have K0 := szSS2 g1A g1n g1c 1048576 g1v g1x w Hg1.out hmg1 hkg1 (by decide) (by decide)
    refine K0.mono ?_
    rintro e w0 ⟨rfl, rfl⟩
    clear K0
    rw [if_neg (Int.not_le.2 HT0.out)]
    go_wp2
    go_ret
    exact ⟨rfl, Below.refl _ _⟩
end Go.Proofs.Ytcjcmhoalomjfaa

/- MemberAt, Rank, NextMember, CountMembersBelow and FirstNonIdentity of the model. Conditions: at most 1048576 lists of at most 1048576 numbers. -/
namespace Go.Proofs.Ytcjcmhoalomjfaa
open Go.RowKit

theorem sorted_lo {zs : List Int} (h : zs.Pairwise (· < ·)) {i j : Nat} (hij : i < j) (hj : j < zs.length) : zs.getD i 0 < zs.getD j 0 := by
  have := List.pairwise_iff_getElem.1 h i j (by omega) hj hij
  rw [gdx' (by omega), gdx' hj]; exact this

end Go.Proofs.Ytcjcmhoalomjfaa

/- All members, level by level, and Members of the model. Conditions: at most 1048576 lists of at most 1048576 numbers. -/
namespace Go.Proofs.Ytcjcmhoalomjfaa
open Go.RowKit

/-! ### levels -/
/-- One member for each way to begin with i entries, in order. -/
structure Lv (N : Nat) (gs : List (List Int)) (i : Nat) (l : List (List Int)) : Prop where
  srt : l.Pairwise (LxI i)
  mem : ∀ m ∈ l, Mb gs N m
  all : ∀ q, Mb gs N q → ∃ m ∈ l, Ag i q m
/-- What is there of the next level behind the first k of this one and the first j entries zs that the next one of it allows. -/
structure Pj (N : Nat) (gs : List (List Int)) (i : Nat) (l : List (List Int)) (k : Nat) (zs : List Int) (j : Nat) (L : List (List Int)) : Prop where
  srt : L.Pairwise (LxI (i + 1))
  mem : ∀ x ∈ L, Mb gs N x ∧ ((∃ t, t < k ∧ Ag i x (l.getD t [])) ∨ (Ag i x (l.getD k []) ∧ ∃ u, u < j ∧ (nx x i : Int) = zs.getD u 0))
  all : ∀ t, t < k → ∀ q, Mb gs N q → Ag i q (l.getD t []) → ∃ x ∈ L, Ag (i + 1) q x
  now : ∀ u, u < j → ∀ q, Mb gs N q → Ag i q (l.getD k []) → (nx q i : Int) = zs.getD u 0 → ∃ x ∈ L, Ag (i + 1) q x
section
variable {N i k j : Nat} {gs l L : List (List Int)} {zs : List Int} {x : List Int}
theorem Lv.zero : Lv N gs 0 [idL N] := ⟨List.pairwise_singleton _ _, fun m hm => by rw [List.mem_singleton.1 hm]; exact .one, fun q _ => ⟨idL N, by simp, fun t ht => absurd ht (Nat.not_lt_zero _)⟩⟩
theorem Lv.lt (h : Lv N gs i l) {a b : Nat} (hab : a < b) (hb : b < l.length) : LxI i (l.getD a []) (l.getD b []) := by
  have := List.pairwise_iff_getElem.1 h.srt a b (by omega) hb hab
  rw [List.getD_eq_getElem?_getD, List.getD_eq_getElem?_getD, List.getElem?_eq_getElem hb, List.getElem?_eq_getElem (by omega)]; exact this
theorem Pj.zero : Pj N gs i l 0 zs 0 [] := ⟨.nil, fun x hx => (by cases hx), fun t ht => absurd ht (Nat.not_lt_zero _), fun u hu => absurd hu (Nat.not_lt_zero _)⟩
/-- The next entry's member. -/
theorem Pj.snoc (h : Pj N gs i l k zs j L) (hl : Lv N gs i l) (hk : k < l.length) (hz : zs.Pairwise (· < ·)) (hj : j < zs.length) (hx : Mb gs N x) (ha : Ag i x (l.getD k [])) (hv : (nx x i : Int) = zs.getD j 0) : Pj N gs i l k zs (j + 1) (L ++ [x]) := by
  refine ⟨List.pairwise_append.2 ⟨h.srt, List.pairwise_singleton _ _, fun y hy z hz' => ?_⟩, fun y hy => ?_, fun t ht q hq hqa => ?_, fun u hu q hq hqa hqv => ?_⟩
  · obtain rfl := List.mem_singleton.1 hz'
    rcases (h.mem y hy).2 with ⟨t, ht, ya⟩ | ⟨ya, u, hu, yv⟩
    · have h1 := hl.lt ht hk
      exact lxi_succ.2 (.inl ((lxi_ag ha).2 (by
        obtain ⟨s, hs, a, b⟩ := h1
        exact ⟨s, hs, (ya.mono (by omega)).trans a, by rw [ya s hs]; exact b⟩)))
    · refine lxi_succ.2 (.inr ⟨ya.trans ha.symm, ?_⟩)
      have := sorted_lo hz hu hj
      omega
  · rcases List.mem_append.1 hy with hy | hy
    · obtain ⟨a, b⟩ := h.mem y hy
      refine ⟨a, b.imp id fun ⟨c, u, hu, e⟩ => ⟨c, u, by omega, e⟩⟩
    · obtain rfl := List.mem_singleton.1 hy
      exact ⟨hx, .inr ⟨ha, j, by omega, hv⟩⟩
  · obtain ⟨y, hy, e⟩ := h.all t ht q hq hqa
    exact ⟨y, List.mem_append_left _ hy, e⟩
  · by_cases e : u = j
    · subst e
      exact ⟨x, by simp, ag_succ.2 ⟨hqa.trans ha.symm, by omega⟩⟩
    · obtain ⟨y, hy, e⟩ := h.now u (by omega) q hq hqa hqv
      exact ⟨y, List.mem_append_left _ hy, e⟩
/-- All entries of one more. -/
theorem Pj.next {ys : List Int} (h : Pj N gs i l k zs zs.length L) (hc : ChL N gs (l.getD k []) i zs) : Pj N gs i l (k + 1) ys 0 L := by
  refine ⟨h.srt, fun x hx => ?_, fun t ht q hq hqa => ?_, fun u hu => absurd hu (Nat.not_lt_zero _)⟩
  · obtain ⟨a, b⟩ := h.mem x hx
    refine ⟨a, .inl ?_⟩
    rcases b with ⟨t, ht, e⟩ | ⟨e, _⟩
    · exact ⟨t, by omega, e⟩
    · exact ⟨k, by omega, e⟩
  · by_cases e : t = k
    · subst e
      have hm := (hc.2 (nx q i : Int)).2 ⟨q, hq, hqa, rfl⟩
      obtain ⟨u, hu, eu⟩ := List.mem_iff_getElem.1 hm
      exact h.now u hu q hq hqa (by rw [gdx' hu]; exact eu.symm)
    · exact h.all t (by omega) q hq hqa
theorem Pj.lv (h : Pj N gs i l l.length zs 0 L) (hl : Lv N gs i l) : Lv N gs (i + 1) L := by
  refine ⟨h.srt, fun m hm => (h.mem m hm).1, fun q hq => ?_⟩
  obtain ⟨m, hm, ha⟩ := hl.all q hq
  obtain ⟨t, ht, e⟩ := List.mem_iff_getElem.1 hm
  exact h.all t ht q hq (by rw [List.getD_eq_getElem?_getD, List.getElem?_eq_getElem ht]; show Ag i q l[t]; rw [e]; exact ha)
/-- No more than there are members. -/
theorem Pj.len {V : Nat} (h : Pj N gs i l k zs j L) (hV : Crd (Mb gs N) V) : L.length ≤ V :=
  crd_sub ⟨L, lx_nodup h.srt, fun _ => Iff.rfl, rfl⟩ hV fun x hx => (h.mem x hx).1
theorem Lv.len {V : Nat} (h : Lv N gs i l) (hV : Crd (Mb gs N) V) : l.length ≤ V :=
  crd_sub ⟨l, lx_nodup h.srt, fun _ => Iff.rfl, rfl⟩ hV fun x hx => h.mem x hx
theorem Lv.top (h : Lv N gs N l) (hg : ∀ g ∈ gs, Pn N g) (h1 : 1 ≤ N) (h2 : N ≤ 20) (p : List Int) : p ∈ l ↔ Mb gs N p := by
  refine ⟨h.mem p, fun hp => ?_⟩
  obtain ⟨m, hm, ha⟩ := h.all p hp
  have : p = m := (hp.pn hg h1 h2).ext ((h.mem m hm).pn hg h1 h2) fun x hx => ha x hx
  exact this ▸ hm
end
/-- A slice literal of one slice. -/
theorem SS.litOne {w : World} {base bi : Nat} {A : Option Addr} {n c : Nat} {ys : List Int} (h : Slc w bi A n c ys) (hb : base ≤ w.heap.size) : SS (w.alloc (.cells #[.slice A n c] 33)) base bi (some ⟨w.heap.size, 0, none⟩) 1 1 [(A, n, c)] [ys] :=
  ⟨World.ownsRow_lit (size := 1) w #[.slice A n c] 1 hb (by unfold maxLen; omega) rfl, rfl, rfl, fun i hi => by
    obtain rfl : i = 0 := by omega
    exact h.alloc _, fun i j h1 h2 => by omega⟩
theorem getD_of {l : List (List Int)} {k : Nat} {y : List Int} (hk : k < l.length) (e : l.getD k [] = y) : y ∈ l := by
  rw [← e, List.getD_eq_getElem?_getD, List.getElem?_eq_getElem hk]; exact List.getElem_mem _

set_option maxHeartbeats 8000000 in
set_option maxRecDepth 100000 in
theorem specAllM (N n cc : Nat) (A : Option Addr) (vs : List SV) (gs : List (List Int)) (w : World) (hx : RR w w.heap.size A n vs gs) (hN1 : 1 ≤ N) (hN2 : N ≤ 20) (hn : n ≤ 8) (ok : Hid (∀ g ∈ gs, Pn N g)) (hgB : Hid (gB (N : Int) gs = true)) :
    Calls Try.prog 90 #[.int .i64 (N : Nat), .slice A n cc] w fun e w' => ∃ A' m c' us l, e = .returned (.slice A' m c') ∧ SS w' w.heap.size w.heap.size A' m c' us l ∧ IsMbs (N : Int) gs l ∧ Below w.heap.size w w' := by
  have HX := Lib.hid hx
  clear hx
  go_enter Try.func90, Try.ntmps90
  go_wp2_with fail
  refine (specBuild N n cc A vs gs w HX.out hN1 hN2 hn ok).mono ?_
  rintro e w2 ⟨g, L, ch, rfl, hc2, hw2, b2⟩
  have C2 := Lib.hid hc2
  have W2 := Lib.hid hw2
  have B2 := Lib.hid b2
  obtain ⟨V, hV, eV, hVb⟩ := (hw2.os hN1 hN2).ordB ok.out hN1 hN2
  have HV := Lib.hid hV
  clear hc2 hw2 b2 hV
  go_wp2_with fail
  refine (specOrder w.heap.size g N ch L gs w2 C2.out W2.out hN1 hN2).mono ?_
  rintro e w3 ⟨rfl, b3⟩
  have C3 := Lib.hid (C2.out.up b3)
  have B3 : Hid (Below w.heap.size w w3) := Lib.hid (btr B2.out b3)
  have hz3 := B3.out.size
  rw [eV]
  clear b3 eV C2 B2
  by_cases hV3 : V ≤ 3000
  · have d0 : decide ((3000 : Int) < (V : Int)) = false := by simp; omega
    have Few0 : Hid (Few (N : Int) gs) := Lib.hid ⟨hgB.out, V, by rw [Int.toNat_natCast]; exact HV.out, hV3⟩
    go_wp2_with fail
    refine (specIdent N w3 (by omega)).mono ?_
    rintro e w4 ⟨A4, c4, rfl, s4, b4⟩
    have C4 := Lib.hid (C3.out.up b4)
    have B4 : Hid (Below w.heap.size w w4) := Lib.hid (btr B3.out b4)
    have hz4 := B4.out.size
    have S4 : Hid (SS (w4.alloc (.cells #[.slice A4 N c4] 33)) w.heap.size w.heap.size (some ⟨w4.heap.size, 0, none⟩) 1 1 [(A4, N, c4)] [idL N]) := Lib.hid (SS.litOne (s4.mono hz3) hz4)
    clear s4 b4
    go_wp2_with fail
    go_loopw [6, 7] (fun v i wr => ∃ (i' m cc : Nat) (M : Option Addr) (us : List SV) (l : List (List Int)), i' ≤ N ∧ i = .int .i64 (i' : Nat) ∧ v = .slice M m cc ∧ SS wr w.heap.size w.heap.size M m cc us l ∧ Lv N gs i' l ∧ Below w4.heap.size w4 wr) (fun _ i _ => N - (intOf i).toNat)
    case atStart => exact ⟨0, _, _, _, _, _, Nat.zero_le _, rfl, rfl, S4.out, Lv.zero, (Below.refl _ _).alloc (Nat.le_refl _) _⟩
    case round =>
      clear S4
      obtain ⟨i, m, cc, M, us, l, hi, rfl, rfl, hs, hlv, bel⟩ := hrel
      have So := Lib.hid hs
      have Lv0 := Lib.hid hlv
      have Be := Lib.hid bel
      have C5 := Lib.hid (C4.out.up bel)
      have Lm : Hid (l.length = m) := Lib.hid hs.lx
      have hm3 : m ≤ 3000 := by rw [← hs.lx]; exact Nat.le_trans (hlv.len HV.out) hV3
      have Bw : Hid (Below w.heap.size w wr) := Lib.hid (btr B4.out bel)
      have hzw := Bw.out.size
      clear hs hlv bel
      by_cases hlt : i < N
      · have q1 : (0 : Int) ≤ i := by omega
        have q2 : (i : Int) < N := by omega
        obtain ⟨wL, rfl⟩ : ∃ wL, wL = wr := ⟨_, rfl⟩
        have P0 := Lib.hid (SS.lit0 wL wL.heap.size wL.heap.size (Nat.le_refl _))
        go_wp2_with fail
        go_loopg [8, 9] m (fun gg v j wr => ∃ (k m' c' : Nat) (A' : Option Addr) (us' : List SV) (L' : List (List Int)), k ≤ m ∧ m - k ≤ gg ∧ j = .int .i64 (k : Nat) ∧ v = .slice A' m' c' ∧ SS wr wL.heap.size wL.heap.size A' m' c' us' L' ∧ Pj N gs i l k [] 0 L' ∧ Below wL.heap.size wL wr)
        case atStart => exact ⟨0, _, _, _, _, _, Nat.zero_le _, by omega, rfl, rfl, P0.out, Pj.zero, (Below.refl _ _).alloc (Nat.le_refl _) _⟩
        case round =>
          clear P0
          obtain ⟨k, m', c', A', us', L', hk, hgk, rfl, rfl, hs', hpj, bel'⟩ := hrel
          have Ss := Lib.hid hs'
          have Pj0 := Lib.hid hpj
          have Be' := Lib.hid bel'
          have C6 := Lib.hid (C5.out.up bel')
          have hzL := bel'.size
          clear hs' hpj bel'
          by_cases hkm : k < m
          · obtain ⟨b, off, A5, lz, c5, y, rfl, hb, ev, ey, hc0, hr0, hy, hlc⟩ := So.out.rr.at_ hkm
            have hyl : y ∈ l := getD_of (by rw [Lm.out]; exact hkm) ey
            have hyM := Lv0.out.mem y hyl
            have hyP := hyM.pn ok.out hN1 hN2
            obtain rfl : lz = N := by have := hyP.2; omega
            have Yp := Lib.hid hyP
            have Ym := Lib.hid hyM
            have Ey := Lib.hid ey
            have Ry := Lib.hid hr0
            have R5 := Lib.hid (hr0.up Be'.out)
            have Hb := Lib.hid hb
            have Hc := Lib.hid hc0
            have x1 := (Be'.out.cell (p := ⟨b, off + k, none⟩) hb).trans hc0
            have z0 : (0 : Int) ≤ k := by omega
            have z1 : (k : Int) < m := by omega
            clear ev ey hr0 hy hyP hyM hyl hb hlc hc0
            go_wp2_with fail
            refine (specChoices w.heap.size g lz i c5 A5 ch L gs y wr C6.out W2.out R5.out Yp hlt).mono ?_
            rintro e w7 ⟨g2, m2, c2, zs, rfl, s7, p7, o7, b7⟩
            have Chl : Hid (ChL lz gs y i zs) := Lib.hid (chL_ok W2.out hN1 hN2 ok.out hlt Ym.out p7 o7)
            have Lz : Hid (zs.length = m2) := Lib.hid s7.1
            have hm2 : m2 ≤ 20 := by rw [← s7.1, p7.length_eq]; have := chL_len ch i y lz; omega
            have Z7 : Hid (Slc w7 wr.heap.size (some ⟨g2, 0, none⟩) m2 c2 zs) := Lib.hid s7
            have hg2 : wr.heap.size ≤ g2 ∧ g2 < w7.heap.size := s7.lt_ g2 rfl
            have Ss7 := Lib.hid (Ss.out.up b7)
            have Be7 : Hid (Below wL.heap.size wL w7) := Lib.hid (btr Be'.out b7)
            have Ne7 : Hid (∀ q, (Value.slice A' m' c').ownBlock = some q → q ≠ g2) := Lib.hid fun q hq => by have := (Ss.out.lt_ q hq).2; omega
            have Pj1 : Hid (Pj lz gs i l k zs 0 L') := Lib.hid ⟨Pj0.out.srt, fun x hx => by
              obtain ⟨a, b⟩ := Pj0.out.mem x hx
              rcases b with b | ⟨_, u, hu, _⟩
              · exact ⟨a, .inl b⟩
              · exact absurd hu (Nat.not_lt_zero _), Pj0.out.all, fun u hu => absurd hu (Nat.not_lt_zero _)⟩
            clear s7 p7 o7 b7 Pj0
            go_wp2_with fail
            obtain ⟨wM, rfl⟩ : ∃ wM, wM = wr := ⟨_, rfl⟩
            go_loopg [8, 11] m2 (fun gg v j wr => ∃ (jj m' c' : Nat) (A' : Option Addr) (us' : List SV) (L' : List (List Int)), jj ≤ m2 ∧ m2 - jj ≤ gg ∧ j = .int .i64 (jj : Nat) ∧ v = .slice A' m' c' ∧ SS wr wL.heap.size wL.heap.size A' m' c' us' L' ∧ Pj lz gs i l k zs jj L' ∧ Slc wr wM.heap.size (some ⟨g2, 0, none⟩) m2 c2 zs ∧ (∀ q, (Value.slice A' m' c').ownBlock = some q → q ≠ g2) ∧ Below wL.heap.size wL wr)
            case atStart => exact ⟨0, _, _, _, _, _, Nat.zero_le _, by omega, rfl, rfl, Ss7.out, Pj1.out, Z7.out, Ne7.out, Be7.out⟩
            case round =>
              clear Ss7 Pj1 Z7 Ne7 Be7
              obtain ⟨jj, m', c', A', us', L', hj, hgj, rfl, rfl, hs', hpj, hz', hne, bel'⟩ := hrel
              have Ss := Lib.hid hs'
              have Pj0 := Lib.hid hpj
              have Zs := Lib.hid hz'
              have Ne := Lib.hid hne
              have Be' := Lib.hid bel'
              have C8 := Lib.hid (C5.out.up bel')
              have hm' : m' ≤ 3000 := by rw [← hs'.lx]; exact Nat.le_trans (hpj.len HV.out) hV3
              have hzL := bel'.size
              clear hs' hpj hz' hne bel'
              by_cases hjm : jj < m2
              · obtain ⟨zb, zo, ez, hzb, hzc⟩ := Zs.out.ri_ (by rw [Zs.out.1]; omega)
                have x9 := hzc jj (by rw [Zs.out.1]; exact hjm)
                have ez2 : (some ⟨g2, 0, none⟩ : Option Addr) = some ⟨zb, zo, none⟩ := ez
                injection ez2 with ez2
                injection ez2 with f1 f2 _
                subst f1 f2
                rw [Nat.zero_add] at x9
                have hzm : zs.getD jj 0 ∈ zs := by rw [gdx' (by rw [Lz.out]; exact hjm)]; exact List.getElem_mem _
                obtain ⟨q, hq, hqa, hqv⟩ := (Chl.out.2 _).1 hzm
                obtain ⟨v, hv⟩ : ∃ v, nx q i = v := ⟨_, rfl⟩
                rw [hv] at hqv
                obtain ⟨yy, hyy, hry, hmy⟩ := chL_mem.1 ((W2.out.choice hN1 hN2 ok.out hlt Ym.out).2 ⟨q, hq, hqa, rfl⟩)
                have hmy2 : nx y yy = v := by omega
                obtain ⟨a1, a2, a3, _⟩ := W2.out.rep_mb hN1 hN2 hlt hry
                have Rp : Hid (Pn lz (ch.rep i yy)) := Lib.hid (a1.pn ok.out hN1 hN2)
                have Hmy := Lib.hid hmy2
                obtain ⟨nw, hnw⟩ : ∃ nw, compL (ch.rep i yy) y = nw := ⟨_, rfl⟩
                have Mb2 : Hid (Mb gs lz nw) := Lib.hid (by rw [← hnw]; exact a1.comp ok.out hN1 hN2 Ym.out)
                have hAg : Ag i nw y := fun t ht => by rw [← hnw, Rp.out.nxc (by omega), a2 t ht]
                have hnv : (nx nw i : Int) = zs.getD jj 0 := by rw [← hnw, Rp.out.nxc hlt, a3, Hmy.out, hqv]
                have Pj2 : Hid (Pj lz gs i l k zs (jj + 1) (L' ++ [nw])) := Lib.hid (Pj0.out.snoc Lv0.out (by rw [Lm.out]; exact hkm) Chl.out.1 (by rw [Lz.out]; exact hjm) Mb2.out (by rw [Ey.out]; exact hAg) hnv)
                have Nw := Lib.hid hnw
                rw [← hqv] at x9
                have x8 := (Be'.out.cell (p := ⟨b, off + k, none⟩) Hb.out).trans Hc.out
                have z2 : (0 : Int) ≤ jj := by omega
                have z3 : (jj : Int) < m2 := by omega
                have C8d : Hid (Cn wr.drew w.heap.size g lz ch L) := Lib.hid (C8.out.up ⟨rfl, rfl, rfl, Nat.le_refl _, fun _ _ => rfl⟩)
                have Ry8 : Hid (RI wr wr.heap.size A5 y) := Lib.hid (Ry.out.up Be'.out)
                clear ez hzb hzc hzm hq hqa hqv hv hry hmy hmy2 a1 a2 a3 hAg hnv hnw Pj0
                go_wp2_with fail
                go_region_law (first
                  | (refine step_appV rfl (.tmp 47) (.tmp 59) rfl wL.heap.size (.slice A' m' c') m' (us'.map sval) ?_ ((Ss9.out.alloc (.cells #[.slice A9 lz c9] 33)).own) w9.heap.size (A9, lz, c9) ?_ ((Blk.new w9 _ _).cell 0) ?_ ?_ ?_; (simp [Act.eval, Act.put]); (simp [Act.eval, Act.put]); (omega); (have hz := B9.out.size; simp; omega); (intro A10 c10 w10 o10 g10 h10))
                  | (go_simp; go_wp2_with (first
                    | (go_at_call 108; (first
                        | (refine (specWithEntry w.heap.size g lz i v yy c5 A5 ch L y wr C8.out Ry8.out Yp hlt hyy Hmy Rp).mono ?_; rintro e w9 ⟨A9, c9, rfl, s9, b9⟩)
                        | (refine (specWithEntry w.heap.size g lz i v yy c5 A5 ch L y wr.drew C8d.out Ry8.out Yp hlt hyy Hmy Rp).mono ?_; rintro e w9 ⟨A9, c9, rfl, s9, b90⟩; have b9 : Below wr.heap.size wr w9 := below_undrew b90; clear b90))
                       have B9 : Hid (Below wr.heap.size wr w9) := Lib.hid b9
                       have S9 : Hid (Slc w9 wr.heap.size A9 lz c9 nw) := Lib.hid (by rw [← Nw.out]; exact s9)
                       have Ss9 := Lib.hid (Ss.out.up b9)
                       have Zs9 := Lib.hid (Zs.out.up b9)
                       clear s9 b9))))
                all_goals
                  have D9 : ∀ t, t < m' → (sval (us'.getD t sd0)).ownBlock = none ∨ (sval (us'.getD t sd0)).ownBlock ≠ (sval (A9, lz, c9)).ownBlock := lies_dis (w := wr) Ss.out S9.out.lies (Nat.le_refl _)
                  have Ss10 : Hid (SS w10 wL.heap.size wL.heap.size A10 (m' + 1) c10 (us' ++ [(A9, lz, c9)]) (L' ++ [nw])) := Lib.hid ((Ss9.out.alloc _).snocV (d := (A9, lz, c9)) ((S9.out.mono hzL).alloc _) D9 o10 g10)
                  have B10 : Hid (Below wL.heap.size wL w10) := Lib.hid (((btr Be'.out B9.out).alloc (btr Be'.out B9.out).size _).grown g10 (by have := (btr Be'.out B9.out).size; simp; omega) (fun j hj => (Ss.out.lt_ j hj).1))
                  have Zs10 : Hid (Slc w10 wM.heap.size (some ⟨g2, 0, none⟩) m2 c2 zs) := Lib.hid ((Zs9.out.alloc _).kept g10 (.inr fun e => Ne.out g2 e.symm rfl))
                  have Ne10 : Hid (∀ q, (Value.slice A10 (m' + 1) c10).ownBlock = some q → q ≠ g2) := Lib.hid fun q hq => by
                    rcases h10 with e | e
                    · exact Ne.out q (e ▸ hq)
                    · have h1 := (Zs9.out.lt_ g2 rfl).2
                      rw [e] at hq
                      injection hq with hq
                      simp at hq; omega
                  clear o10 g10 h10 D9
                  go_wp2_with fail
                  go_roundg (m2 - (jj + 1))
                  case rel => exact ⟨jj + 1, _, _, A10, _, _, by omega, by omega, by go_num, rfl, Ss10.out, Pj2.out, Zs10.out, Ne10.out, B10.out⟩
                  case measure => omega
              · obtain rfl : jj = m2 := by omega
                have Pj2 : Hid (Pj lz gs i l (k + 1) [] 0 L') := Lib.hid (by
                  have := Pj0.out
                  rw [← Lz.out] at this
                  exact this.next (by rw [Ey.out]; exact Chl.out))
                go_wp2_with fail
                go_roundg (m - (k + 1))
                case rel => exact ⟨k + 1, _, _, _, _, _, by omega, by omega, by go_num, rfl, Ss.out, Pj2.out, Be'.out⟩
                case measure => omega
          · obtain rfl : k = m := by omega
            have Lv2 : Hid (Lv N gs (i + 1) L') := Lib.hid (by
              have := Pj0.out
              rw [← Lm.out] at this
              exact this.lv Lv0.out)
            have Ss2 : Hid (SS wr w.heap.size w.heap.size A' m' c' us' L') := Lib.hid (Ss.out.mono hzw hzw)
            have Be2 : Hid (Below w4.heap.size w4 wr) := Lib.hid (btr Be.out Be'.out)
            go_wp2_with fail
            go_roundw
            case rel => exact ⟨i + 1, _, _, _, _, _, by omega, by go_num, rfl, Ss2.out, Lv2.out, Be2.out⟩
            case measure => simp [intOf]; omega
      · obtain rfl : i = N := by omega
        have Fin : Hid (IsMbs (i : Int) gs l) := Lib.hid (.inl ⟨Few0.out, by rw [Int.toNat_natCast]; exact Lv0.out.srt, fun p => by rw [Int.toNat_natCast]; exact Lv0.out.top ok.out hN1 hN2 p⟩)
        go_wp2_with fail
        go_ret
        exact ⟨_, _, _, _, _, rfl, So.out, Fin.out, Bw.out⟩
  · have d0 : decide ((3000 : Int) < (V : Int)) = true := by simp; omega
    have Fin : Hid (IsMbs (N : Int) gs []) := Lib.hid (.inr ⟨fun ⟨_, V', h, h'⟩ => (by rw [Int.toNat_natCast] at h; have := h.uniq HV.out; omega), rfl⟩)
    have S0 := Lib.hid (SS.lit0 w3 w.heap.size w.heap.size hz3)
    go_wp2_with fail
    go_ret
    exact ⟨_, _, _, _, _, rfl, S0.out, Fin.out, B3.out.alloc hz3 _⟩
end Go.Proofs.Ytcjcmhoalomjfaa

/- equalInts of the model. No condition but lengths. -/
namespace Go.Proofs.Ytcjcmhoalomjfaa
open Go.RowKit

set_option maxHeartbeats 400000 in
theorem eqIs2_core (A B : Option Addr) (c d n : Nat) (xs ys : List Int) (w : World) (hx : RI w w.heap.size A xs) (hy : RI w w.heap.size B ys) (lx : Hid (xs.length = n)) (ly : Hid (ys.length = n)) (hn : n ≤ 2097152) :
    Calls Try.prog 110 #[.slice A n c, .slice B n d] w fun e w' => e = .returned (.bool (decide (xs = ys))) ∧ ∃ m, w' = w.drewN m := by
  go_enter Try.func110, Try.ntmps110
  go_wp2
  go_loopw [5] (fun i wr => ∃ k : Nat, k ≤ n ∧ i = .int .i64 k ∧ (∀ j, j < k → xs.getD j 0 = ys.getD j 0) ∧ ∃ m, wr = w.drewN m) (fun i _ => n - (intOf i).toNat)
  case atStart => exact ⟨0, Nat.zero_le _, rfl, fun j h => absurd h (by omega), 0, rfl⟩
  case round =>
    obtain ⟨k, hk, rfl, heq, m, rfl⟩ := hrel
    have Heq := Lib.hid heq
    clear heq
    by_cases hlt : k < n
    · obtain ⟨b, off, rfl, hb, hc⟩ := hx (by rw [lx.out]; omega)
      obtain ⟨b', off', rfl, hb', hc'⟩ := hy (by rw [ly.out]; omega)
      have c1 := hc k (by rw [lx.out]; omega)
      have c2 := hc' k (by rw [ly.out]; omega)
      obtain ⟨x, ex⟩ : ∃ x, xs.getD k 0 = x := ⟨_, rfl⟩
      obtain ⟨y, ey⟩ : ∃ y, ys.getD k 0 = y := ⟨_, rfl⟩
      rw [ex] at c1
      rw [ey] at c2
      have Ex := Lib.hid ex
      have Ey := Lib.hid ey
      clear ex ey hc hc' hx hy
      have p1 : (0 : Int) ≤ k := by omega
      have p2 : (k : Int) < n := by omega
      by_cases hxy : x = y
      · subst hxy
        go_wp2
        go_quiet (fail)
        go_wp2
        go_roundw
        case rel => exact ⟨k + 1, by omega, by go_num, fun j hj => by
          by_cases e : j = k
          · subst e; rw [Ex.out, Ey.out]
          · exact Heq.out j (by omega), _, rfl⟩
        case measure => simp [intOf]; omega
      · have hd : (x != y) = true := by simpa using hxy
        have hd' : (x == y) = false := by simpa using hxy
        go_wp2
        go_quiet (fail)
        go_wp2
        go_ret
        refine ⟨ret_bool (Eq.symm (decide_eq_false fun e => hxy ?_)), _, World.drewN_drewN _ _ _⟩
        rw [← Ex.out, ← Ey.out, e]
    · go_wp2
      go_ret
      have : k = n := by omega
      subst this
      exact ⟨ret_bool (Eq.symm (decide_eq_true (ext_getD lx.out ly.out Heq.out))), _, rfl⟩
theorem eqIs2 (A B : Option Addr) (c d n m : Nat) (xs ys : List Int) (w : World) (hx : RI w w.heap.size A xs) (hy : RI w w.heap.size B ys) (lx : Hid (xs.length = n)) (ly : Hid (ys.length = m)) (hn : n ≤ 2097152) (hm : m ≤ 2097152) :
    Calls Try.prog 110 #[.slice A n c, .slice B m d] w fun e w' => e = .returned (.bool (decide (xs = ys))) ∧ ∃ m, w' = w.drewN m := by
  by_cases hl : n = m
  · subst hl
    exact eqIs2_core A B c d n xs ys w hx hy lx ly hn
  · have hd : ((n : Int) != (m : Int)) = true := by rw [bne_iff_ne]; omega
    have hd' : ((n : Int) == (m : Int)) = false := by rw [beq_eq_false_iff_ne]; omega
    go_enter Try.func110, Try.ntmps110
    go_wp2
    go_ret
    refine ⟨ret_bool (Eq.symm (decide_eq_false fun e => hl ?_)), 0, rfl⟩
    rw [← lx.out, ← ly.out, e]
end Go.Proofs.Ytcjcmhoalomjfaa

/- IsNormalSubgroup, IsAbelian and CenterOrder of the model. Conditions: at most 1048576 lists of at most 1048576 numbers. -/
namespace Go.Proofs.Ytcjcmhoalomjfaa
open Go.RowKit

/-- p commutes with each of the list. -/
def cwB (gs : List (List Int)) (p : List Int) : Bool := gs.all fun g => decide (compL p g = compL g p)
theorem cwB_iff {gs : List (List Int)} {p : List Int} : cwB gs p = true ↔ ∀ g ∈ gs, compL p g = compL g p := by
  unfold cwB; rw [List.all_eq_true]; exact ⟨fun h g hg => of_decide_eq_true (h g hg), fun h g hg => decide_eq_true (h g hg)⟩

set_option maxHeartbeats 1000000 in
theorem specCommute (A B : Option Addr) (c d N : Nat) (p q : List Int) (w : World) (hp : RI w w.heap.size A p) (hq : RI w w.heap.size B q) (hP : Hid (Pn N p)) (hQ : Hid (Pn N q)) (ans : Bool) (ha : Hid (decide (compL p q = compL q p) = ans)) :
    Calls Try.prog 119 #[.slice A N c, .slice B N d] w fun e w' => e = .returned (.bool ans) ∧ Below w.heap.size w w' := by
  have HP := Lib.hid hp
  have HQ := Lib.hid hq
  have lp : Hid (p.length = N) := Lib.hid hP.out.2
  have lq : Hid (q.length = N) := Lib.hid hQ.out.2
  have hN := hP.out.pos.2
  clear hp hq
  go_enter Try.func119, Try.ntmps119
  go_wp2_with fail
  refine (specComp A B c d N p q w HP.out HQ.out lp lq (Lib.hid hP.out.1) hN).mono ?_
  rintro e w1 ⟨A1, c1, rfl, s1, b1⟩
  have S1 := Lib.hid s1
  have B1 := Lib.hid b1
  clear s1 b1
  go_wp2_with fail
  refine (specComp B A d c N q p w1 (HQ.out.up B1.out) (HP.out.up B1.out) lq lp (Lib.hid hQ.out.1) hN).mono ?_
  rintro e w2 ⟨A2, c2, rfl, s2, b2⟩
  have S2 := Lib.hid s2
  have S1b := Lib.hid (S1.out.up b2)
  have B2 : Hid (Below w.heap.size w w2) := Lib.hid (btr B1.out b2)
  clear s2 b2
  go_wp2_with fail
  refine (quiet_below (eqIs2 A1 A2 c1 c2 N N (compL p q) (compL q p) w2 S1b.out.ri_ S2.out.ri_ S1b.out.hid S2.out.hid (by omega) (by omega))).mono ?_
  rintro e w3 ⟨rfl, b3⟩
  have B3 : Hid (Below w.heap.size w w3) := Lib.hid (btr B2.out b3)
  clear b3
  rw [ha.out]
  go_wp2_with fail
  go_ret
  exact ⟨rfl, B3.out⟩

set_option maxHeartbeats 2000000 in
set_option maxRecDepth 100000 in
theorem specCwa (N n c cp : Nat) (P A : Option Addr) (vs : List SV) (gs : List (List Int)) (p : List Int) (w : World) (hx : RR w w.heap.size A n vs gs) (hp : RI w w.heap.size P p) (hP : Hid (Pn N p)) (hn8 : n ≤ 8) (ok : Hid (∀ g ∈ gs, Pn N g)) (ans : Bool) (ha : Hid (cwB gs p = ans)) :
    Calls Try.prog 89 #[.slice P N cp, .slice A n c] w fun e w' => e = .returned (.bool ans) ∧ Below w.heap.size w w' := by
  have HX := Lib.hid hx
  have HP := Lib.hid hp
  have hlx : Hid (gs.length = n) := Lib.hid hx.lx
  clear hx hp
  go_enter Try.func89, Try.ntmps89
  go_wp2_with fail
  go_loopw [5] (fun i wr => ∃ k : Nat, k ≤ n ∧ i = .int .i64 (k : Nat) ∧ (∀ x ∈ gs.take k, compL p x = compL x p) ∧ Below w.heap.size w wr) (fun i _ => n - (intOf i).toNat)
  case atStart => exact ⟨0, Nat.zero_le _, rfl, fun x hx => by simp at hx, Below.refl _ _⟩
  case round =>
    obtain ⟨k, hk, rfl, hall, bel⟩ := hrel
    have Al := Lib.hid hall
    have Be := Lib.hid bel
    clear hall bel
    by_cases hlt : k < n
    · obtain ⟨b, off, A5, l, c5, y, rfl, hb, hv, ey, x1, ri, ly, hl5⟩ := (HX.out.up Be.out).at_ hlt
      have hym : y ∈ gs := by rw [← ey]; exact getD_memL (by rw [hlx.out]; exact hlt)
      have hyP := ok.out y hym
      obtain rfl : l = N := by have := hyP.2; omega
      have Ri := Lib.hid ri
      have YP := Lib.hid hyP
      have Ym := Lib.hid hym
      have Ey := Lib.hid ey
      have q0 : (0 : Int) ≤ k := by omega
      have q1 : (k : Int) < n := by omega
      obtain ⟨r, hr⟩ : ∃ r, decide (compL p y = compL y p) = r := ⟨_, rfl⟩
      have Hr := Lib.hid hr
      clear hv ey hb ri hyP hym hr
      go_wp2_with fail
      refine (specCommute P A5 cp c5 l p y wr (HP.out.up Be.out) Ri.out hP YP r Hr).mono ?_
      rintro e w2 ⟨rfl, b2⟩
      have Be2 : Hid (Below w.heap.size w w2) := Lib.hid (btr Be.out b2)
      clear b2
      rcases r with _ | _
      · have Fin : Hid (ans = false) := Lib.hid (by
          rcases hq : ans with _ | _
          · rfl
          · exact absurd (cwB_iff.1 (ha.out.trans hq) y Ym.out) (of_decide_eq_false Hr.out))
        go_wp2_with fail
        go_ret
        exact ⟨ret_bool Fin.out.symm, Be2.out⟩
      · have Al2 : Hid (∀ x ∈ gs.take (k + 1), compL p x = compL x p) := Lib.hid fun x hx => by
          rw [List.take_succ_eq_append_getElem (by rw [hlx.out]; exact hlt)] at hx
          rcases List.mem_append.1 hx with hx | hx
          · exact Al.out x hx
          · have e1 : gs[k]'(by rw [hlx.out]; exact hlt) = y := by rw [← Ey.out, List.getD_eq_getElem?_getD, List.getElem?_eq_getElem (by rw [hlx.out]; exact hlt)]; rfl
            rw [List.mem_singleton.1 hx, e1]; exact of_decide_eq_true Hr.out
        go_wp2_with fail
        go_roundw
        case rel => exact ⟨k + 1, by omega, by go_num, Al2.out, Be2.out⟩
        case measure => simp [intOf]; omega
    · obtain rfl : k = n := by omega
      have Fin : Hid (ans = true) := Lib.hid (ha.out.symm.trans (cwB_iff.2 fun x hx => Al.out x (by rw [List.take_of_length_le (by rw [hlx.out]; exact Nat.le_refl _)]; exact hx)))
      go_wp2_with fail
      go_ret
      exact ⟨ret_bool Fin.out.symm, Be.out⟩

set_option maxHeartbeats 2000000 in
set_option maxRecDepth 100000 in
theorem ctAbl : CtImB 49 IsAbl := by
  intro a A n c vs xss w g ha
  have HX := Lib.hid g.rr
  have hlx : Hid (xss.length = n) := Lib.hid g.rr.lx
  have hn := g.hn
  have hl := Lib.hid g.hl
  clear g
  go_enter Try.func49, Try.ntmps49
  go_wp2_with fail
  refine (specGS a A n c vs xss w HX.out hn hl ha).mono ?_
  rintro e w1 ⟨rfl, b1⟩
  have B1 := Lib.hid b1
  clear b1
  rcases hs : gB a xss with _ | _
  · have Fin : Hid (IsAbl a xss false) := Lib.hid ⟨fun h => (by cases h), fun h => (by have := h.1; rw [hs] at this; cases this)⟩
    clear hs
    go_wp2_with fail
    go_ret
    exact ⟨_, rfl, Fin.out, B1.out⟩
  · obtain ⟨N, rfl, hN1, hN2, hg8, hpm, hok⟩ := gB_pm hs
    have Hs := Lib.hid hs
    have Ok : Hid (∀ g ∈ xss, Pn N g) := Lib.hid hok
    have hn8 : n ≤ 8 := by rw [← hlx.out]; exact hg8
    have Abi := Lib.hid (abl_iff Ok.out hN1 hN2)
    clear hs hpm hok hg8
    go_wp2_with fail
    go_loopw [5] (fun i wr => ∃ k : Nat, k ≤ n ∧ i = .int .i64 (k : Nat) ∧ (∀ x ∈ xss.take k, cwB xss x = true) ∧ Below w.heap.size w wr) (fun i _ => n - (intOf i).toNat)
    case atStart => exact ⟨0, Nat.zero_le _, rfl, fun x hx => by simp at hx, B1.out⟩
    case round =>
      obtain ⟨k, hk, rfl, hall, bel⟩ := hrel
      have Al := Lib.hid hall
      have Be := Lib.hid bel
      clear hall bel
      by_cases hlt : k < n
      · have Xr := Lib.hid (HX.out.up Be.out)
        obtain ⟨b, off, A5, l, c5, y, eA, hb, hv, ey, x1, ri, ly, hl5⟩ := Xr.out.at_ hlt
        subst eA
        have hym : y ∈ xss := by rw [← ey]; exact getD_memL (by rw [hlx.out]; exact hlt)
        have hyP := Ok.out y hym
        obtain rfl : l = N := by have := hyP.2; omega
        have Ri := Lib.hid ri
        have YP := Lib.hid hyP
        have Ym := Lib.hid hym
        have Ey := Lib.hid ey
        have q0 : (0 : Int) ≤ k := by omega
        have q1 : (k : Int) < n := by omega
        obtain ⟨r, hr⟩ : ∃ r, cwB xss y = r := ⟨_, rfl⟩
        have Hr := Lib.hid hr
        clear hv ey hb ri hyP hym hr
        go_wp2_with fail
        refine (specCwa l n c c5 A5 (some ⟨b, off, none⟩) vs xss y wr Xr.out Ri.out YP hn8 Ok r Hr).mono ?_
        rintro e w2 ⟨rfl, b2⟩
        have Be2 : Hid (Below w.heap.size w w2) := Lib.hid (btr Be.out b2)
        clear b2
        rcases r with _ | _
        · have Fin : Hid (IsAbl l xss false) := Lib.hid ⟨fun h => (by cases h), fun h => (by
            have h3 := h.2
            rw [Int.toNat_natCast] at h3
            have h4 := cwB_iff.2 (Abi.out.1 h3 y Ym.out)
            rw [Hr.out] at h4; cases h4)⟩
          go_wp2_with fail
          go_ret
          exact ⟨_, rfl, Fin.out, Be2.out⟩
        · have Al2 : Hid (∀ x ∈ xss.take (k + 1), cwB xss x = true) := Lib.hid fun x hx => by
            rw [List.take_succ_eq_append_getElem (by rw [hlx.out]; exact hlt)] at hx
            rcases List.mem_append.1 hx with hx | hx
            · exact Al.out x hx
            · have e1 : xss[k]'(by rw [hlx.out]; exact hlt) = y := by rw [← Ey.out, List.getD_eq_getElem?_getD, List.getElem?_eq_getElem (by rw [hlx.out]; exact hlt)]; rfl
              rw [List.mem_singleton.1 hx, e1]; exact Hr.out
          go_wp2_with fail
          go_roundw
          case rel => exact ⟨k + 1, by omega, by go_num, Al2.out, Be2.out⟩
          case measure => simp [intOf]; omega
      · obtain rfl : k = n := by omega
        have Fin : Hid (IsAbl N xss true) := Lib.hid ⟨fun _ => ⟨Hs.out, by
          rw [Int.toNat_natCast]
          exact Abi.out.2 fun p hp => cwB_iff.1 (Al.out p (by rw [List.take_of_length_le (by rw [hlx.out]; exact Nat.le_refl _)]; exact hp))⟩, fun _ => rfl⟩
        go_wp2_with fail
        go_ret
        exact ⟨_, rfl, Fin.out, Be.out⟩

set_option maxHeartbeats 4000000 in
set_option maxRecDepth 100000 in
theorem ctCtr : CtImI 50 IsCtr := by
  intro a A n c vs xss w g ha
  have HX := Lib.hid g.rr
  have hlx : Hid (xss.length = n) := Lib.hid g.rr.lx
  have hn := g.hn
  have hl := Lib.hid g.hl
  clear g
  go_enter Try.func50, Try.ntmps50
  go_wp2_with fail
  refine (specGS a A n c vs xss w HX.out hn hl ha).mono ?_
  rintro e w1 ⟨rfl, b1⟩
  have B1 := Lib.hid b1
  clear b1
  rcases hs : gB a xss with _ | _
  · have Fin : Hid (IsCtr a xss 0) := Lib.hid (.inr ⟨fun h => (by have := h.1; rw [hs] at this; cases this), rfl⟩)
    clear hs
    go_wp2_with fail
    go_ret
    exact ⟨_, rfl, Fin.out, B1.out⟩
  · obtain ⟨N, rfl, hN1, hN2, hg8, hpm, hok⟩ := gB_pm hs
    have Hs := Lib.hid hs
    have Ok : Hid (∀ g ∈ xss, Pn N g) := Lib.hid hok
    have hn8 : n ≤ 8 := by rw [← hlx.out]; exact hg8
    clear hs hpm hok hg8
    go_wp2_with fail
    refine (specAllM N n c A vs xss w1 (HX.out.up B1.out) hN1 hN2 hn8 Ok Hs).mono ?_
    rintro e w2 ⟨A2, m2, c2, us, l, rfl, s2, r2, b2⟩
    have R2 := Lib.hid r2
    have L2 : Hid (l.length = m2) := Lib.hid s2.lx
    have hm3 : m2 ≤ 3000 := by rw [← s2.lx]; exact r2.len.1
    have S2 := Lib.hid s2.rr
    have B2 : Hid (Below w.heap.size w w2) := Lib.hid (btr B1.out b2)
    clear s2 r2 b2
    have Cen : Hid (∀ p, Mb xss N p → (cwB xss p = true ↔ Ctr (Mb xss N) p)) := Lib.hid fun p hp => by
      rw [cwB_iff, ctr_gens Ok.out hN1 hN2]; exact ⟨fun h => ⟨hp, h⟩, fun h => h.2⟩
    have Mem : Hid (∀ y ∈ l, Pn N y) := Lib.hid fun y hy => by
      rcases R2.out with ⟨_, _, hm⟩ | ⟨_, e⟩
      · have := (hm y).1 hy
        rw [Int.toNat_natCast] at this
        exact this.pn Ok.out hN1 hN2
      · rw [e] at hy; cases hy
    have Fin : Hid (IsCtr (N : Int) xss (cnP (cwB xss) l l.length : Nat)) := Lib.hid (by
      rcases Classical.em (Few (N : Int) xss) with hf | hf
      · exact R2.out.ctr hf fun p hp => by rw [Int.toNat_natCast] at hp ⊢; exact Cen.out p hp
      · rcases R2.out with ⟨h, _⟩ | ⟨_, e⟩
        · exact absurd h hf
        · rw [e]; exact .inr ⟨hf, rfl⟩)
    clear Cen
    go_wp2_with fail
    go_loopw [6, 7] (fun v i wr => ∃ k : Nat, k ≤ m2 ∧ i = .int .i64 (k : Nat) ∧ v = .int .i64 (cnP (cwB xss) l k : Nat) ∧ Below w2.heap.size w2 wr) (fun _ i _ => m2 - (intOf i).toNat)
    case atStart => exact ⟨0, Nat.zero_le _, rfl, rfl, Below.refl _ _⟩
    case round =>
      obtain ⟨k, hk, rfl, rfl, bel⟩ := hrel
      have Be := Lib.hid bel
      have Xr := Lib.hid (HX.out.up (btr B2.out bel))
      clear bel
      by_cases hlt : k < m2
      · obtain ⟨b, off, A5, lz, c5, y, eA, hb, ev, ey, hc0, hr0, hy, hlc⟩ := S2.out.at_ hlt
        subst eA
        have hyl := Mem.out y (getD_of (by rw [L2.out]; exact hlt) ey)
        obtain rfl : lz = N := by have := hyl.2; omega
        have YP := Lib.hid hyl
        have Cs := Lib.hid (cnP_succ (f := cwB xss) (by rw [L2.out]; exact hlt) ey)
        have x1 := (Be.out.cell (p := ⟨b, off + k, none⟩) hb).trans hc0
        have Ry := Lib.hid (hr0.up Be.out)
        have z0 : (0 : Int) ≤ k := by omega
        have z1 : (k : Int) < m2 := by omega
        have hcl := cnP_le (cwB xss) l k
        rw [L2.out] at hcl
        obtain ⟨cv, ecv⟩ : ∃ cv, cnP (cwB xss) l k = cv := ⟨_, rfl⟩
        rw [ecv] at hcl ⊢
        obtain ⟨r, hr⟩ : ∃ r, cwB xss y = r := ⟨_, rfl⟩
        have Hr := Lib.hid hr
        have Ec := Lib.hid ecv
        have E3 : Hid (cnP (cwB xss) l (k + 1) = cv + if r = true then 1 else 0) := Lib.hid (by rw [← Ec.out, ← Hr.out]; exact Cs.out)
        clear ev ey hr0 hb hc0 hr ecv hyl
        go_wp2_with fail
        refine (specCwa lz n c c5 A5 A vs xss y wr Xr.out Ry.out YP hn8 Ok r Hr).mono ?_
        rintro e w3 ⟨rfl, b3⟩
        have B3 : Hid (Below w2.heap.size w2 w3) := Lib.hid (btr Be.out b3)
        clear b3
        go_wp2_with fail
        refine (specB2I r w3).mono ?_
        rintro e w4 ⟨rfl, rfl⟩
        rcases r with _ | _
        · have E4 : Hid (cnP (cwB xss) l (k + 1) = cv) := E3
          go_wp2_with fail
          go_roundw
          case rel => exact ⟨k + 1, by omega, by go_num, by rw [E4.out], B3.out⟩
          case measure => simp [intOf]; omega
        · have E4 : Hid (cnP (cwB xss) l (k + 1) = cv + 1) := E3
          go_wp2_with fail
          go_roundw
          case rel => exact ⟨k + 1, by omega, by go_num, by rw [E4.out]; go_num, B3.out⟩
          case measure => simp [intOf]; omega
      · obtain rfl : k = m2 := by omega
        have Fin2 : Hid (IsCtr (N : Int) xss (cnP (cwB xss) l k : Nat)) := Lib.hid (by have := Fin.out; rwa [L2.out] at this)
        have B5 : Hid (Below w.heap.size w wr) := Lib.hid (btr B2.out Be.out)
        go_wp2_with fail
        go_ret
        exact ⟨_, rfl, Fin2.out, B5.out⟩
end Go.Proofs.Ytcjcmhoalomjfaa

/- Conjugate, of the program and of the model. No condition but lengths. -/
namespace Go.Proofs.Ytcjcmhoalomjfaa
open Go.RowKit

/-- First the inverse of q, then p, then q. -/
def conjP (p q : List Int) : List Int := compL (compL (invL q q.length) p) q
def conjL (p q : List Int) : List Int := if sameD p q = true then conjP p q else []

set_option maxHeartbeats 400000 in
/-- conjugatedBy. -/
theorem implConjBy (A B : Option Addr) (c d n : Nat) (p q : List Int) (w : World) (hp : RI w w.heap.size A p) (hq : RI w w.heap.size B q) (lp : Hid (p.length = n)) (lq : Hid (q.length = n)) (Ip : Hid (IsP p)) (Iq : Hid (IsP q)) (hn20 : n ≤ 20) :
    Calls Try.prog 81 #[.slice A n c, .slice B n d] w fun e w' => ∃ A' c', e = .returned (.slice A' n c') ∧ Slc w' w.heap.size A' n c' (conjP p q) ∧ Below w.heap.size w w' := by
  have li : Hid ((invL q q.length).length = n) := Lib.hid ((invL_length _ _).trans lq.out)
  have ii : Hid (IsP (invL q q.length)) := Lib.hid (isP_inv Iq.out)
  have lc : Hid ((compL (invL q q.length) p).length = n) := Lib.hid ((compL_length _ _).trans li.out)
  have ic : Hid (IsP (compL (invL q q.length) p)) := Lib.hid (isP_comp ii.out Ip.out (li.out.trans lp.out.symm))
  go_enter Try.func81, Try.ntmps81
  go_wp2_with fail
  refine (implInv B d n q w hq lq Iq hn20).mono ?_
  rintro e w2 ⟨A2, c2, rfl, s2, b2⟩
  rw [← lq.out] at s2
  have S2 := Lib.hid (show Slc w2 w.heap.size A2 n c2 (invL q q.length) by rw [lq.out] at s2 ⊢; exact s2)
  have B2 := Lib.hid b2
  clear s2 b2
  go_wp2_with fail
  refine (implThen A2 A c2 c n (invL q q.length) p w2 S2.out.ri_ (hp.up B2.out) li lp ii hn20).mono ?_
  rintro e w3 ⟨A3, c3, rfl, s3, b3⟩
  have S3 := Lib.hid s3
  have B3 : Hid (Below w.heap.size w w3) := Lib.hid (btr B2.out b3)
  clear s3 b3
  go_wp2_with fail
  refine (implThen A3 B c3 d n (compL (invL q q.length) p) q w3 S3.out.ri_ (hq.up B3.out) lc lq ic hn20).mono ?_
  rintro e w4 ⟨A4, c4, rfl, s4, b4⟩
  have S4 := Lib.hid (s4.mono B3.out.size)
  have B4 : Hid (Below w.heap.size w w4) := Lib.hid (btr B3.out b4)
  clear s4 b4
  go_wp2_with fail
  go_ret
  exact ⟨_, _, rfl, S4.out, B4.out⟩


end Go.Proofs.Ytcjcmhoalomjfaa

/- The entries that a link of the program's chain allows, in order; which member an entry leads to. No Go in it. Conditions: at most 20 points. -/
namespace Go.Proofs.Ytcjcmhoalomjfaa
open Go.RowKit

section
variable {N j v y : Nat} {c : Ch} {O : List Nat} {gs : List (List Int)} {m zs : List Int}
theorem orb_perm (h : Orb c j O) (hr : RepOK N c j) : O.Perm ((List.range N).filter fun y => !(c.rep j y).isEmpty) :=
  (List.perm_ext_iff_of_nodup h.1 (List.nodup_range.filter _)).2 fun y => by
    rw [List.mem_filter, List.mem_range, Bool.not_eq_true', List.isEmpty_eq_false_iff, h.2]
    exact ⟨fun e => ⟨h.lt hr ((h.2 y).2 e), e⟩, fun e => e.2⟩
/-- The entries of m at the orbit's points. -/
def vlL (m : List Int) (O : List Nat) : List Int := O.map fun y => (nx m y : Int)
theorem vlL_len : (vlL m O).length = O.length := by simp [vlL]
theorem vlL_take {k : Nat} (hk : k < O.length) : vlL m (O.take (k + 1)) = vlL m (O.take k) ++ [(nx m (O.getD k 0) : Int)] := by
  unfold vlL
  rw [List.take_succ_eq_append_getElem hk, List.map_append, List.getD_eq_getElem?_getD, List.getElem?_eq_getElem hk]; rfl
/-- Sorted, they are the entries there. -/
theorem val_chL (hO : Orb c j O) (hw : Whole N gs c) (h1 : 1 ≤ N) (h2 : N ≤ 20) (hg : ∀ g ∈ gs, Pn N g) (hj : j < N) (hm : Mb gs N m) : ChL N gs m j ((vlL m O).mergeSort fun x y => decide (x ≤ y)) := by
  refine chL_ok hw h1 h2 hg hj hm ((List.mergeSort_perm _ _).trans ((orb_perm hO (hw.up.rep j (Nat.zero_le _) hj)).map _)) ?_
  have := List.pairwise_mergeSort (le := fun a b : Int => decide (a ≤ b)) (fun a b c h1 h2 => by simp at h1 h2 ⊢; omega) (fun a b => by simp; omega) (vlL m O)
  exact this.imp fun h => of_decide_eq_true h
theorem Whole.pick (hw : Whole N gs c) (h1 : 1 ≤ N) (h2 : N ≤ 20) (hg : ∀ g ∈ gs, Pn N g) (hj : j < N) (hm : Mb gs N m) (hz : ChL N gs m j zs) (hv : (v : Int) ∈ zs) : ∃ y, y < N ∧ (nx m y : Int) = v ∧ c.rep j y ≠ [] := by
  obtain ⟨q, hq, hqa, hqv⟩ := (hz.2 _).1 hv
  obtain ⟨y, hy, hry, hmy⟩ := chL_mem.1 ((hw.choice h1 h2 hg hj hm).2 ⟨q, hq, hqa, hqv⟩)
  exact ⟨y, hy, hmy, hry⟩
theorem Whole.picked (hw : Whole N gs c) (h1 : 1 ≤ N) (h2 : N ≤ 20) (hg : ∀ g ∈ gs, Pn N g) (hj : j < N) (hm : Mb gs N m) (hr : c.rep j y ≠ []) : Mb gs N (compL (c.rep j y) m) ∧ Ag j (compL (c.rep j y) m) m ∧ nx (compL (c.rep j y) m) j = nx m y := by
  obtain ⟨a1, a2, a3, _⟩ := hw.rep_mb h1 h2 hj hr
  have hp := a1.pn hg h1 h2
  exact ⟨a1.comp hg h1 h2 hm, fun t ht => by rw [hp.nxc (by omega), a2 t ht], by rw [hp.nxc hj, a3]⟩
/-- The entry of a member there is one of them. -/
theorem ChL.has {q : List Int} (h : ChL N gs m j zs) (hq : Mb gs N q) (ha : Ag j q m) : (nx q j : Int) ∈ zs := (h.2 _).2 ⟨q, hq, ha, rfl⟩
theorem ChL.bnd {x : Int} (h : ChL N gs m j zs) (hg : ∀ g ∈ gs, Pn N g) (h1 : 1 ≤ N) (h2 : N ≤ 20) (hj : j < N) (hx : x ∈ zs) : ∃ v : Nat, x = (v : Int) ∧ v < N := by
  obtain ⟨q, hq, _, rfl⟩ := (h.2 _).1 hx
  exact ⟨nx q j, rfl, (hq.pn hg h1 h2).lt hj⟩
end
end Go.Proofs.Ytcjcmhoalomjfaa

/- The library's contracts laid at this program: tables of numbers, and facts that the kernel compares. No condition. -/
namespace Go.Proofs.Ytcjcmhoalomjfaa
open Go.Proofs Go.Shelf
def laySort_ren : Go.Shelf.Ren := ⟨fun | 5 => 146 | 8 => 129 | 7 => 152 | 19 => 144 | 20 => 145 | 10 => 154 | 11 => 155 | 12 => 156 | 13 => 157 | 14 => 158 | 15 => 159 | 16 => 160 | 17 => 161 | 18 => 162 | 30 => 163 | 31 => 148 | 32 => 149 | 33 => 164 | 34 => 165 | 35 => 130 | 40 => 166 | n => n, fun | 23 => 33 | 25 => 2 | 3 => 3 | 32 => 120 | 22 => 33 | 0 => 0 | 44 => 136 | 46 => 138 | 4 => 4 | 36 => 129 | 35 => 128 | 41 => 133 | 5 => 5 | 9 => 9 | 53 => 140 | 57 => 144 | 63 => 147 | 64 => 148 | n => n, fun | n => n⟩
theorem laySort : Go.Proofs.SlLaysM.n5 Try.prog laySort_ren := {
  mixed := by kernel_rfl
  f5 := ⟨Try.f146.name, by decide, Try.func146.trans (congrArg some (by kernel_rfl))⟩
  f7 := ⟨Try.f152.name, by decide, Try.func152.trans (congrArg some (by kernel_rfl))⟩
  f8 := Try.func129.trans (congrArg some (by kernel_rfl))
  f10 := ⟨Try.f154.name, by decide, Try.func154.trans (congrArg some (by kernel_rfl))⟩
  f11 := ⟨Try.f155.name, by decide, Try.func155.trans (congrArg some (by kernel_rfl))⟩
  f12 := ⟨Try.f156.name, by decide, Try.func156.trans (congrArg some (by kernel_rfl))⟩
  f13 := ⟨Try.f157.name, by decide, Try.func157.trans (congrArg some (by kernel_rfl))⟩
  f14 := ⟨Try.f158.name, by decide, Try.func158.trans (congrArg some (by kernel_rfl))⟩
  f15 := ⟨Try.f159.name, by decide, Try.func159.trans (congrArg some (by kernel_rfl))⟩
  f16 := ⟨Try.f160.name, by decide, Try.func160.trans (congrArg some (by kernel_rfl))⟩
  f17 := ⟨Try.f161.name, by decide, Try.func161.trans (congrArg some (by kernel_rfl))⟩
  f18 := ⟨Try.f162.name, by decide, Try.func162.trans (congrArg some (by kernel_rfl))⟩
  f19 := Try.func144.trans (congrArg some (by kernel_rfl))
  f20 := Try.func145.trans (congrArg some (by kernel_rfl))
  f30 := ⟨Try.f163.name, by decide, Try.func163.trans (congrArg some (by kernel_rfl))⟩
  f31 := Try.func148.trans (congrArg some (by kernel_rfl))
  f32 := Try.func149.trans (congrArg some (by kernel_rfl))
  f33 := ⟨Try.f164.name, by decide, Try.func164.trans (congrArg some (by kernel_rfl))⟩
  f34 := ⟨Try.f165.name, by decide, Try.func165.trans (congrArg some (by kernel_rfl))⟩
  f35 := ⟨Try.f130.name, by decide, Try.func130.trans (congrArg some (by kernel_rfl))⟩
  f40 := ⟨Try.f166.name, by decide, Try.func166.trans (congrArg some (by kernel_rfl))⟩
  t0 := Try.underlying0
  a0 := Try.isAgg0
  z0 := Try.sizeOf0
  v0 := Try.zeroValue0
  t3 := Try.underlying3
  a3 := Try.isAgg3
  z3 := Try.sizeOf3
  v3 := Try.zeroValue3
  t4 := Try.underlying4
  a4 := Try.isAgg4
  z4 := Try.sizeOf4
  v4 := Try.zeroValue4
  t5 := Try.underlying5
  a5 := Try.isAgg5
  z5 := Try.sizeOf5
  v5 := Try.zeroValue5
  t9 := Try.underlying9
  a9 := Try.isAgg9
  z9 := Try.sizeOf9
  v9 := Try.zeroValue9
  t22 := Try.underlying33
  a22 := Try.isAgg33
  z22 := Try.sizeOf33
  v22 := Try.zeroValue33
  t23 := Try.underlying33
  a23 := Try.isAgg33
  z23 := Try.sizeOf33
  v23 := Try.zeroValue33
  t25 := Try.underlying2
  a25 := Try.isAgg2
  z25 := Try.sizeOf2
  v25 := Try.zeroValue2
  t32 := Try.underlying120
  a32 := Try.isAgg120
  z32 := Try.sizeOf120
  v32 := Try.zeroValue120
  t35 := Try.underlying128
  a35 := Try.isAgg128
  z35 := Try.sizeOf128
  v35 := Try.zeroValue128
  t36 := Try.underlying129
  a36 := Try.isAgg129
  z36 := Try.sizeOf129
  v36 := Try.zeroValue129
  t41 := Try.underlying133
  a41 := Try.isAgg133
  z41 := Try.sizeOf133
  v41 := Try.zeroValue133
  t44 := Try.underlying136
  a44 := Try.isAgg136
  z44 := Try.sizeOf136
  v44 := Try.zeroValue136
  t46 := Try.underlying138
  a46 := Try.isAgg138
  z46 := Try.sizeOf138
  v46 := Try.zeroValue138
  t53 := Try.underlying140
  a53 := Try.isAgg140
  z53 := Try.sizeOf140
  v53 := Try.zeroValue140
  t57 := Try.underlying144
  a57 := Try.isAgg144
  z57 := Try.sizeOf144
  v57 := Try.zeroValue144
  t63 := Try.underlying147
  a63 := Try.isAgg147
  z63 := Try.sizeOf147
  v63 := Try.zeroValue147
  t64 := Try.underlying148
  a64 := Try.isAgg148
  z64 := Try.sizeOf148
  v64 := Try.zeroValue148 }
end Go.Proofs.Ytcjcmhoalomjfaa

/- Rows of the call's own that the library has written over. No condition. -/
namespace Go.Proofs.Ytcjcmhoalomjfaa
open Go.RowKit Go.Sort

theorem heap_put {α : Type} [Inhabited α] (enc : α → Value) (w : World) (k g : Nat) (d : Array α) (os : Array Obj) {cur : Array Value} {e : TypeId} {fr : Nat × Nat} (hb : w.heap[g]? = some (.cells cur e fr)) :
    (grow (putRow enc (Sort.ahead w k) g 0 d) os).heap[g]? = some (.cells (putCells enc 0 d cur) e fr) := by
  have hlt : g < w.heap.size := (Array.getElem?_eq_some_iff.1 hb).1
  rw [heap_grow_old _ _ (by simpa using hlt)]
  unfold putRow mapBlock
  simp [Array.getElem?_modify, hb, onCells]
theorem put_take {α : Type} [Inhabited α] (enc : α → Value) (ts : List α) (cur : Array Value) (n : Nat) (hn : n ≤ ts.length) (hc : ts.length ≤ cur.size) : (putCells enc 0 ts.toArray cur).toList.take n = (ts.take n).map enc := by
  apply List.ext_getElem
  · simp [putCells]; omega
  · intro i h1 h2
    simp [putCells] at h1 h2 ⊢
    rw [if_pos (by omega)]
    rw [List.getElem?_eq_getElem (by omega)]; rfl
theorem grown_put {α : Type} [Inhabited α] (enc : α → Value) (w : World) (k g : Nat) (d : Array α) (os : Array Obj) : w.grownBy (grow (putRow enc (Sort.ahead w k) g 0 d) os) (some g) := by
  refine ⟨rfl, rfl, rfl, by simp, fun i hi hne => ?_⟩
  rw [heap_grow_old _ _ (by simpa using hi)]
  unfold putRow mapBlock
  have : ¬ g = i := fun e => hne (by rw [e])
  simp [Array.getElem?_modify, this]
theorem own_put {α : Type} [Inhabited α] (enc : α → Value) {w : World} {base g cap n : Nat} {e : TypeId} {xs : List α} {ts : List α} (h : w.ownsRow base e 1 (.slice (some ⟨g, 0, none⟩) xs.length cap) xs.length (xs.map enc))
    (hl : ts.length = xs.length) (hn : n ≤ xs.length) (k : Nat) (os : Array Obj) :
    (grow (putRow enc (Sort.ahead w k) g 0 ts.toArray) os).ownsRow base e 1 (.slice (some ⟨g, 0, none⟩) n cap) n ((ts.take n).map enc) := by
  refine ⟨by simp; omega, .inr ?_⟩
  rcases h.2 with ⟨e1, _⟩ | ⟨g', cap', cur, e1, hb, hg, h1, h2, h3, h4⟩
  · cases e1
  · injection e1 with e1 e2 e3
    injection e1 with e1
    injection e1 with e1
    subst e1; subst e3
    refine ⟨g, cap, _, rfl, hb, heap_put enc w k g _ os hg, by omega, h2, by simp [putCells]; omega, ?_⟩
    rw [Nat.mul_one]
    exact put_take enc ts cur n (by omega) (by omega)
theorem holds_own {α : Type} [Inhabited α] (enc : α → Value) {w : World} {base g cap : Nat} {e : TypeId} {xs : List α} (h : w.ownsRow base e 1 (.slice (some ⟨g, 0, none⟩) xs.length cap) xs.length (xs.map enc)) :
    Holds enc w g 0 xs.toArray := by
  intro j hj
  simp at hj
  rw [Nat.zero_add]
  refine ⟨?_, h.frozenAt j⟩
  rw [h.cellAt j (by omega), List.getElem?_map, List.getElem?_eq_getElem hj, getElem!_pos _ j (by simpa using hj)]
  simp

/-- slices.Sort at a row of the call's own. -/
theorem sortT (base : Nat) (A : Option Addr) (n c : Nat) (xs : List Int) (w : World) (h : Slc w base A n c xs) (h1 : 1 ≤ n) (hn : n ≤ 2097152) :
    Calls Try.prog 146 #[.slice A n c] w fun e w' => e = .returned (.tuple #[]) ∧ Slc w' base A n c (xs.mergeSort fun x y => decide (x ≤ y)) ∧ w.grownBy w' (Value.slice A n c).ownBlock := by
  obtain ⟨hl, ho⟩ := h
  subst hl
  rcases Slc.at_ ⟨rfl, ho⟩ with ⟨_, _, e0, _⟩ | ⟨g, rfl, hb, hg⟩
  · omega
  have hho : w.ownsRow base 2 1 (.slice (some ⟨g, 0, none⟩) xs.length c) xs.length (xs.map (Value.int .i64)) := ho
  refine (AnyM.slices_Sort_int laySort g 0 c xs w (holds_own _ hho) hg (by omega)).mono ?_
  rintro e w' ⟨rfl, k, os, rfl⟩
  have hlen : (xs.mergeSort fun x y => decide (x ≤ y)).length = xs.length := List.length_mergeSort _
  refine ⟨rfl, ⟨hlen, ?_⟩, grown_put _ _ _ _ _ _⟩
  have := own_put (Value.int .i64) hho hlen (Nat.le_refl _) k os
  rw [List.take_of_length_le (by omega)] at this
  unfold Own
  rw [hlen]
  exact this
end Go.Proofs.Ytcjcmhoalomjfaa

/- The program's values: the entries that a link allows behind a member, in ascending order; slices.BinarySearch. Conditions: at most 20 points; the chain whole. -/
namespace Go.Proofs.Ytcjcmhoalomjfaa
open Go.RowKit

set_option maxHeartbeats 4000000 in
set_option maxRecDepth 100000 in
/-- values, at link j. -/
theorem implValues (base N k j cp : Nat) (M : Nat → Prop) (c : Ch) (L : Nat → LK) (gs : List (List Int)) (A : Option Addr) (m : List Int) (w : World) (hc : Ck w base N k M c L) (ho : Orbs N k c L) (hw : Hid (Whole N gs c)) (hkj : k ≤ j) (hjN : j < N) (h1 : 1 ≤ N) (h2 : N ≤ 20) (hg : Hid (∀ g ∈ gs, Pn N g))
    (hm : RI w w.heap.size A m) (hmb : Hid (Mb gs N m)) :
    Calls Try.prog 134 #[.pointer (some ⟨(L j).B, 0, none⟩), .slice A N cp] w fun e w' => ∃ (g n' c' : Nat) (zs : List Int), e = .returned (.slice (some ⟨g, 0, none⟩) n' c') ∧ Slc w' w.heap.size (some ⟨g, 0, none⟩) n' c' zs ∧ 1 ≤ n' ∧ n' ≤ 20 ∧ ChL N gs m j zs ∧ Below w.heap.size w w' := by
  have HC := Lib.hid hc
  have HM := Lib.hid hm
  have hOr := ho j hkj hjN
  have hR := hw.out.up.rep j (Nat.zero_le _) hjN
  have MP := Lib.hid (hmb.out.pn hg.out h1 h2)
  have Fin := Lib.hid (val_chL hOr hw.out h1 h2 hg.out hjN hmb.out)
  obtain ⟨on, hon⟩ : ∃ on, (L j).orb.length = on := ⟨_, rfl⟩
  have hjO : j ∈ (L j).orb := (hOr.2 j).2 (by rw [hR.one]; intro e; have := idL_length N; rw [e] at this; simp at this; omega)
  have h0n : 1 ≤ on := by rw [← hon]; exact List.length_pos_of_mem hjO
  have hon20 : on ≤ 20 := by have := hOr.len hR; omega
  obtain ⟨ob, oc, hoe, _⟩ := hc.cO hkj hjN (j := 0) (by omega)
  have x2 := (hc.cB hkj hjN).2.2.1
  rw [hoe, hon] at x2
  simp only [sval] at x2
  have Hon := Lib.hid hon
  have Hoe := Lib.hid hoe
  have Hor := Lib.hid hOr
  have HR := Lib.hid hR
  obtain ⟨b, off, rfl, hb, hcell⟩ := hm (by rw [MP.out.2]; omega)
  have Hb := Lib.hid hb
  have Hcell : Hid (∀ y, y < N → w.cell? ⟨b, off + y, none⟩ = some (.int .i64 ((nx m y : Nat) : Int))) := Lib.hid fun y hy => by
    rw [hcell y (by rw [MP.out.2]; exact hy), nx_val MP.out.1 (by rw [MP.out.2]; exact hy)]
  clear hc hm ho hOr hR hon hjO hoe hb hcell
  go_enter Try.func134, Try.ntmps134
  go_wp2_with fail
  go_loopw [5, 7, 13] (fun v _ i wr => ∃ (t cc : Nat) (A' : Option Addr), t ≤ on ∧ i = .int .i64 (t : Nat) ∧ v = .slice A' t cc ∧ Slc wr w.heap.size A' t cc (vlL m ((L j).orb.take t)) ∧ Below w.heap.size w wr) (fun _ _ i _ => on - (intOf i).toNat)
  case atStart => exact ⟨0, 0, none, Nat.zero_le _, rfl, rfl, Slc.nil_, Below.refl _ _⟩
  case round =>
    obtain ⟨t, cc, A', ht, rfl, rfl, hs, bel⟩ := hrel
    have Ss := Lib.hid hs
    have Be := Lib.hid bel
    have Cj := Lib.hid (HC.out.up bel)
    have hzr := bel.size
    clear hs bel
    by_cases hlt : t < on
    · obtain ⟨ob', oc', hoe', x6⟩ := Cj.out.cO hkj hjN (j := t) (by rw [Hon.out]; exact hlt)
      obtain ⟨rfl, rfl⟩ : ob = ob' ∧ oc = oc' := by
        rw [Hoe.out] at hoe'
        injection hoe' with h1 h2
        injection h1 with h1
        injection h1 with h1
        injection h2 with _ h2
        exact ⟨h1, h2⟩
      obtain ⟨y, ey⟩ : ∃ y, (L j).orb.getD t 0 = y := ⟨_, rfl⟩
      rw [ey] at x6
      have hyO : y ∈ (L j).orb := by rw [← ey, List.getD_eq_getElem?_getD, List.getElem?_eq_getElem (by rw [Hon.out]; exact hlt)]; exact List.getElem_mem _
      have hy : y < N := Hor.out.lt HR.out hyO
      have x7 := (Be.out.cell (p := ⟨b, off + y, none⟩) Hb.out).trans (Hcell.out y hy)
      obtain ⟨u, eu⟩ : ∃ u, nx m y = u := ⟨_, rfl⟩
      rw [eu] at x7
      have Nt : Hid (vlL m ((L j).orb.take (t + 1)) = vlL m ((L j).orb.take t) ++ [(u : Int)]) := Lib.hid (by rw [vlL_take (by rw [Hon.out]; exact hlt), ey, eu])
      have q0 : (0 : Int) ≤ t := by omega
      have q1 : (t : Int) < on := by omega
      have q2 : (0 : Int) ≤ y := by omega
      have q3 : (y : Int) < N := by omega
      clear hoe' ey hyO eu
      go_wp2_with (first | (at_builtin; refine wpList_app1 rfl _ _ rfl w.heap.size A' t cc _ rfl (Ss.out.alloc _) wr.heap.size (u : Int) rfl (by rw [World.cell?_alloc_at _ _ _ _ rfl]; rfl) (by omega) (by simp; omega) ?_; intro A3 c3 w3 s3 g3))
      have S3 : Hid (Slc w3 w.heap.size A3 (t + 1) c3 (vlL m ((L j).orb.take (t + 1)))) := Lib.hid (by rw [Nt.out]; exact s3)
      have B3 : Hid (Below w.heap.size w w3) := Lib.hid ((Be.out.alloc hzr _).grown g3 (by simp; omega) (fun j hj => (Ss.out.lt_ j hj).1))
      clear s3 g3
      go_wp2_with fail
      go_roundw
      case rel => exact ⟨t + 1, c3, A3, by omega, by go_num, rfl, S3.out, B3.out⟩
      case measure => simp [intOf]; omega
    · obtain rfl : t = on := by omega
      have Ta : Hid (vlL m ((L j).orb.take t) = vlL m (L j).orb) := Lib.hid (by rw [List.take_of_length_le (by rw [Hon.out]; exact Nat.le_refl _)])
      go_wp2_with fail
      refine (sortT w.heap.size A' t cc _ wr Ss.out h0n (by omega)).mono ?_
      rintro e w4 ⟨rfl, s4, g4⟩
      have S4 : Hid (Slc w4 w.heap.size A' t cc ((vlL m (L j).orb).mergeSort fun x y => decide (x ≤ y))) := Lib.hid (by rw [← Ta.out]; exact s4)
      have B4 : Hid (Below w.heap.size w w4) := Lib.hid (Be.out.grown g4 Be.out.size (fun j hj => (Ss.out.lt_ j hj).1))
      clear s4 g4
      go_wp2_with fail
      go_ret
      rcases S4.out.at_ with ⟨_, _, e0, _⟩ | ⟨g, rfl, _, _⟩
      · omega
      · exact ⟨g, _, _, _, rfl, S4.out, h0n, hon20, Fin.out, B4.out⟩

end Go.Proofs.Ytcjcmhoalomjfaa

/- The program's memberOf: a member chosen entry by entry, by a function that may keep a state of its own. Conditions: at most 20 points; the chain whole. -/
namespace Go.Proofs.Ytcjcmhoalomjfaa
open Go.RowKit

/-- What is asked of the function that picks: F with its captured cell cp; it writes into the blocks S alone; Inv tells what holds ahead of entry i, behind the choices that m tells. -/
structure PickOK (base N : Nat) (gs : List (List Int)) (F : Nat) (cp : Value) (M : Nat → Prop) (ch : Ch) (L : Nat → LK) (S : Nat → Prop) (Inv : Nat → List Int → World → Prop) : Prop where
  ent : ∀ (args : Array Value) (w : World), (callFunc F args).run Try.prog w = .ok (.enter F args) w
  ck : ∀ i m w, Inv i m w → Ck w base N 0 M ch L
  up : ∀ i m w w', Inv i m w → Below w.heap.size w w' → Inv i m w'
  pick : ∀ (i : Nat) (m zs : List Int) (A : Option Addr) (n c : Nat) (w : World), i < N → Inv i m w → Mb gs N m → ChL N gs m i zs → Rd w S (A, n, c) zs → 1 ≤ n → n ≤ 20 →
    Calls Try.prog F #[.pointer (some ⟨(L i).B, 0, none⟩), .slice A n c, cp] w fun e w' => ∃ v : Nat, e = .returned (.int .i64 (v : Nat)) ∧ (v : Int) ∈ zs ∧ Chg w w' S ∧ ∀ m', Mb gs N m' → Ag i m' m → nx m' i = v → Inv (i + 1) m' w'

/-- The member so far: at first the chain's own identity, then one in a new row. -/
def Cur (w : World) (lo N : Nat) (L : Nat → LK) (j : Nat) (A : Option Addr) (c : Nat) (m : List Int) : Prop := (j = 0 ∧ m = idL N ∧ (L 0).en.getD 0 sd0 = (A, N, c)) ∨ Slc w lo A N c m
section
variable {w w' : World} {base lo N j c : Nat} {L : Nat → LK} {M S : Nat → Prop} {ch : Ch} {A : Option Addr} {m : List Int} {gs : List (List Int)}
theorem rep00 (hw : Whole N gs ch) (h1 : 1 ≤ N) : ch.rep 0 0 = idL N := (hw.up.rep 0 (Nat.le_refl _) (by omega)).one
theorem idL_ne (h1 : 1 ≤ N) : idL N ≠ [] := fun e => by have := idL_length N; rw [e] at this; simp at this; omega
theorem Cur.ri (h : Cur w lo N L j A c m) (hc : Ck w base N 0 M ch L) (hw : Whole N gs ch) (h1 : 1 ≤ N) : RI w w.heap.size A m := by
  rcases h with ⟨_, rfl, e⟩ | h
  · have := (hc.eM (Nat.le_refl _) (by omega) (y := 0) (by omega)).2 (by rw [rep00 hw h1]; exact idL_ne h1)
    rw [e, rep00 hw h1] at this
    exact this.ri
  · exact h.ri_
theorem Cur.chg (h : Cur w lo N L j A c m) (hc : Chg w w' S) (hS : ∀ b, S b → b < lo) : Cur w' lo N L j A c m := by
  rcases h with h | h
  · exact .inl h
  · exact .inr (h.chgS hc fun b e hb => by have := (h.lt_ b e).1; have := hS b hb; omega)
/-- The mover of the base to itself. -/
theorem Ck.mover0 (hc : Ck w base N 0 M ch L) (hw : Whole N gs ch) (h1 : 1 ≤ N) : ∃ b off cc, (L 0).en.getD 0 sd0 = (some ⟨b, off, none⟩, N, cc) ∧ w.cell? ⟨(L 0).mb, 0, none⟩ = some (.slice (some ⟨b, off, none⟩) N cc) ∧ N ≤ cc ∧ RI w w.heap.size (some ⟨b, off, none⟩) (idL N) := by
  have x5 := hc.cM (Nat.le_refl _) (show 0 < N by omega) (y := 0) (by omega)
  have hrd := (hc.eM (Nat.le_refl _) (show 0 < N by omega) (y := 0) (by omega)).2 (by rw [rep00 hw h1]; exact idL_ne h1)
  rw [rep00 hw h1] at hrd
  rcases hd : (L 0).en.getD 0 sd0 with ⟨dA, dn, dc⟩
  rw [hd] at x5 hrd
  obtain ⟨b, off, e⟩ := rd_not0 hrd (idL_ne h1)
  have e : dA = some ⟨b, off, none⟩ := e
  subst e
  obtain rfl : dn = N := by have h3 : (idL N).length = dn := hrd.len; rw [idL_length] at h3; omega
  exact ⟨b, off, dc, rfl, x5, hrd.cap, hrd.ri⟩
end

end Go.Proofs.Ytcjcmhoalomjfaa

/- The program's members: all of them, by a function that calls itself through a variable; Members. Conditions: at most 1048576 lists of at most 1048576 numbers. -/
namespace Go.Proofs.Ytcjcmhoalomjfaa
open Go.RowKit

/-- The members that agree with m in the first i entries, in order. -/
structure Sub (N : Nat) (gs : List (List Int)) (i : Nat) (m : List Int) (l : List (List Int)) : Prop where
  srt : l.Pairwise (LxI N)
  mem : ∀ p, p ∈ l ↔ Mb gs N p ∧ Ag i p m
/-- Those among them whose entry i is one of the first t of zs. -/
structure SubT (N : Nat) (gs : List (List Int)) (i : Nat) (m zs : List Int) (t : Nat) (l : List (List Int)) : Prop where
  srt : l.Pairwise (LxI N)
  mem : ∀ p, p ∈ l ↔ Mb gs N p ∧ Ag i p m ∧ ∃ u, u < t ∧ (nx p i : Int) = zs.getD u 0
section
variable {N i t : Nat} {gs : List (List Int)} {m m' zs : List Int} {l l' : List (List Int)}
theorem Sub.one (hg : ∀ g ∈ gs, Pn N g) (h1 : 1 ≤ N) (h2 : N ≤ 20) (hm : Mb gs N m) : Sub N gs N m [m] :=
  ⟨List.pairwise_singleton _ _, fun p => by
    rw [List.mem_singleton]
    exact ⟨fun e => ⟨e ▸ hm, fun x _ => by rw [e]⟩, fun ⟨a, b⟩ => (a.pn hg h1 h2).ext (hm.pn hg h1 h2) fun x hx => b x hx⟩⟩
theorem SubT.zero : SubT N gs i m zs 0 [] := ⟨.nil, fun p => ⟨fun h => (by cases h), fun ⟨_, _, u, hu, _⟩ => absurd hu (Nat.not_lt_zero _)⟩⟩
theorem SubT.next (h : SubT N gs i m zs t l) (hs : Sub N gs (i + 1) m' l') (hz : zs.Pairwise (· < ·)) (hi : i < N) (ht : t < zs.length) (ha : Ag i m' m) (hv : (nx m' i : Int) = zs.getD t 0) : SubT N gs i m zs (t + 1) (l ++ l') := by
  refine ⟨List.pairwise_append.2 ⟨h.srt, hs.srt, fun x hx y hy => ?_⟩, fun p => ?_⟩
  · obtain ⟨_, a1, u, hu, e1⟩ := (h.mem x).1 hx
    obtain ⟨_, a2⟩ := (hs.mem y).1 hy
    have a3 := (ag_succ.1 a2)
    refine ⟨i, hi, a1.trans (a3.1.trans ha).symm, ?_⟩
    have := sorted_lo hz hu ht
    have := a3.2
    omega
  · rw [List.mem_append, h.mem, hs.mem]
    constructor
    · rintro (⟨a, b, u, hu, e⟩ | ⟨a, b⟩)
      · exact ⟨a, b, u, by omega, e⟩
      · have b3 := ag_succ.1 b
        exact ⟨a, b3.1.trans ha, t, by omega, by rw [b3.2]; exact hv⟩
    · rintro ⟨a, b, u, hu, e⟩
      by_cases eu : u = t
      · subst eu
        exact .inr ⟨a, ag_succ.2 ⟨b.trans ha.symm, by omega⟩⟩
      · exact .inl ⟨a, b, u, by omega, e⟩
theorem SubT.all (h : SubT N gs i m zs zs.length l) (hc : ChL N gs m i zs) : Sub N gs i m l :=
  ⟨h.srt, fun p => by
    rw [h.mem]
    refine ⟨fun ⟨a, b, _⟩ => ⟨a, b⟩, fun ⟨a, b⟩ => ⟨a, b, ?_⟩⟩
    obtain ⟨u, hu, e⟩ := List.mem_iff_getElem.1 ((hc.2 _).2 ⟨p, a, b, rfl⟩)
    exact ⟨u, hu, by rw [gdx' hu]; exact e.symm⟩⟩
/-- How many they are. -/
theorem Sub.len {xs : List Int} (h : Sub N gs i m l) (ho : IsOS N gs xs) (hg : ∀ g ∈ gs, Pn N g) (h1 : 1 ≤ N) (h2 : N ≤ 20) (hi : i ≤ N) (hm : Mb gs N m) : (l.length : Int) = pr xs i (N - i) := by
  obtain ⟨v, hv, e⟩ := agree_card ho hg h1 h2 hi hm
  rw [e, hv.uniq ⟨l, lx_nodup h.srt, h.mem, rfl⟩]
end

/-- The blocks that the list may turn: its box, its row. -/
def Tb (ball : Nat) (A : Option Addr) (n c : Nat) (b : Nat) : Prop := b = ball ∨ (Value.slice A n c).ownBlock = some b
theorem SS.chgS {w w' : World} {lo n c : Nat} {A : Option Addr} {us : List SV} {l : List (List Int)} {S : Nat → Prop} (h : SS w lo lo A n c us l) (hc : Chg w w' S) (hS : ∀ b, S b → b < lo) : SS w' lo lo A n c us l :=
  ⟨ownsRow_chg h.own hc fun b e hs => by have := (h.lt_ b e).1; have := hS b hs; omega, h.lv, h.lx, fun i hi => (h.row i hi).chgS hc fun b e hs => by have := ((h.row i hi).lt_ b e).1; have := hS b hs; omega, h.dis⟩
theorem chg_cellT (w : World) (b : Nat) (u : Value) : Chg w (w.setCell ⟨b, 0, none⟩ u) (fun x => x = b) := ⟨rfl, rfl, rfl, by simp, fun x hx hn => heap_setCell_other w ⟨b, 0, none⟩ _ _ fun e => hn e⟩

/-- withValue where the entry is one that the link allows. -/
theorem implWithY (base N k j cp : Nat) (M : Nat → Prop) (c : Ch) (L : Nat → LK) (A : Option Addr) (m : List Int) (v y : Nat) (w : World) (hc : Ck w base N k M c L) (hkj : k ≤ j) (hjN : j < N) (hr : Hid (RepOK N c j)) (hm : RI w w.heap.size A m) (hP : Hid (Pn N m)) (hy : y < N) (hyv : nx m y = v) (hyr : c.rep j y ≠ []) :
    Calls Try.prog 112 #[.pointer (some ⟨(L j).B, 0, none⟩), .slice A N cp, .int .i64 (v : Nat)] w fun e w' => ∃ (g c' : Nat), e = .returned (.slice (some ⟨g, 0, none⟩) N c') ∧ Slc w' w.heap.size (some ⟨g, 0, none⟩) N c' (compL (c.rep j y) m) ∧ Below w.heap.size w w' :=
  (implWith base N k j cp M c L A m (v : Nat) w hc hkj hjN hr hm hP).mono fun e w' h => by
    obtain ⟨A', n', c', rfl, (⟨_, _, _, hno⟩ | ⟨g, y2, rfl, rfl, hy2, hyv2, _, hs⟩), b⟩ := h
    · exact absurd (hno y hy (by rw [hyv])) hyr
    · obtain rfl : y2 = y := hP.out.inj hy2 hy (by omega)
      exact ⟨g, c', rfl, hs, b⟩

def ChooseOK (w0 : World) (N lo ball bch : Nat) (gs : List (List Int)) (os : List Int) (L : Nat → LK) (i : Nat) : Prop :=
  ∀ (A Am : Option Addr) (n c cm : Nat) (us : List SV) (l : List (List Int)) (m : List Int) (w : World), Below w0.heap.size w0 w → lo ≤ w.heap.size → Blk w ball 24 #[.slice A n c] → Blk w bch 125 #[.func (.func 133) #[] #[.pointer (some ⟨ball, 0, none⟩), .pointer (some ⟨bch, 0, none⟩)]] →
    SS w lo lo A n c us l → Mb gs N m → Rd w (Tb ball A n c) (Am, N, cm) m → (i = N → Slc w lo Am N cm m ∧ ∀ t, t < n → (sval (us.getD t sd0)).ownBlock = none ∨ (sval (us.getD t sd0)).ownBlock ≠ (sval (Am, N, cm)).ownBlock) → (l.length : Int) + pr os i (N - i) ≤ 3000 →
    Calls Try.prog 133 #[ptr N L i, .slice Am N cm, .pointer (some ⟨ball, 0, none⟩), .pointer (some ⟨bch, 0, none⟩)] w fun e w' => e = .returned (.tuple #[]) ∧ ∃ (A' : Option Addr) (n' c' : Nat) (us' : List SV) (l' : List (List Int)),
      Blk w' ball 24 #[.slice A' n' c'] ∧ SS w' lo lo A' n' c' us' (l ++ l') ∧ Sub N gs i m l' ∧ (∀ b, Tb ball A' n' c' b → Tb ball A n c b ∨ w.heap.size ≤ b) ∧ Chg w w' (Tb ball A n c)

set_option maxHeartbeats 4000000 in
set_option maxRecDepth 100000 in
theorem choose_end (w0 : World) (N lo ball bch : Nat) (gs : List (List Int)) (os : List Int) (L : Nat → LK) (hg : Hid (∀ g ∈ gs, Pn N g)) (h1 : 1 ≤ N) (h2 : N ≤ 20) (hbl : ball < lo) : ChooseOK w0 N lo ball bch gs os L N := by
  intro A Am n c cm us l m w bel hlo hba hbc hss hmb hrd hown hcnt
  obtain ⟨hsl, hdis⟩ := hown rfl
  have Ss := Lib.hid hss
  have Sl := Lib.hid hsl
  have Di := Lib.hid hdis
  have One := Lib.hid (Sub.one hg.out h1 h2 hmb)
  have hn3 : n ≤ 3000 := by
    rw [Nat.sub_self] at hcnt
    have hcnt : (l.length : Int) + 1 ≤ 3000 := hcnt
    have := hss.lx
    omega
  have c0 : w.cell? ⟨ball, 0, none⟩ = some (.slice A n c) := hba.cell 0
  have hnr : some ball ≠ (Value.slice A n c).ownBlock := fun e => by have := (hss.lt_ ball e.symm).1; omega
  have PA : Hid (∀ (A3 : Option Addr) (c3 : Nat) (w3 : World), SS w3 lo lo A3 (n + 1) c3 (us ++ [(Am, N, cm)]) (l ++ [m]) → (w.alloc (.cells #[.slice Am N cm] 33)).grownBy w3 (Value.slice A n c).ownBlock → ((Value.slice A3 (n + 1) c3).ownBlock = (Value.slice A n c).ownBlock ∨ (Value.slice A3 (n + 1) c3).ownBlock = some (w.alloc (.cells #[.slice Am N cm] 33)).heap.size) →
      w3.cell? ⟨ball, 0, none⟩ = some (.slice A n c) ∧ w3.frozen? ⟨ball, 0, none⟩ = false ∧ Hid (Blk (w3.setCell ⟨ball, 0, none⟩ (.slice A3 (n + 1) c3)) ball 24 #[.slice A3 (n + 1) c3] ∧ SS (w3.setCell ⟨ball, 0, none⟩ (.slice A3 (n + 1) c3)) lo lo A3 (n + 1) c3 (us ++ [(Am, N, cm)]) (l ++ [m]) ∧ (∀ b, Tb ball A3 (n + 1) c3 b → Tb ball A n c b ∨ w.heap.size ≤ b) ∧ Chg w (w3.setCell ⟨ball, 0, none⟩ (.slice A3 (n + 1) c3)) (Tb ball A n c))) := Lib.hid fun A3 c3 w3 s3 g3 h3 => by
    have b3 := (hba.alloc (.cells #[.slice Am N cm] 33)).grown g3 hnr
    refine ⟨b3.cell 0, b3.frozen 0, Lib.hid ⟨by simpa using b3.set_ 0 (.slice A3 (n + 1) c3), s3.chgS (chg_cellT _ _ _) (fun b e => by rw [e]; exact hbl), fun b e => ?_, ?_⟩⟩
    · rcases e with e | e
      · exact .inl (.inl e)
      · rcases h3 with h | h
        · exact .inl (.inr (by rw [← h]; exact e))
        · rw [h] at e; injection e with e; exact .inr (by simp at e; omega)
    · refine ((Chg.of_below (M := Tb ball A n c) ((Below.refl w.heap.size w).alloc (Nat.le_refl _) _)).trans (.of_grown (M := Tb ball A n c) g3 fun k e => .inr e) fun k e => .inl e).trans (chg_cellT _ _ _) fun k e => .inl (.inl e)
  have Fin := PA
  clear hba hbc hss hmb hrd hown hcnt hsl hdis hnr Fin
  rw [ptr_end (Nat.le_refl _)]
  go_enter Try.func133, Try.ntmps133
  go_wp2_with (first | (at_builtin; refine wpList_app2_at rfl _ _ rfl rfl (Ss.out.alloc _) w.heap.size Am N cm m rfl (by rw [World.cell?_alloc_at _ _ _ _ rfl]; rfl) (Sl.out.alloc _) Di.out (by omega) (by simp; omega) ?_; intro A3 c3 w3 s3 g3 h3; obtain ⟨v1, v2, v3⟩ := PA.out A3 c3 w3 s3 g3 h3; clear s3 g3 h3))
  (try simp only [Exit.inBlock, Exit.then]); refine bodyPost_ret (results_none rfl _ _ _) rfl ?_
  exact ⟨rfl, A3, n + 1, c3, _, [m], v3.out.1, v3.out.2.1, One.out, v3.out.2.2.1, v3.out.2.2.2⟩

set_option maxHeartbeats 8000000 in
set_option maxRecDepth 100000 in
theorem choose_step (w0 : World) (base N lo ball bch i : Nat) (gs : List (List Int)) (M : Nat → Prop) (ch : Ch) (L : Nat → LK) (hc0 : Hid (Ck w0 base N 0 M ch L)) (ho : Orbs N 0 ch L) (hw : Hid (Whole N gs ch)) (hg : Hid (∀ g ∈ gs, Pn N g)) (h1 : 1 ≤ N) (h2 : N ≤ 20) (hi : i < N) (hb0 : w0.heap.size ≤ ball) (hbl : ball < lo) (hcl : bch < lo) (hne : bch ≠ ball)
    (ih : ChooseOK w0 N lo ball bch gs (osL N ch N) L (i + 1)) : ChooseOK w0 N lo ball bch gs (osL N ch N) L i := by
  intro A Am n c cm us l m w bel hlo hba hbc hss hmb hrd hown hcnt
  have HO := Lib.hid ho
  have Os := Lib.hid (hw.out.os h1 h2)
  have C0 := Lib.hid (hc0.out.up bel)
  have Rm := Lib.hid hrd
  have Mb0 := Lib.hid hmb
  have Ss0 := Lib.hid hss
  have Ba0 := Lib.hid hba
  have Bc0 := Lib.hid hbc
  have Be0 := Lib.hid bel
  have hbaw := hba.lt
  have Cn := Lib.hid hcnt
  have PM := Lib.hid (hmb.pn hg.out h1 h2)
  have ST : Hid (∀ b, Tb ball A n c b → b < w.heap.size) := Lib.hid fun b e => by
    rcases e with e | e
    · omega
    · exact (hss.lt_ b e).2
  clear ho hba hbc hss hmb hrd hown hcnt bel
  rw [ptr_at hi]
  go_enter Try.func133, Try.ntmps133
  go_wp2_with fail
  refine (implValues base N 0 i cm M ch L gs Am m w C0.out HO.out hw (Nat.zero_le _) hi h1 h2 hg Rm.out.ri Mb0).mono ?_
  rintro e w2 ⟨g, nz, cz, zs, rfl, s2, hn1, hn20, chl, b2⟩
  have Chl := Lib.hid chl
  have Lz : Hid (zs.length = nz) := Lib.hid s2.1
  obtain ⟨cn, hcn, hcc⟩ := agree_card Os.out hg.out h1 h2 (i := i + 1) (by omega) Mb0.out
  have hfr : pr (osL N ch N) i (N - i) = ((nz * cn : Nat) : Int) := by
    have hlen := chl.len Os.out hg.out h1 h2 hi Mb0.out
    rw [show N - i = N - (i + 1) + 1 by omega, pr_front, hcc, ← hlen, s2.1, Int.natCast_mul]
  have Cc := Lib.hid hcc
  have Ct : Hid (l.length + nz * cn ≤ 3000) := Lib.hid (by have := Cn.out; rw [hfr] at this; omega)
  have Zs : Hid (Rd w2 (Tb ball A n c) (some ⟨g, 0, none⟩, nz, cz) zs) := Lib.hid (Rd.of_slc (d := (some ⟨g, 0, none⟩, nz, cz)) s2 ST.out)
  have Rm2 : Hid (Rd w2 (Tb ball A n c) (Am, N, cm) m) := Lib.hid (Rm.out.up b2)
  have Ss2 := Lib.hid (Ss0.out.up b2)
  have Ba2 := Lib.hid (Ba0.out.below b2 Ba0.out.lt)
  have Bc2 := Lib.hid (Bc0.out.below b2 Bc0.out.lt)
  have Be2 : Hid (Below w0.heap.size w0 w2) := Lib.hid (btr Be0.out b2)
  have Cg2 : Hid (Chg w w2 (Tb ball A n c)) := Lib.hid (.of_below b2)
  clear s2 chl b2 hcn hcc hfr
  go_wp2_with fail
  go_loopg [7, 18] nz (fun gg _ iv wr => ∃ (t : Nat) (A' : Option Addr) (n' c' : Nat) (us' : List SV) (l' : List (List Int)), t ≤ nz ∧ nz - t ≤ gg ∧ iv = .int .i64 (t : Nat) ∧ Blk wr ball 24 #[.slice A' n' c'] ∧ Blk wr bch 125 #[.func (.func 133) #[] #[.pointer (some ⟨ball, 0, none⟩), .pointer (some ⟨bch, 0, none⟩)]] ∧
    SS wr lo lo A' n' c' us' (l ++ l') ∧ SubT N gs i m zs t l' ∧ l'.length = t * cn ∧ (∀ b, Tb ball A' n' c' b → Tb ball A n c b ∨ w.heap.size ≤ b) ∧ Chg w wr (Tb ball A n c) ∧ Rd wr (Tb ball A' n' c') (Am, N, cm) m ∧ Rd wr (Tb ball A' n' c') (some ⟨g, 0, none⟩, nz, cz) zs ∧ Below w0.heap.size w0 wr)
  case atStart => exact ⟨0, A, n, c, us, [], Nat.zero_le _, by omega, rfl, Ba2.out, Bc2.out, by rw [List.append_nil]; exact Ss2.out, SubT.zero, by rw [Nat.zero_mul]; rfl, fun b e => .inl e, Cg2.out, Rm2.out, Zs.out, Be2.out⟩
  case round =>
    clear Zs Rm2 Ss2 Ba2 Bc2 Be2 Cg2
    obtain ⟨t, A', n', c', us', l', ht, hgg, rfl, hba, hbc, hss, hsb, hll, htb, hcg, hrm, hzs, bel⟩ := hrel
    have Ba := Lib.hid hba
    have Bc := Lib.hid hbc
    have Ss := Lib.hid hss
    have Sb := Lib.hid hsb
    have Ll := Lib.hid hll
    have Tt := Lib.hid htb
    have Cg := Lib.hid hcg
    have Rm1 := Lib.hid hrm
    have Zs := Lib.hid hzs
    have Be := Lib.hid bel
    have C1 := Lib.hid (hc0.out.up bel)
    have hzr := hcg.size
    have hz0 := bel.size
    clear hba hbc hss hsb hll htb hcg hrm hzs bel
    by_cases hlt : t < nz
    · have hzm : zs.getD t 0 ∈ zs := by rw [gdx' (by rw [Lz.out]; exact hlt)]; exact List.getElem_mem _
      obtain ⟨v, hv, _⟩ := Chl.out.bnd hg.out h1 h2 hi hzm
      obtain ⟨zb, zo, ez, hzb, _, hzc⟩ := Zs.out.at_ (by rw [Lz.out]; omega)
      have x9 := hzc t (by rw [Lz.out]; exact hlt)
      have ez2 : (some ⟨g, 0, none⟩ : Option Addr) = some ⟨zb, zo, none⟩ := ez
      injection ez2 with ez2
      injection ez2 with f1 f2 _
      subst f1 f2
      rw [Nat.zero_add, hv] at x9
      rw [hv] at hzm
      obtain ⟨y0, hy0, hyv, hry⟩ := hw.out.pick h1 h2 hg.out hi Mb0.out Chl.out hzm
      have Pk := Lib.hid (hw.out.picked h1 h2 hg.out hi Mb0.out hry)
      have Y0 : Hid (y0 < N ∧ nx m y0 = v ∧ ch.rep i y0 ≠ []) := Lib.hid ⟨hy0, by omega, hry⟩
      have Hv := Lib.hid hv
      obtain ⟨m', hm'⟩ : ∃ m', compL (ch.rep i y0) m = m' := ⟨_, rfl⟩
      have Em := Lib.hid hm'
      have x1 : wr.cell? ⟨bch, 0, none⟩ = some (.func (.func 133) #[] #[.pointer (some ⟨ball, 0, none⟩), .pointer (some ⟨bch, 0, none⟩)]) := Bc.out.cell 0
      have x2 := (C1.out.cB (Nat.zero_le _) hi).2.2.2.2
      have z0 : (0 : Int) ≤ t := by omega
      have z1 : (t : Int) < nz := by omega
      have hkk : l.length + t * cn + cn ≤ 3000 := by
        have h3 : (t + 1) * cn ≤ nz * cn := Nat.mul_le_mul_right cn hlt
        rw [Nat.succ_mul] at h3
        have := Ct.out
        omega
      have hB : (L i).B < wr.heap.size := (C1.out.lk i (Nat.zero_le _) hi).blk.lt
      have hbcw : bch < wr.heap.size := Bc.out.lt
      have ST1 : Hid (∀ b, Tb ball A' n' c' b → b < wr.heap.size) := Lib.hid fun b e => by
        rcases e with e | e
        · rw [e]; exact Ba.out.lt
        · exact (Ss.out.lt_ b e).2
      have NT : Hid (∀ b, Tb ball A' n' c' b → b ≠ bch ∧ w0.heap.size ≤ b) := Lib.hid fun b e => by
        rcases e with e | e
        · rw [e]; exact ⟨fun h => hne h.symm, hb0⟩
        · have := (Ss.out.lt_ b e).1
          exact ⟨by omega, by omega⟩
      clear ez hzb hzc hzm hy0 hyv hry hv hm'
      go_wp2_with fail
      go_region_held3 (fun w' => w'.cell? ⟨bch, 0, none⟩ = some (.func (.func 133) #[] #[.pointer (some ⟨ball, 0, none⟩), .pointer (some ⟨bch, 0, none⟩)]) ∧ w'.cell? ⟨(L i).B, 4, none⟩ = some (ptr N L (i + 1)))
        (first | exact ⟨x1, x2⟩ | exact hS1 | exact hS2 | go_keep)
        (first
          | (go_at_call 112; refine (implWithY base N 0 i cm M ch L Am m v y0 _ ?_ (Nat.zero_le _) hi ?_ ?_ PM Y0.out.1 Y0.out.2.1 Y0.out.2.2).mono ?_; (exact C1.out.up ⟨rfl, rfl, rfl, Nat.le_refl _, fun _ _ => rfl⟩); (exact Lib.hid (hw.out.up.rep i (Nat.zero_le _) hi)); (exact Rm1.out.ri); rintro e w3 ⟨g3, c3, rfl, s3', b3'⟩; have b3 : Below wr.heap.size wr w3 := ⟨b3'.os, b3'.tape, b3'.output, b3'.size, b3'.block⟩; have s3 : Slc w3 wr.heap.size (some ⟨g3, 0, none⟩) N c3 m' := by rw [← Em.out]; exact s3'
             have hS1 := And.intro ((b3.cell (p := ⟨bch, 0, none⟩) hbcw).trans x1) ((b3.cell (p := ⟨(L i).B, 4, none⟩) hB).trans x2))
          | (go_at_call 133; refine (ih A' (some ⟨g3, 0, none⟩) n' c' c3 us' (l ++ l') m' w3 ?_ ?_ ?_ ?_ ?_ ?_ ?_ ?_ ?_).mono ?_; (exact btr Be.out b3); (exact Nat.le_trans (Nat.le_trans hlo hzr) b3.size); (exact Ba.out.below b3 Ba.out.lt); (exact Bc.out.below b3 Bc.out.lt); (exact Ss.out.up b3); (rw [← Em.out]; exact Pk.out.1); (exact Rd.of_slc (d := (some ⟨g3, 0, none⟩, N, c3)) s3 ST1.out); (exact fun _ => ⟨s3.mono (Nat.le_trans hlo hzr), lies_dis Ss.out s3.lies (Nat.le_refl _)⟩); (rw [List.length_append, Ll.out, Cc.out]; omega)
             rintro e w4 ⟨rfl, A4, n4, c4, us4, l4, ba4, ss4, sb4, tb4, cg4⟩
             have cg5 : Chg wr w4 (Tb ball A' n' c') := (Chg.of_below (M := Tb ball A' n' c') b3).trans cg4 fun k e => .inl e
             have bc4 := Bc.out.chg cg5 (fun e => (NT.out bch e).1 rfl)
             have be4 : Below w0.heap.size w0 w4 := Be.out.trans (cg5.below (fun k e => (NT.out k e).2) hz0)
             have hS2 := And.intro (bc4.cell 0) (((hc0.out.up be4).cB (Nat.zero_le _) hi).2.2.2.2)))
      have T4 : Hid (∀ b, Tb ball A4 n4 c4 b → Tb ball A' n' c' b ∨ wr.heap.size ≤ b) := Lib.hid fun b e => by
        rcases tb4 b e with h | h
        · exact .inl h
        · exact .inr (Nat.le_trans b3.size h)
      have R1 : Hid (Blk w4 ball 24 #[.slice A4 n4 c4]) := Lib.hid ba4
      have R2 := Lib.hid bc4
      have R3 : Hid (SS w4 lo lo A4 n4 c4 us4 (l ++ (l' ++ l4))) := Lib.hid (by rw [← List.append_assoc]; exact ss4)
      have R4 : Hid (SubT N gs i m zs (t + 1) (l' ++ l4)) := Lib.hid (Sb.out.next sb4 Chl.out.1 hi (by rw [Lz.out]; exact hlt) (by rw [← Em.out]; exact Pk.out.2.1) (by rw [← Em.out, Pk.out.2.2, Y0.out.2.1, Hv.out]))
      have R5 : Hid ((l' ++ l4).length = (t + 1) * cn) := Lib.hid (by
        have := sb4.len Os.out hg.out h1 h2 (by omega) (by rw [← Em.out]; exact Pk.out.1)
        rw [Cc.out] at this
        rw [List.length_append, Ll.out, Nat.succ_mul]; omega)
      have R6 : Hid (∀ b, Tb ball A4 n4 c4 b → Tb ball A n c b ∨ w.heap.size ≤ b) := Lib.hid fun b e => by
        rcases T4.out b e with h | h
        · exact Tt.out b h
        · exact .inr (Nat.le_trans hzr h)
      have R7 : Hid (Chg w w4 (Tb ball A n c)) := Lib.hid (Cg.out.trans cg5 Tt.out)
      have R8 : Hid (Rd w4 (Tb ball A4 n4 c4) (Am, N, cm) m) := Lib.hid (Rm1.out.keep cg5 (fun _ e => e) T4.out)
      have R9 : Hid (Rd w4 (Tb ball A4 n4 c4) (some ⟨g, 0, none⟩, nz, cz) zs) := Lib.hid (Zs.out.keep cg5 (fun _ e => e) T4.out)
      have R10 := Lib.hid be4
      clear ba4 ss4 sb4 tb4 cg4 cg5 bc4 be4 b3 s3 hS1 hS2
      go_wp2_with fail
      go_roundg (nz - (t + 1))
      case rel => exact ⟨t + 1, A4, n4, c4, us4, l' ++ l4, by omega, by omega, by go_num, R1.out, R2.out, R3.out, R4.out, R5.out, R6.out, R7.out, R8.out, R9.out, R10.out⟩
      case measure => omega
    · obtain rfl : t = nz := by omega
      have Fin : Hid (Sub N gs i m l') := Lib.hid (by
        have := Sb.out
        rw [← Lz.out] at this
        exact this.all Chl.out)
      go_wp2_with fail
      go_end0
      exact ⟨rfl, A', n', c', us', l', Ba.out, Ss.out, Fin.out, Tt.out, Cg.out⟩
theorem choose_all (w0 : World) (base N lo ball bch : Nat) (gs : List (List Int)) (M : Nat → Prop) (ch : Ch) (L : Nat → LK) (hc0 : Hid (Ck w0 base N 0 M ch L)) (ho : Orbs N 0 ch L) (hw : Hid (Whole N gs ch)) (hg : Hid (∀ g ∈ gs, Pn N g)) (h1 : 1 ≤ N) (h2 : N ≤ 20) (hb0 : w0.heap.size ≤ ball) (hbl : ball < lo) (hcl : bch < lo) (hne : bch ≠ ball) :
    ∀ d i, i + d = N → ChooseOK w0 N lo ball bch gs (osL N ch N) L i
  | 0, i, e => by
    obtain rfl : i = N := by omega
    exact choose_end w0 i lo ball bch gs _ L hg h1 h2 hbl
  | d + 1, i, e => choose_step w0 base N lo ball bch i gs M ch L hc0 ho hw hg h1 h2 (by omega) hb0 hbl hcl hne (choose_all w0 base N lo ball bch gs M ch L hc0 ho hw hg h1 h2 hb0 hbl hcl hne d (i + 1) (by omega))

set_option maxHeartbeats 4000000 in
set_option maxRecDepth 100000 in
/-- members, of a whole chain of at most 3000. -/
theorem implMembersC (base N V : Nat) (gs : List (List Int)) (M : Nat → Prop) (ch : Ch) (L : Nat → LK) (w : World) (hc : Ck w base N 0 M ch L) (ho : Orbs N 0 ch L) (hw : Hid (Whole N gs ch)) (h1 : 1 ≤ N) (h2 : N ≤ 20) (hg : Hid (∀ g ∈ gs, Pn N g)) (hV : Hid (pr (osL N ch N) 0 N = (V : Int))) (hV3 : V ≤ 3000) :
    Calls Try.prog 115 #[.pointer (some ⟨(L 0).B, 0, none⟩)] w fun e w' => ∃ (A : Option Addr) (n c : Nat) (us : List SV) (l : List (List Int)), e = .returned (.slice A n c) ∧ SS w' w.heap.size w.heap.size A n c us l ∧ Sub N gs 0 (idL N) l ∧ Below w.heap.size w w' := by
  have hmf : ∀ (fn : Fn) (first cap : Array Value) (w : World), (Instr.makeFunc fn first cap).run Try.prog w = .ok (.func fn first cap) w := fun _ _ _ _ => rfl
  have HC := Lib.hid hc
  have HO := Lib.hid ho
  obtain ⟨w3, hw3⟩ : ∃ w3, w3 = (w.alloc (.cells #[.slice none 0 0] 24)).alloc (.cells #[.func (.func 133) #[] #[.pointer (some ⟨w.heap.size, 0, none⟩), .pointer (some ⟨w.heap.size + 1, 0, none⟩)]] 125) := ⟨_, rfl⟩
  have hz3 : w3.heap.size = w.heap.size + 2 := by rw [hw3]; simp
  have b3 : Below w.heap.size w w3 := by rw [hw3]; exact ((Below.refl _ _).alloc (Nat.le_refl _) _).alloc (by simp) _
  have B3 := Lib.hid b3
  have Ba : Hid (Blk w3 w.heap.size 24 #[.slice none 0 0]) := Lib.hid (by rw [hw3]; exact (Blk.new w _ _).alloc _)
  have Bc : Hid (Blk w3 (w.heap.size + 1) 125 #[.func (.func 133) #[] #[.pointer (some ⟨w.heap.size, 0, none⟩), .pointer (some ⟨w.heap.size + 1, 0, none⟩)]]) := Lib.hid (by
    rw [hw3]
    have := Blk.new (w.alloc (.cells #[.slice none 0 0] 24)) 125 #[.func (.func 133) #[] #[.pointer (some ⟨w.heap.size, 0, none⟩), .pointer (some ⟨w.heap.size + 1, 0, none⟩)]]
    rw [World.size_alloc] at this
    exact this)
  have C3 := Lib.hid (hc.up b3)
  obtain ⟨b, off, cc, en, x5, hcc, hri⟩ := C3.out.mover0 hw.out h1
  have hrd := (hc.eM (Nat.le_refl _) (show 0 < N by omega) (y := 0) (by omega)).2 (by rw [rep00 hw.out h1]; exact idL_ne h1)
  rw [rep00 hw.out h1, en] at hrd
  have Rd3 : Hid (Rd w3 (Tb w.heap.size none 0 0) (some ⟨b, off, none⟩, N, cc) (idL N)) := Lib.hid (hrd.keep (S := fun _ => False) (.of_below b3) (fun _ e => e.elim) fun x e => by
    rcases e with e | e
    · exact .inr (by omega)
    · cases e)
  obtain ⟨x0, x1, x2, x3, x4⟩ := C3.out.cB (Nat.le_refl _) (show 0 < N by omega)
  have x6 : w3.cell? ⟨w.heap.size + 1, 0, none⟩ = some (.func (.func 133) #[] #[.pointer (some ⟨w.heap.size, 0, none⟩), .pointer (some ⟨w.heap.size + 1, 0, none⟩)]) := Bc.out.cell 0
  have CA := choose_all w base N (w.heap.size + 2) w.heap.size (w.heap.size + 1) gs M ch L HC HO.out hw hg h1 h2 (Nat.le_refl _) (by omega) (by omega) (by omega) N 0 (by omega)
  have K : Hid (∀ q, Calls Try.prog 133 #[.pointer (some ⟨(L 0).B, 0, none⟩), .slice (some ⟨b, off, none⟩) N cc, .pointer (some ⟨w.heap.size, 0, none⟩), .pointer (some ⟨w.heap.size + 1, 0, none⟩)] (w3.drewN q) fun e w' => e = .returned (.tuple #[]) ∧ ∃ (A' : Option Addr) (n' c' : Nat) (us' : List SV) (l' : List (List Int)),
      Blk w' w.heap.size 24 #[.slice A' n' c'] ∧ SS w' w.heap.size w.heap.size A' n' c' us' l' ∧ Sub N gs 0 (idL N) l' ∧ Chg w3 w' (fun b => b = w.heap.size)) := Lib.hid fun q => by
    have KK := CA none (some ⟨b, off, none⟩) 0 0 cc [] [] (idL N) (w3.drewN q) (btr b3 (pcDrewBelow w3 q)) (by show w.heap.size + 2 ≤ w3.heap.size; omega) Ba.out Bc.out SS.nil_ .one (Rd3.out.up (pcDrewBelow w3 q)) (fun e => by omega) (by
      rw [Nat.sub_zero, hV.out]; simp; omega)
    rw [ptr_at (by omega)] at KK
    refine KK.mono fun e w' h => ?_
    obtain ⟨h0, A', n', c', us', l', a1, a2, a3, _, a5⟩ := h
    refine ⟨h0, A', n', c', us', l', a1, by rw [List.nil_append] at a2; exact a2.mono (by omega) (by omega), a3, a5.os, a5.tape, a5.output, a5.size, fun k hk hn => a5.block k hk fun e => ?_⟩
    rcases e with e | e
    · exact hn e
    · cases e
  have hB0 : (L 0).B < w.heap.size := (hc.lk 0 (Nat.le_refl _) (by omega)).blk.lt
  have hm0 : (L 0).mb < w.heap.size := (hc.mlt _ (hc.mm 0 3 _ (Nat.le_refl _) (by omega) (by decide) rfl)).2
  have p0 : (0 : Int) ≤ (0 : Nat) := by omega
  have p1 : ((0 : Nat) : Int) < N := by omega
  have p2 : (0 : Int) < N := by omega
  have p3 : 0 < N := by omega
  have Hw3 := Lib.hid hw3
  clear hc ho hw3 b3 en hri hrd x1 x2 x4 CA
  go_enter Try.func115, Try.ntmps115
  go_wp2_with fail
  rw [← Hw3.out]
  go_region_held3 (fun w' => w'.cell? ⟨w.heap.size + 1, 0, none⟩ = some (.func (.func 133) #[] #[.pointer (some ⟨w.heap.size, 0, none⟩), .pointer (some ⟨w.heap.size + 1, 0, none⟩)]) ∧ w'.cell? ⟨(L 0).B, 3, none⟩ = some (.slice (some ⟨(L 0).mb, 0, none⟩) N N) ∧ w'.cell? ⟨(L 0).B, 0, none⟩ = some (.int .i64 (0 : Nat)) ∧ w'.cell? ⟨(L 0).mb, 0, none⟩ = some (.slice (some ⟨b, off, none⟩) N cc))
    (first | exact ⟨x6, x3, x0, x5⟩ | exact hS1 | go_keep)
    (first
      | (go_at_call 133; refine (K.out _).mono ?_; rintro e w4 ⟨rfl, A4, n4, c4, us4, l4, ba4, ss4, sb4, cg4⟩
         have hk4 : ∀ x y, x < w3.heap.size → x ≠ w.heap.size → w4.cell? ⟨x, y, none⟩ = w3.cell? ⟨x, y, none⟩ := fun x y h h' => World.cell?_of_block (cg4.block x h h')
         have hS1 := And.intro ((hk4 (w.heap.size + 1) 0 (by omega) (by omega)).trans x6) (And.intro ((hk4 (L 0).B 3 (by omega) (by omega)).trans x3) (And.intro ((hk4 (L 0).B 0 (by omega) (by omega)).trans x0) ((hk4 (L 0).mb 0 (by omega) (by omega)).trans x5)))))
  have z1 : w4.cell? ⟨w.heap.size, 0, none⟩ = some (.slice A4 n4 c4) := ba4.cell 0
  have S4 := Lib.hid ss4
  have Sb := Lib.hid sb4
  have B4 : Hid (Below w.heap.size w w4) := Lib.hid (B3.out.trans (cg4.below (B := w.heap.size) (fun k e => by omega) (by omega)))
  clear ba4 ss4 sb4 cg4 x6 x3 x0 x5 hS1
  go_wp2_with fail
  go_ret
  exact ⟨_, _, _, _, _, rfl, S4.out, Sb.out, B4.out⟩

set_option maxHeartbeats 4000000 in
set_option maxRecDepth 100000 in
/-- Members; nil where there are none. -/
theorem implMembersN (a : Int) (A : Option Addr) (n c : Nat) (vs : List SV) (xss : List (List Int)) (w : World) (g : GIn w A n vs xss) :
    Calls Try.prog 84 #[.int .i64 a, .slice A n c] w fun e w' => ∃ A' m c' us l, e = .returned (.slice A' m c') ∧ SS w' w.heap.size w.heap.size A' m c' us l ∧ IsMbs a xss l ∧ (l = [] → A' = none) ∧ Below w.heap.size w w' := by
  have HX := Lib.hid g.rr
  have hlx : Hid (xss.length = n) := Lib.hid g.rr.lx
  have hn := g.hn
  have hl := Lib.hid g.hl
  clear g
  go_enter Try.func84, Try.ntmps84
  go_wp2_with fail
  refine (implGS a A n c vs xss w HX.out hn hl).mono ?_
  rintro e w1 ⟨rfl, b1⟩
  have B1 := Lib.hid b1
  have X1 := Lib.hid (HX.out.up b1)
  clear b1
  rcases hs : gB a xss with _ | _
  · have Fin : Hid (IsMbs a xss []) := Lib.hid (.inr ⟨fun h => (by have := h.1; rw [hs] at this; cases this), rfl⟩)
    clear hs
    go_wp2_with fail
    go_ret
    exact ⟨_, _, _, _, _, rfl, SS.nil_, Fin.out, fun _ => rfl, B1.out⟩
  · obtain ⟨N, rfl, hN1, hN2, hg8, hpm, hok⟩ := gB_pm hs
    have Hs := Lib.hid hs
    have Ok : Hid (∀ g ∈ xss, Pn N g) := Lib.hid hok
    have hn8 : n ≤ 8 := by rw [← hlx.out]; exact hg8
    clear hs hpm hok hg8
    go_wp2_with fail
    refine (implChainOf N n c A vs xss w1 X1.out hN1 hN2 hn8 Ok).mono ?_
    rintro e w2 ⟨ch, L, M, rfl, hc, ho, hw, b2⟩
    have W2 := Lib.hid hw
    have C2 := Lib.hid hc
    have O2 := Lib.hid ho
    have B2 : Hid (Below w.heap.size w w2) := Lib.hid (btr B1.out b2)
    obtain ⟨V, hV, eV, hVb⟩ := (hw.os hN1 hN2).ordB Ok.out hN1 hN2
    have eV' : pr (osL N ch N) 0 N = (V : Int) := by rw [prodL_pr, osL_len] at eV; exact eV
    have HV := Lib.hid hV
    have EV := Lib.hid eV'
    have K := implOrder w1.heap.size N 0 0 M ch L xss w2 hc ho W2 (Nat.le_refl _) (Nat.zero_le _) hN1 hN2 Ok
    rw [ptr_at (by omega), Nat.sub_zero, eV'] at K
    clear hc ho hw b2 hV eV eV'
    by_cases hV3 : V ≤ 3000
    · have d0 : decide ((3000 : Int) < (V : Int)) = false := by simp; omega
      have Few0 : Hid (Few (N : Int) xss) := Lib.hid ⟨Hs.out, V, by rw [Int.toNat_natCast]; exact HV.out, hV3⟩
      go_wp2_with fail
      refine K.mono ?_
      rintro e w' ⟨rfl, rfl⟩
      clear K
      go_wp2_with fail
      refine (implMembersC w1.heap.size N V xss M ch L w2 C2.out O2.out W2 hN1 hN2 Ok EV hV3).mono ?_
      rintro e w4 ⟨A4, n4, c4, us4, l4, rfl, s4, sb4, b4⟩
      have S4 : Hid (SS w4 w.heap.size w.heap.size A4 n4 c4 us4 l4) := Lib.hid (s4.mono B2.out.size B2.out.size)
      have Fin : Hid (IsMbs (N : Int) xss l4) := Lib.hid (.inl ⟨Few0.out, by rw [Int.toNat_natCast]; exact sb4.srt, fun p => by rw [Int.toNat_natCast, sb4.mem]; exact ⟨fun h => h.1, fun h => ⟨h, fun t ht => absurd ht (Nat.not_lt_zero _)⟩⟩⟩)
      have Ne : Hid (l4 ≠ []) := Lib.hid fun e => by
        have := (sb4.mem (idL N)).2 ⟨.one, fun t ht => absurd ht (Nat.not_lt_zero _)⟩
        rw [e] at this; cases this
      have B4 : Hid (Below w.heap.size w w4) := Lib.hid (btr B2.out b4)
      clear s4 sb4 b4
      go_wp2_with fail
      go_ret
      exact ⟨_, _, _, _, _, rfl, S4.out, Fin.out, fun e => absurd e Ne.out, B4.out⟩
    · have d0 : decide ((3000 : Int) < (V : Int)) = true := by simp; omega
      have Fin : Hid (IsMbs (N : Int) xss []) := Lib.hid (.inr ⟨fun ⟨_, V', h, h'⟩ => (by rw [Int.toNat_natCast] at h; have := h.uniq HV.out; omega), rfl⟩)
      go_wp2_with fail
      refine K.mono ?_
      rintro e w' ⟨rfl, rfl⟩
      clear K
      go_wp2_with fail
      go_ret
      exact ⟨_, _, _, _, _, rfl, SS.nil_, Fin.out, fun _ => rfl, B2.out⟩
/-- Members. -/
theorem implMembers : CtImM 84 IsMbs := fun a A n c vs xss w g _ =>
  (implMembersN a A n c vs xss w g).mono fun _ _ ⟨A', m, c', us, l, h0, h1, h2, _, h4⟩ => ⟨A', m, c', us, l, h0, h1, h2, h4⟩
end Go.Proofs.Ytcjcmhoalomjfaa

/- The program's commutesWithAll, IsNormalSubgroup, IsAbelian, CenterOrder. Conditions: at most 1048576 lists of at most 1048576 numbers. -/
namespace Go.Proofs.Ytcjcmhoalomjfaa
open Go.RowKit

set_option maxHeartbeats 400000 in
/-- slices.Equal of two lists that can be read. -/
theorem sEqP_core (A B : Option Addr) (c d n : Nat) (xs ys : List Int) (w : World) (hx : RI w w.heap.size A xs) (hy : RI w w.heap.size B ys) (lx : Hid (xs.length = n)) (ly : Hid (ys.length = n)) (hn : n ≤ 2097152) :
    Calls Try.prog 116 #[.slice A n c, .slice B n d] w fun e w' => e = .returned (.bool (decide (xs = ys))) ∧ ∃ m, w' = w.drewN m := by
  go_enter Try.func116, Try.ntmps116
  go_wp2
  go_loopw [5, 13] (fun _ i wr => ∃ k : Nat, k ≤ n ∧ i = .int .i64 k ∧ (∀ j, j < k → xs.getD j 0 = ys.getD j 0) ∧ ∃ m, wr = w.drewN m) (fun _ i _ => n - (intOf i).toNat)
  case atStart => exact ⟨0, Nat.zero_le _, rfl, fun j h => absurd h (by omega), 0, rfl⟩
  case round =>
    obtain ⟨k, hk, rfl, heq, m, rfl⟩ := hrel
    have Heq := Lib.hid heq
    clear heq
    by_cases hlt : k < n
    · obtain ⟨b, off, rfl, hb, hc⟩ := hx (by rw [lx.out]; omega)
      obtain ⟨b', off', rfl, hb', hc'⟩ := hy (by rw [ly.out]; omega)
      have c1 := hc k (by rw [lx.out]; omega)
      have c2 := hc' k (by rw [ly.out]; omega)
      obtain ⟨x, ex⟩ : ∃ x, xs.getD k 0 = x := ⟨_, rfl⟩
      obtain ⟨y, ey⟩ : ∃ y, ys.getD k 0 = y := ⟨_, rfl⟩
      rw [ex] at c1
      rw [ey] at c2
      have Ex := Lib.hid ex
      have Ey := Lib.hid ey
      clear ex ey hc hc' hx hy
      have p1 : (0 : Int) ≤ k := by omega
      have p2 : (k : Int) < n := by omega
      by_cases hxy : x = y
      · subst hxy
        go_wp2
        go_quiet (fail)
        go_wp2
        go_roundw
        case rel => exact ⟨k + 1, by omega, by go_num, fun j hj => by
          by_cases e : j = k
          · subst e; rw [Ex.out, Ey.out]
          · exact Heq.out j (by omega), _, rfl⟩
        case measure => simp [intOf]; omega
      · have hd : (x != y) = true := by simpa using hxy
        have hd' : (x == y) = false := by simpa using hxy
        go_wp2
        go_quiet (fail)
        go_wp2
        go_ret
        refine ⟨ret_bool (Eq.symm (decide_eq_false fun e => hxy ?_)), _, World.drewN_drewN _ _ _⟩
        rw [← Ex.out, ← Ey.out, e]
    · go_wp2
      go_ret
      have : k = n := by omega
      subst this
      exact ⟨ret_bool (Eq.symm (decide_eq_true (ext_getD lx.out ly.out Heq.out))), _, rfl⟩
theorem sEqP (A B : Option Addr) (c d n m : Nat) (xs ys : List Int) (w : World) (hx : RI w w.heap.size A xs) (hy : RI w w.heap.size B ys) (lx : Hid (xs.length = n)) (ly : Hid (ys.length = m)) (hn : n ≤ 2097152) (hm : m ≤ 2097152) :
    Calls Try.prog 116 #[.slice A n c, .slice B m d] w fun e w' => e = .returned (.bool (decide (xs = ys))) ∧ ∃ m, w' = w.drewN m := by
  by_cases hl : n = m
  · subst hl
    exact sEqP_core A B c d n xs ys w hx hy lx ly hn
  · have hd : ((n : Int) != (m : Int)) = true := by rw [bne_iff_ne]; omega
    have hd' : ((n : Int) == (m : Int)) = false := by rw [beq_eq_false_iff_ne]; omega
    go_enter Try.func116, Try.ntmps116
    go_wp2
    go_ret
    refine ⟨ret_bool (Eq.symm (decide_eq_false fun e => hl ?_)), 0, rfl⟩
    rw [← lx.out, ← ly.out, e]
theorem implCj (A B : Option Addr) (c d N : Nat) (p q : List Int) (w : World) (hp : RI w w.heap.size A p) (hq : RI w w.heap.size B q) (hP : Hid (Pn N p)) (hQ : Hid (Pn N q)) :
    Calls Try.prog 81 #[.slice A N c, .slice B N d] w fun e w' => ∃ A' c', e = .returned (.slice A' N c') ∧ Slc w' w.heap.size A' N c' (cj q p) ∧ Below w.heap.size w w' :=
  implConjBy A B c d N p q w hp hq (Lib.hid hP.out.2) (Lib.hid hQ.out.2) (Lib.hid hP.out.1) (Lib.hid hQ.out.1) hP.out.pos.2

set_option maxHeartbeats 4000000 in
set_option maxRecDepth 100000 in
/-- commutesWithAll. -/
theorem implCwa (N n c cp : Nat) (P A : Option Addr) (vs : List SV) (gs : List (List Int)) (p : List Int) (w : World) (hx : RR w w.heap.size A n vs gs) (hp : RI w w.heap.size P p) (hP : Hid (Pn N p)) (hn8 : n ≤ 8) (ok : Hid (∀ g ∈ gs, Pn N g)) (ans : Bool) (ha : Hid (cwB gs p = ans)) :
    Calls Try.prog 85 #[.slice P N cp, .slice A n c] w fun e w' => e = .returned (.bool ans) ∧ Below w.heap.size w w' := by
  have HX := Lib.hid hx
  have HP := Lib.hid hp
  have hlx : Hid (gs.length = n) := Lib.hid hx.lx
  have lp : Hid (p.length = N) := Lib.hid hP.out.2
  have hN := hP.out.pos.2
  clear hx hp
  go_enter Try.func85, Try.ntmps85
  go_wp2_with fail
  go_loopg [6, 9] n (fun gg _ jv wr => ∃ j : Nat, j ≤ n ∧ n - j ≤ gg ∧ jv = .int .i64 (j : Nat) ∧ (∀ x ∈ gs.take j, compL p x = compL x p) ∧ Below w.heap.size w wr)
  case atStart => exact ⟨0, Nat.zero_le _, by omega, rfl, fun x hx => by simp at hx, Below.refl _ _⟩
  case round =>
    obtain ⟨k, hk, hgg, rfl, hall, bel⟩ := hrel
    have Al := Lib.hid hall
    have Be := Lib.hid bel
    have P1 := Lib.hid (HP.out.up bel)
    clear hall bel
    by_cases hlt : k < n
    · obtain ⟨b, off, A5, l, c5, y, rfl, hb, hv, ey, x1, ri, ly, hl5⟩ := (HX.out.up Be.out).at_ hlt
      have hym : y ∈ gs := by rw [← ey]; exact getD_memL (by rw [hlx.out]; exact hlt)
      have hyP := ok.out y hym
      obtain rfl : l = N := by have := hyP.2; omega
      have Ri := Lib.hid ri
      have YP := Lib.hid hyP
      have ly' : Hid (y.length = l) := Lib.hid hyP.2
      have Ym := Lib.hid hym
      have Ey := Lib.hid ey
      have q0 : (0 : Int) ≤ k := by omega
      have q1 : (k : Int) < n := by omega
      obtain ⟨r, hr⟩ : ∃ r, decide (compL p y = compL y p) = r := ⟨_, rfl⟩
      have Hr := Lib.hid hr
      clear hv ey hb ri hyP hym hr
      go_wp2_with fail
      refine (implThen P A5 cp c5 l p y wr P1.out Ri.out lp ly' (Lib.hid hP.out.1) hN).mono ?_
      rintro e w1 ⟨A1, c1, rfl, s1, b1⟩
      have S1 := Lib.hid s1
      have B1 := Lib.hid b1
      clear s1 b1
      go_wp2_with fail
      refine (implThen A5 P c5 cp l y p w1 (Ri.out.up B1.out) (P1.out.up B1.out) ly' lp (Lib.hid YP.out.1) hN).mono ?_
      rintro e w2 ⟨A2, c2, rfl, s2, b2⟩
      have S2 := Lib.hid s2
      have S1b := Lib.hid (S1.out.up b2)
      have B2 : Hid (Below w.heap.size w w2) := Lib.hid (btr (btr Be.out B1.out) b2)
      clear s2 b2
      go_wp2_with fail
      refine (quiet_below (sEqP A1 A2 c1 c2 l l (compL p y) (compL y p) w2 S1b.out.ri_ S2.out.ri_ S1b.out.hid S2.out.hid (by omega) (by omega))).mono ?_
      rintro e w3 ⟨rfl, b3⟩
      have Be2 : Hid (Below w.heap.size w w3) := Lib.hid (btr B2.out b3)
      clear b3
      rw [Hr.out]
      rcases r with _ | _
      · have Fin : Hid (ans = false) := Lib.hid (by
          rcases hq : ans with _ | _
          · rfl
          · exact absurd (cwB_iff.1 (ha.out.trans hq) y Ym.out) (of_decide_eq_false Hr.out))
        go_wp2_with fail
        go_ret
        exact ⟨ret_bool Fin.out.symm, Be2.out⟩
      · have Al2 : Hid (∀ x ∈ gs.take (k + 1), compL p x = compL x p) := Lib.hid fun x hx => by
          rw [List.take_succ_eq_append_getElem (by rw [hlx.out]; exact hlt)] at hx
          rcases List.mem_append.1 hx with hx | hx
          · exact Al.out x hx
          · have e1 : gs[k]'(by rw [hlx.out]; exact hlt) = y := by rw [← Ey.out, List.getD_eq_getElem?_getD, List.getElem?_eq_getElem (by rw [hlx.out]; exact hlt)]; rfl
            rw [List.mem_singleton.1 hx, e1]; exact of_decide_eq_true Hr.out
        go_wp2_with fail
        go_roundg (n - (k + 1))
        case rel => exact ⟨k + 1, by omega, by omega, by go_num, Al2.out, Be2.out⟩
        case measure => omega
    · obtain rfl : k = n := by omega
      have Fin : Hid (ans = true) := Lib.hid (ha.out.symm.trans (cwB_iff.2 fun x hx => Al.out x (by rw [List.take_of_length_le (by rw [hlx.out]; exact Nat.le_refl _)]; exact hx)))
      go_wp2_with fail
      go_ret
      exact ⟨ret_bool Fin.out.symm, Be.out⟩

set_option maxHeartbeats 4000000 in
set_option maxRecDepth 100000 in
/-- IsAbelian. -/
theorem implIsAbelian : CtImB 39 IsAbl := by
  intro a A n c vs xss w g _
  have HX := Lib.hid g.rr
  have hlx : Hid (xss.length = n) := Lib.hid g.rr.lx
  have hn := g.hn
  have hl := Lib.hid g.hl
  clear g
  go_enter Try.func39, Try.ntmps39
  go_wp2_with fail
  refine (implGS a A n c vs xss w HX.out hn hl).mono ?_
  rintro e w1 ⟨rfl, b1⟩
  have B1 := Lib.hid b1
  clear b1
  rcases hs : gB a xss with _ | _
  · have Fin : Hid (IsAbl a xss false) := Lib.hid ⟨fun h => (by cases h), fun h => (by have := h.1; rw [hs] at this; cases this)⟩
    clear hs
    go_wp2_with fail
    go_ret
    exact ⟨_, rfl, Fin.out, B1.out⟩
  · obtain ⟨N, rfl, hN1, hN2, hg8, hpm, hok⟩ := gB_pm hs
    have Hs := Lib.hid hs
    have Ok : Hid (∀ g ∈ xss, Pn N g) := Lib.hid hok
    have hn8 : n ≤ 8 := by rw [← hlx.out]; exact hg8
    have Abi := Lib.hid (abl_iff Ok.out hN1 hN2)
    clear hs hpm hok hg8
    go_wp2_with fail
    go_loopg [6, 13] n (fun gg _ jv wr => ∃ j : Nat, j ≤ n ∧ n - j ≤ gg ∧ jv = .int .i64 (j : Nat) ∧ (∀ x ∈ xss.take j, cwB xss x = true) ∧ Below w.heap.size w wr)
    case atStart => exact ⟨0, Nat.zero_le _, by omega, rfl, fun x hx => by simp at hx, B1.out⟩
    case round =>
      obtain ⟨k, hk, hgg, rfl, hall, bel⟩ := hrel
      have Al := Lib.hid hall
      have Be := Lib.hid bel
      clear hall bel
      by_cases hlt : k < n
      · have Xr := Lib.hid (HX.out.up Be.out)
        obtain ⟨b, off, A5, l, c5, y, eA, hb, hv, ey, x1, ri, ly, hl5⟩ := Xr.out.at_ hlt
        subst eA
        have hym : y ∈ xss := by rw [← ey]; exact getD_memL (by rw [hlx.out]; exact hlt)
        have hyP := Ok.out y hym
        obtain rfl : l = N := by have := hyP.2; omega
        have Ri := Lib.hid ri
        have YP := Lib.hid hyP
        have Ym := Lib.hid hym
        have Ey := Lib.hid ey
        have q0 : (0 : Int) ≤ k := by omega
        have q1 : (k : Int) < n := by omega
        obtain ⟨r, hr⟩ : ∃ r, cwB xss y = r := ⟨_, rfl⟩
        have Hr := Lib.hid hr
        clear hv ey hb ri hyP hym hr
        go_wp2_with fail
        refine (implCwa l n c c5 A5 (some ⟨b, off, none⟩) vs xss y wr Xr.out Ri.out YP hn8 Ok r Hr).mono ?_
        rintro e w2 ⟨rfl, b2⟩
        have Be2 : Hid (Below w.heap.size w w2) := Lib.hid (btr Be.out b2)
        clear b2
        rcases r with _ | _
        · have Fin : Hid (IsAbl l xss false) := Lib.hid ⟨fun h => (by cases h), fun h => (by
            have h3 := h.2
            rw [Int.toNat_natCast] at h3
            have h4 := cwB_iff.2 (Abi.out.1 h3 y Ym.out)
            rw [Hr.out] at h4; cases h4)⟩
          go_wp2_with fail
          go_ret
          exact ⟨_, rfl, Fin.out, Be2.out⟩
        · have Al2 : Hid (∀ x ∈ xss.take (k + 1), cwB xss x = true) := Lib.hid fun x hx => by
            rw [List.take_succ_eq_append_getElem (by rw [hlx.out]; exact hlt)] at hx
            rcases List.mem_append.1 hx with hx | hx
            · exact Al.out x hx
            · have e1 : xss[k]'(by rw [hlx.out]; exact hlt) = y := by rw [← Ey.out, List.getD_eq_getElem?_getD, List.getElem?_eq_getElem (by rw [hlx.out]; exact hlt)]; rfl
              rw [List.mem_singleton.1 hx, e1]; exact Hr.out
          go_wp2_with fail
          go_roundg (n - (k + 1))
          case rel => exact ⟨k + 1, by omega, by omega, by go_num, Al2.out, Be2.out⟩
          case measure => omega
      · obtain rfl : k = n := by omega
        have Fin : Hid (IsAbl N xss true) := Lib.hid ⟨fun _ => ⟨Hs.out, by
          rw [Int.toNat_natCast]
          exact Abi.out.2 fun p hp => cwB_iff.1 (Al.out p (by rw [List.take_of_length_le (by rw [hlx.out]; exact Nat.le_refl _)]; exact hp))⟩, fun _ => rfl⟩
        go_wp2_with fail
        go_ret
        exact ⟨_, rfl, Fin.out, Be.out⟩

set_option maxHeartbeats 4000000 in
set_option maxRecDepth 100000 in
/-- CenterOrder. -/
theorem implCenterOrder : CtImI 36 IsCtr := by
  intro a A n c vs xss w g ha
  have G := Lib.hid g
  have HX := Lib.hid g.rr
  have hlx : Hid (xss.length = n) := Lib.hid g.rr.lx
  clear g
  go_enter Try.func36, Try.ntmps36
  go_wp2_with fail
  refine (implMembers a A n c vs xss w G.out ha).mono ?_
  rintro e w2 ⟨A2, m2, c2, us, l, rfl, s2, r2, b2⟩
  have R2 := Lib.hid r2
  have L2 : Hid (l.length = m2) := Lib.hid s2.lx
  have hm3 : m2 ≤ 3000 := by rw [← s2.lx]; exact r2.len.1
  have S2 := Lib.hid s2.rr
  have B2 := Lib.hid b2
  clear s2 r2 b2
  have Mem : Hid (∀ y ∈ l, gB a xss = true ∧ Mb xss a.toNat y) := Lib.hid fun y hy => by
    rcases R2.out with ⟨hf, _, hm⟩ | ⟨_, e⟩
    · exact ⟨hf.1, (hm y).1 hy⟩
    · rw [e] at hy; cases hy
  have Fin : Hid (IsCtr a xss (cnP (cwB xss) l l.length : Nat)) := Lib.hid (by
    rcases Classical.em (Few a xss) with hf | hf
    · obtain ⟨N, rfl, hN1, hN2, _, _, hok⟩ := gB_pm hf.1
      refine R2.out.ctr hf fun p hp => ?_
      rw [Int.toNat_natCast] at hp ⊢
      rw [cwB_iff, ctr_gens hok hN1 hN2]; exact ⟨fun h => ⟨hp, h⟩, fun h => h.2⟩
    · rcases R2.out with ⟨h, _⟩ | ⟨_, e⟩
      · exact absurd h hf
      · rw [e]; exact .inr ⟨hf, rfl⟩)
  go_wp2_with fail
  go_loopg [5, 7, 12] m2 (fun gg v _ jv wr => ∃ j : Nat, j ≤ m2 ∧ m2 - j ≤ gg ∧ jv = .int .i64 (j : Nat) ∧ v = .int .i64 (cnP (cwB xss) l j : Nat) ∧ Below w2.heap.size w2 wr)
  case atStart => exact ⟨0, Nat.zero_le _, by omega, rfl, rfl, Below.refl _ _⟩
  case round =>
    obtain ⟨k, hk, hgg, rfl, rfl, bel⟩ := hrel
    have Be := Lib.hid bel
    have Xr := Lib.hid (HX.out.up (btr B2.out bel))
    clear bel
    by_cases hlt : k < m2
    · obtain ⟨b, off, A5, lz, c5, y, eA, hb, ev, ey, hc0, hr0, hy, hlc⟩ := S2.out.at_ hlt
      subst eA
      obtain ⟨hs, hyM⟩ := Mem.out y (getD_of (by rw [L2.out]; exact hlt) ey)
      obtain ⟨N, rfl, hN1, hN2, hg8, _, hok⟩ := gB_pm hs
      have Ok : Hid (∀ g ∈ xss, Pn N g) := Lib.hid hok
      have hn8 : n ≤ 8 := by rw [← hlx.out]; exact hg8
      rw [Int.toNat_natCast] at hyM
      have hyl := hyM.pn hok hN1 hN2
      obtain rfl : lz = N := by have := hyl.2; omega
      have YP := Lib.hid hyl
      have Cs := Lib.hid (cnP_succ (f := cwB xss) (by rw [L2.out]; exact hlt) ey)
      have x1 := (Be.out.cell (p := ⟨b, off + k, none⟩) hb).trans hc0
      have Ry := Lib.hid (hr0.up Be.out)
      have z0 : (0 : Int) ≤ k := by omega
      have z1 : (k : Int) < m2 := by omega
      have hcl := cnP_le (cwB xss) l k
      rw [L2.out] at hcl
      obtain ⟨r, hr⟩ : ∃ r, cwB xss y = r := ⟨_, rfl⟩
      have Hr := Lib.hid hr
      have Cs2 : Hid (cnP (cwB xss) l (k + 1) = cnP (cwB xss) l k + if r = true then 1 else 0) := Lib.hid (by rw [← Hr.out]; exact Cs.out)
      obtain ⟨cv, ecv⟩ : ∃ cv, cnP (cwB xss) l k = cv := ⟨_, rfl⟩
      have Ec := Lib.hid ecv
      rw [ecv] at hcl ⊢
      clear ev ey hr0 hb hc0 hr hyl hyM hs hok hg8 ecv
      go_wp2_with fail
      refine (implCwa lz n c c5 A5 A vs xss y wr Xr.out Ry.out YP hn8 Ok r Hr).mono ?_
      rintro e w3 ⟨rfl, b3⟩
      have B3 : Hid (Below w2.heap.size w2 w3) := Lib.hid (btr Be.out b3)
      clear b3
      rcases r with _ | _
      · have E3 : Hid (cnP (cwB xss) l (k + 1) = cv) := Lib.hid (by rw [Cs2.out, Ec.out]; rfl)
        go_wp2_with fail
        go_roundg (m2 - (k + 1))
        case rel => exact ⟨k + 1, by omega, by omega, by go_num, by rw [E3.out], B3.out⟩
        case measure => omega
      · have E3 : Hid (cnP (cwB xss) l (k + 1) = cv + 1) := Lib.hid (by rw [Cs2.out, Ec.out]; rfl)
        go_wp2_with fail
        go_roundg (m2 - (k + 1))
        case rel => exact ⟨k + 1, by omega, by omega, by go_num, by rw [E3.out]; go_num, B3.out⟩
        case measure => omega
    · obtain rfl : k = m2 := by omega
      have Fin2 : Hid (IsCtr a xss (cnP (cwB xss) l k : Nat)) := Lib.hid (by have := Fin.out; rwa [L2.out] at this)
      have B5 : Hid (Below w.heap.size w wr) := Lib.hid (btr B2.out Be.out)
      go_wp2_with fail
      go_ret
      exact ⟨_, rfl, Fin2.out, B5.out⟩
end Go.Proofs.Ytcjcmhoalomjfaa

/- The program's IsNormalSubgroup. Conditions: at most 1048576 lists of at most 1048576 numbers. -/
namespace Go.Proofs.Ytcjcmhoalomjfaa
open Go.RowKit

set_option maxHeartbeats 8000000 in
set_option maxRecDepth 100000 in
/-- IsNormalSubgroup. -/
theorem implIsNormalSubgroup : CtImmB 33 IsNor := by
  intro a A n c vs xss M m cm us yss w g s ha
  have G := Lib.hid g
  have S := Lib.hid s
  have HX := Lib.hid g.rr
  have HY := Lib.hid s.rr
  have hlx : Hid (xss.length = n) := Lib.hid g.rr.lx
  have hly : Hid (yss.length = m) := Lib.hid s.rr.lx
  clear g s
  go_enter Try.func33, Try.ntmps33
  go_wp2_with fail
  refine (implIsSubgroup a A n c vs xss M m cm us yss w G.out S.out ha).mono ?_
  rintro e w1 ⟨v, rfl, hv, b1⟩
  have B1 := Lib.hid b1
  clear b1
  rcases v with _ | _
  · have Fin : Hid (IsNor a xss yss false) := Lib.hid ⟨fun h => (by cases h), fun h => absurd (hv.2 h.1) (by decide)⟩
    clear hv
    go_wp2_with fail
    go_ret
    exact ⟨_, rfl, Fin.out, B1.out⟩
  · have Hs : Hid (SubG a xss yss) := Lib.hid (hv.1 rfl)
    clear hv
    obtain ⟨N, rfl, hN1, hN2, hg8, hpm, hok⟩ := gB_pm Hs.out.1
    obtain ⟨N', eN, _, _, hg8b, _, hok2⟩ := gB_pm Hs.out.2.1
    obtain rfl : N = N' := by omega
    have Ok : Hid (∀ g ∈ xss, Pn N g) := Lib.hid hok
    have Ok2 : Hid (∀ g ∈ yss, Pn N g) := Lib.hid hok2
    have hn8 : n ≤ 8 := by rw [← hlx.out]; exact hg8
    have hm8 : m ≤ 8 := by rw [← hly.out]; exact hg8b
    have Nri := Lib.hid (nrm_iff Ok2.out Ok.out hN1 hN2)
    clear hpm hok hok2 hg8 hg8b eN G S
    go_wp2_with fail
    refine (implChainOf N n c A vs xss w1 (HX.out.up B1.out) hN1 hN2 hn8 Ok).mono ?_
    rintro e w3 ⟨ch, L, Mk, rfl, hc, ho, hw, b3⟩
    have W3 := Lib.hid hw
    have C3 := Lib.hid hc
    have B3 : Hid (Below w.heap.size w w3) := Lib.hid (btr B1.out b3)
    have X3 := Lib.hid (HX.out.up B3.out)
    have Y3 := Lib.hid (HY.out.up B3.out)
    clear hc ho hw b3
    clear HX HY B1
    go_wp2_with fail
    go_loopg [22] n (fun gg iv wr => ∃ i : Nat, i ≤ n ∧ n - i ≤ gg ∧ iv = .int .i64 (i : Nat) ∧ (∀ s ∈ xss.take i, ∀ q ∈ yss, Mb xss N (cj q s)) ∧ Below w3.heap.size w3 wr)
    case atStart => exact ⟨0, Nat.zero_le _, by omega, rfl, fun x hx => by simp at hx, Below.refl _ _⟩
    case round =>
      obtain ⟨i, hi, hgg, rfl, hall, bel⟩ := hrel
      have Al := Lib.hid hall
      have Be := Lib.hid bel
      clear hall bel
      by_cases hlt : i < n
      · obtain ⟨bx, ox, A5, l, c5, p, rfl, hbx, hv, ep, x1, rp, lp, hl5⟩ := X3.out.at_ hlt
        have hpm : p ∈ xss := by rw [← ep]; exact getD_memL (by rw [hlx.out]; exact hlt)
        have hpP := Ok.out p hpm
        obtain rfl : l = N := by have := hpP.2; omega
        have Rp := Lib.hid rp
        have PP := Lib.hid hpP
        have Pm_ := Lib.hid hpm
        have Ep := Lib.hid ep
        have Hbx := Lib.hid hbx
        have X1 := Lib.hid x1
        have q0 : (0 : Int) ≤ i := by omega
        have q1 : (i : Int) < n := by omega
        have x1 := (Be.out.cell (p := ⟨bx, ox + i, none⟩) Hbx.out).trans X1.out
        clear hv ep hbx rp hpP hpm
        go_wp2_with fail
        go_loopg [28] m (fun gg kv wr => ∃ k : Nat, k ≤ m ∧ m - k ≤ gg ∧ kv = .int .i64 (k : Nat) ∧ (∀ q ∈ yss.take k, Mb xss l (cj q p)) ∧ Below w3.heap.size w3 wr)
        case atStart => exact ⟨0, Nat.zero_le _, by omega, rfl, fun x hx => by simp at hx, Be.out⟩
        case round =>
          clear x1 Be
          obtain ⟨k, hk, hg2, rfl, hal2, bel⟩ := hrel
          have Al2 := Lib.hid hal2
          have Be := Lib.hid bel
          have Cj := Lib.hid (C3.out.up bel)
          clear hal2 bel
          by_cases hkt : k < m
          · obtain ⟨by_, oy, A6, l2, c6, q, rfl, hby, hv, eq_, y1, rq, lq, hl6⟩ := Y3.out.at_ hkt
            have hqm : q ∈ yss := by rw [← eq_]; exact getD_memL (by rw [hly.out]; exact hkt)
            have hqP := Ok2.out q hqm
            obtain rfl : l2 = l := by have := hqP.2; omega
            have QQ := Lib.hid hqP
            have Qm := Lib.hid hqm
            have Eq := Lib.hid eq_
            have Rq2 := Lib.hid (rq.up Be.out)
            have Rp2 := Lib.hid (Rp.out.up Be.out)
            have y2 := (Be.out.cell (p := ⟨by_, oy + k, none⟩) hby).trans y1
            have x2 := (Be.out.cell (p := ⟨bx, ox + i, none⟩) Hbx.out).trans X1.out
            have hbxw : bx < wr.heap.size := Nat.lt_of_lt_of_le Hbx.out Be.out.size
            have hbyw : by_ < wr.heap.size := Nat.lt_of_lt_of_le hby Be.out.size
            have r0 : (0 : Int) ≤ k := by omega
            have r1 : (k : Int) < m := by omega
            have CP : Hid (Pn l2 (cj q p)) := Lib.hid ((QQ.out.iv.comp PP.out).comp QQ.out)
            obtain ⟨ans, hans⟩ := boolOf (Mb xss l2 (cj q p))
            have Ha := Lib.hid hans
            clear hv eq_ hby rq hqP hqm hans y1
            go_wp2_with fail
            refine (implCj A5 A6 c5 c6 l2 p q wr Rp2.out Rq2.out PP QQ).mono ?_
            rintro e w5 ⟨A7, c7, rfl, s7, b5⟩
            have S7 := Lib.hid s7
            have C5 := Lib.hid (Cj.out.up b5)
            have B5 : Hid (Below w3.heap.size w3 w5) := Lib.hid (btr Be.out b5)
            clear s7 b5 x2 y2
            go_wp2_with fail
            refine (implContains w1.heap.size l2 0 c7 Mk ch L A7 (cj q p) w5 C5.out (by omega) (Lib.hid W3.out.up) hN2 S7.out.ri_ CP (Lib.hid Fx.zero) ans (Lib.hid (Ha.out.trans (W3.out.mem _).symm))).mono ?_
            rintro e w8 ⟨rfl, b8⟩
            have B8 : Hid (Below w3.heap.size w3 w8) := Lib.hid (btr B5.out b8)
            clear b8
            rcases ans with _ | _
            · have Fin : Hid (IsNor l2 xss yss false) := Lib.hid ⟨fun h => (by cases h), fun h => (by
                have h3 := h.2
                rw [Int.toNat_natCast] at h3
                exact absurd (Ha.out.2 (Nri.out.1 h3 p Pm_.out q Qm.out)) (by decide))⟩
              have B9 : Hid (Below w.heap.size w w8) := Lib.hid (btr B3.out B8.out)
              go_wp2_with fail
              go_ret
              exact ⟨_, rfl, Fin.out, B9.out⟩
            · have Al3 : Hid (∀ x ∈ yss.take (k + 1), Mb xss l2 (cj x p)) := Lib.hid fun x hx => by
                rw [List.take_succ_eq_append_getElem (by rw [hly.out]; exact hkt)] at hx
                rcases List.mem_append.1 hx with hx | hx
                · exact Al2.out x hx
                · have e1 : yss[k]'(by rw [hly.out]; exact hkt) = q := by rw [← Eq.out, List.getD_eq_getElem?_getD, List.getElem?_eq_getElem (by rw [hly.out]; exact hkt)]; rfl
                  rw [List.mem_singleton.1 hx, e1]; exact Ha.out.1 rfl
              go_wp2_with fail
              go_roundg (m - (k + 1))
              case rel => exact ⟨k + 1, by omega, by omega, by go_num, Al3.out, B8.out⟩
              case measure => omega
          · obtain rfl : k = m := by omega
            have Al3 : Hid (∀ s ∈ xss.take (i + 1), ∀ q ∈ yss, Mb xss l (cj q s)) := Lib.hid fun x hx q hq => by
              rw [List.take_succ_eq_append_getElem (by rw [hlx.out]; exact hlt)] at hx
              rcases List.mem_append.1 hx with hx | hx
              · exact Al.out x hx q hq
              · have e1 : xss[i]'(by rw [hlx.out]; exact hlt) = p := by rw [← Ep.out, List.getD_eq_getElem?_getD, List.getElem?_eq_getElem (by rw [hlx.out]; exact hlt)]; rfl
                rw [List.mem_singleton.1 hx, e1]
                exact Al2.out q (by rw [List.take_of_length_le (by rw [hly.out]; exact Nat.le_refl _)]; exact hq)
            go_wp2_with fail
            go_roundg (n - (i + 1))
            case rel => exact ⟨i + 1, by omega, by omega, by go_num, Al3.out, Be.out⟩
            case measure => omega
      · obtain rfl : i = n := by omega
        have Fin : Hid (IsNor N xss yss true) := Lib.hid ⟨fun _ => ⟨Hs.out, by
          rw [Int.toNat_natCast]
          exact Nri.out.2 fun s hs => Al.out s (by rw [List.take_of_length_le (by rw [hlx.out]; exact Nat.le_refl _)]; exact hs)⟩, fun _ => rfl⟩
        have B9 : Hid (Below w.heap.size w wr) := Lib.hid (btr B3.out Be.out)
        go_wp2_with fail
        go_ret
        exact ⟨_, rfl, Fin.out, B9.out⟩
end Go.Proofs.Ytcjcmhoalomjfaa

/- The walk of the law FnExactIsAbelian: it returns true at every input, and writes nothing that was there. No condition but the program's own contract. -/
namespace Go.Proofs.Ytcjcmhoalomjfaa
open Go.RowKit

set_option maxHeartbeats 4000000 in
set_option maxRecDepth 100000 in
/-- The law FnExactIsAbelian. -/
theorem lawIsAbelian (IM : CtImB 39 IsAbl) (i0 : Int) (g1A : Option Addr) (g1n g1c : Nat) (g1v : List SV) (g1x : List (List Int)) (w : World) (wfi0 : I64 i0) (hg1 : RR w w.heap.size g1A g1n g1v g1x) (hmg1 : g1n ≤ maxLen) (hkg1 : Hid (∀ i, i < g1n → (g1v.getD i sd0).2.1 ≤ maxLen)) :
    Calls Try.prog 12 #[.int .i64 i0, .slice g1A g1n g1c] w fun e w' => e = .returned (.bool true) ∧ Below w.heap.size w w' := by
  have Hg1 := Lib.hid hg1
  have hlxg1 := Lib.hid hg1.lx
  have hllg1 := Lib.hid hg1.lens
  clear hg1
  by_cases hT0 : ((g1n + tot g1v g1n : Nat) : Int) ≤ (1048576 : Int)
  · skip
    have HT0 := Lib.hid hT0
    obtain ⟨LE, eLE⟩ : ∃ L : Int, (1048576 : Int) - ((g1n + tot g1v g1n : Nat) : Int) = L := ⟨_, rfl⟩
    have hLE : ¬ LE < 0 := by omega
    have dLE : decide (LE < 0) = false := by simp; omega
    have ELE := Lib.hid eLE
    clear eLE
    have hng1 : g1n ≤ 1048576 := by omega
    have KTg1 : Hid (tot g1v g1n ≤ 1048576) := Lib.hid (by omega)
    have hlg1 : Hid (∀ i, i < g1n → (g1v.getD i sd0).2.1 ≤ 1048576) := Lib.hid fun i hi => by have := tot_row (vs := g1v) hi; have := KTg1.out; omega
    have hylg1 : Hid (∀ i, i < g1n → (g1x.getD i []).length ≤ 1048576) := Lib.hid fun i hi => by rw [hllg1.out i hi]; exact hlg1.out i hi
    clear hT0 
    go_enter Try.func12, Try.ntmps12
    go_wp2_with fail
    have K0 := szSS2 g1A g1n g1c 1048576 g1v g1x w Hg1.out hmg1 hkg1 (by decide) (by decide)
    refine K0.mono ?_
    rintro e w0 ⟨rfl, rfl⟩
    clear K0
    rw [if_pos HT0.out]
    rw [ELE.out]
    go_wp2_with fail
    refine (toSS g1A g1n g1c g1v g1x w Hg1.out hng1 hlg1).mono ?_
    rintro e w1 ⟨A1, c1, us1, rfl, s1, q1, b1⟩
    have Z1 : Hid (w.heap.size ≤ w1.heap.size) := Lib.hid b1.size
    have B1 : Hid (Below w.heap.size w w1) := Lib.hid b1
    have Ftg1_1 := Lib.hid s1
    have Ltg1 : Hid (Lies A1 g1n c1 w.heap.size w1.heap.size) := Lib.hid s1.lt_
    have Itg1 : Hid (∀ t, t < g1n → ∀ k, (sval (us1.getD t sd0)).ownBlock = some k → w.heap.size ≤ k ∧ k < w1.heap.size) := Lib.hid fun t ht => (s1.row t ht).lt_
    have Qtg1 := Lib.hid q1
    have hltg1 : Hid (∀ i, i < g1n → (us1.getD i sd0).2.1 ≤ 1048576) := Lib.hid fun i hi => by rw [q1 i hi]; exact hlg1.out i hi
    clear s1 b1 q1
    go_wp2_with fail
    have K2 := ctAbl i0 A1 g1n c1 us1 g1x w1 ⟨Ftg1_1.out.rr, hng1, hltg1.out⟩ wfi0
    refine K2.mono ?_
    clear K2
    rintro e w2 ⟨v2, rfl, r2, b2⟩
    have Z2 : Hid (w1.heap.size ≤ w2.heap.size) := Lib.hid b2.size
    have B2 : Hid (Below w.heap.size w w2) := Lib.hid (btr B1.out b2)
    have Ftg1_2 := Lib.hid (Ftg1_1.out.up b2)
    clear Ftg1_1
    have HR := Lib.hid r2
    clear r2
    clear b2
    clear Ftg1_2
    go_wp2_with fail
    refine (toSS g1A g1n g1c g1v g1x w2 (Hg1.out.up B2.out) hng1 hlg1).mono ?_
    rintro e w3 ⟨A3, c3, us3, rfl, s3, q3, b3⟩
    have Z3 : Hid (w2.heap.size ≤ w3.heap.size) := Lib.hid b3.size
    have B3 : Hid (Below w.heap.size w w3) := Lib.hid (btr B2.out b3)
    have Fxg1_3 := Lib.hid s3
    have Lxg1 : Hid (Lies A3 g1n c3 w2.heap.size w3.heap.size) := Lib.hid s3.lt_
    have Ixg1 : Hid (∀ t, t < g1n → ∀ k, (sval (us3.getD t sd0)).ownBlock = some k → w2.heap.size ≤ k ∧ k < w3.heap.size) := Lib.hid fun t ht => (s3.row t ht).lt_
    have Qxg1 := Lib.hid q3
    have hlxg1 : Hid (∀ i, i < g1n → (us3.getD i sd0).2.1 ≤ 1048576) := Lib.hid fun i hi => by rw [q3 i hi]; exact hlg1.out i hi
    clear s3 b3 q3
    go_wp2_with fail
    have K4 := IM i0 A3 g1n c3 us3 g1x w3 ⟨Fxg1_3.out.rr, hng1, hlxg1.out⟩ wfi0
    refine K4.mono ?_
    clear K4
    rintro e w4 ⟨v4, rfl, r4, b4⟩
    have Z4 : Hid (w3.heap.size ≤ w4.heap.size) := Lib.hid b4.size
    have B4 : Hid (Below w.heap.size w w4) := Lib.hid (btr B3.out b4)
    have Fxg1_4 := Lib.hid (Fxg1_3.out.up b4)
    clear Fxg1_3
    have e4 := HR.out.uniq r4
    subst e4
    clear r4
    clear b4
    go_wp2_with fail
    refine (toSS g1A g1n g1c g1v g1x w4 (Hg1.out.up B4.out) hng1 hlg1).mono ?_
    rintro e w5 ⟨A5, c5, us5, rfl, s5, q5, b5⟩
    have Z5 : Hid (w4.heap.size ≤ w5.heap.size) := Lib.hid b5.size
    have B5 : Hid (Below w.heap.size w w5) := Lib.hid (btr B4.out b5)
    have Fxg1_5 := Lib.hid (Fxg1_4.out.up b5)
    clear Fxg1_4
    have Fyg1_5 := Lib.hid s5
    have Lyg1 : Hid (Lies A5 g1n c5 w4.heap.size w5.heap.size) := Lib.hid s5.lt_
    have Iyg1 : Hid (∀ t, t < g1n → ∀ k, (sval (us5.getD t sd0)).ownBlock = some k → w4.heap.size ≤ k ∧ k < w5.heap.size) := Lib.hid fun t ht => (s5.row t ht).lt_
    have Qyg1 := Lib.hid q5
    have hlyg1 : Hid (∀ i, i < g1n → (us5.getD i sd0).2.1 ≤ 1048576) := Lib.hid fun i hi => by rw [q5 i hi]; exact hlg1.out i hi
    clear s5 b5 q5
    go_wp2_with fail
    refine (eqRR_same A3 A5 g1n c3 g1n c5 us3 us5 _ w5 Fxg1_5.out.rr Fyg1_5.out.rr (by omega) hylg1).mono ?_
    rintro e w6 ⟨rfl, b6⟩
    have Z6 : Hid (w5.heap.size ≤ w6.heap.size) := Lib.hid b6.size
    have B6 : Hid (Below w.heap.size w w6) := Lib.hid (btr B5.out b6)
    have Fxg1_6 := Lib.hid (Fxg1_5.out.up b6)
    clear Fxg1_5
    have Fyg1_6 := Lib.hid (Fyg1_5.out.up b6)
    clear Fyg1_5
    clear b6
    clear Fyg1_6
    go_wp2_with fail
    go_ret
    exact ⟨rfl, B6.out⟩
  · skip
    have HT0 := Lib.hid hT0
    clear hT0
    go_enter Try.func12, Try.ntmps12
    go_wp2_with fail
    have K0 := szSS2 g1A g1n g1c 1048576 g1v g1x w Hg1.out hmg1 hkg1 (by decide) (by decide)
    refine K0.mono ?_
    rintro e w0 ⟨rfl, rfl⟩
    clear K0
    rw [if_neg (Int.not_le.2 HT0.out)]
    go_wp2
    go_ret
    exact ⟨rfl, Below.refl _ _⟩
end Go.Proofs.Ytcjcmhoalomjfaa
