/- Part 10 of the texts: WalkM6, Nmf6. No condition of its own: each text tells its own. -/
import Derived.Test.YtcjcmhoalomjfaaMg9
import Derived.Test.YtcjcmhoalomjfaaMg5
import Derived.Test.YtcjcmhoalomjfaaMg4
import Derived.Test.YtcjcmhoalomjfaaMg2
import Derived.Test.YtcjcmhoalomjfaaMg8
import Derived.Test.YtcjcmhoalomjfaaMg7
import Derived.Deep.RegionHeld3
set_option linter.unusedVariables false
set_option linter.unusedSimpArgs false

/- The walk of the law FnLagrange: it returns true at every input, and writes nothing that was there. No condition but the program's own contracts. -/
namespace Go.Proofs.Ytcjcmhoalomjfaa
open Go.RowKit

theorem RR.drewG {w : World} {B n : Nat} {A : Option Addr} {vs : List SV} {xss : List (List Int)} (h : RR w B A n vs xss) : RR w.drew B A n vs xss := ⟨h.lv, h.lx, h.cells, h.rows, h.lens, h.caps⟩
theorem GIn.drewG {w : World} {n : Nat} {A : Option Addr} {vs : List SV} {xss : List (List Int)} (h : GIn w A n vs xss) : GIn w.drew A n vs xss := ⟨h.rr.drewG, h.hn, h.hl⟩
theorem SIn.drewG {w : World} {n c : Nat} {A : Option Addr} {p : List Int} (h : SIn w A n c p) : SIn w.drew A n c p := ⟨h.ri, h.lp, h.hn, h.hc⟩
theorem getD_ofR {l : List (List Int)} {j : Nat} {p : List Int} (h : j < l.length) (e : l.getD j [] = p) : p ∈ l := by rw [← e]; exact getD_memL h

set_option maxHeartbeats 16000000 in
set_option maxRecDepth 100000 in
theorem lawLagrange (II : CtImmI 17 IsIdx) (IM : CtImmM 18 IsRep) (IS : CtImmB 20 IsSub) (IO : CtImI 24 IsOrd) (IC : CtImssB 25 IsSco) (IN : CtImsS 27 IsCmi) (A : Option Addr) (cap len : Nat) (w : World) (hb : SB w w.heap.size A len) :
    Calls Try.prog 3 #[.slice A len cap] w fun e w' => e = .returned (.bool true) ∧ Below w.heap.size w w' := by
  by_cases hl : len ≤ 4096
  · go_enter Try.func3, Try.ntmps3
    go_wp2_with fail
    refine (bigF4 A len cap w hl).mono ?_
    rintro e w0 ⟨rfl, rfl⟩
    go_wp2_with fail
    refine (drawCR len cap A w hb hl).mono ?_
    rintro e w1 ⟨z, A1, m, c, vs, xss, B, k, d, us, yss, rfl, hB, gi, gj, b1⟩
    have G1 := Lib.hid gi
    have Y1 := Lib.hid gj
    have HB := Lib.hid hB
    have B1 := Lib.hid b1
    clear gi gj hB b1 hb
    go_wp2_with fail
    refine (II z A1 m c vs xss B k d us yss w1 G1.out Y1.out HB.out).mono ?_
    rintro e w2 ⟨v, rfl, rv, b2⟩
    have Rv := Lib.hid rv
    have G2 := Lib.hid (G1.out.up b2)
    have Y2 := Lib.hid (Y1.out.up b2)
    have B2 : Hid (Below w.heap.size w w2) := Lib.hid (btr B1.out b2)
    clear rv b2 G1 Y1
    go_wp2_with fail
    refine (IM z A1 m c vs xss B k d us yss w2 G2.out Y2.out HB.out).mono ?_
    rintro e w3 ⟨A3, n3, c3, us3, l, rfl, s3, rl, b3⟩
    have Rl := Lib.hid rl
    have L3 : Hid (l.length = n3) := Lib.hid s3.lx
    have O3 := Lib.hid s3.rr
    have G3 := Lib.hid (G2.out.up b3)
    have Y3 := Lib.hid (Y2.out.up b3)
    have B3 : Hid (Below w.heap.size w w3) := Lib.hid (btr B2.out b3)
    clear rl s3 b3 G2 Y2
    go_wp2_with fail
    refine (ctIdx z A1 m c vs xss B k d us yss w3 G3.out Y3.out HB.out).mono ?_
    rintro e w4 ⟨v', rfl, rv', b4⟩
    obtain rfl : v' = v := rv'.uniq Rv.out
    have O4 := Lib.hid (O3.out.up b4)
    have G4 := Lib.hid (G3.out.up b4)
    have Y4 := Lib.hid (Y3.out.up b4)
    have B4 : Hid (Below w.heap.size w w4) := Lib.hid (btr B3.out b4)
    have ne1 : (v' != v') = false := by simp
    clear rv' b4 G3 Y3 O3
    go_wp2_with fail
    refine (IS z A1 m c vs xss B k d us yss w4 G4.out Y4.out HB.out).mono ?_
    rintro e w5 ⟨sb, rfl, rs, b5⟩
    have Rs := Lib.hid rs
    have O5 := Lib.hid (O4.out.up b5)
    have G5 := Lib.hid (G4.out.up b5)
    have Y5 := Lib.hid (Y4.out.up b5)
    have B5 : Hid (Below w.heap.size w w5) := Lib.hid (btr B4.out b5)
    clear rs b5 G4 Y4 O4
    go_wp2_with fail
    refine (ctSub z A1 m c vs xss B k d us yss w5 G5.out Y5.out HB.out).mono ?_
    rintro e w6 ⟨sb', rfl, rs', b6⟩
    obtain rfl : sb' = sb := rs'.uniq Rs.out
    have O6 := Lib.hid (O5.out.up b6)
    have G6 := Lib.hid (G5.out.up b6)
    have Y6 := Lib.hid (Y5.out.up b6)
    have B6 : Hid (Below w.heap.size w w6) := Lib.hid (btr B5.out b6)
    have ne2 : (sb' != sb') = false := by simp
    clear rs' b6 G5 Y5 O5
    go_wp2_with fail
    refine (ctRep z A1 m c vs xss B k d us yss w6 G6.out Y6.out HB.out).mono ?_
    rintro e w7 ⟨A7, n7, c7, us7, l7, rfl, s7, r7, b7⟩
    obtain rfl : l7 = l := r7.uniq Rl.out
    obtain rfl : n7 = n3 := by rw [← s7.lx]; exact L3.out
    have S7 := Lib.hid s7.rr
    have O7 := Lib.hid (O6.out.up b7)
    have G7 := Lib.hid (G6.out.up b7)
    have Y7 := Lib.hid (Y6.out.up b7)
    have B7 : Hid (Below w.heap.size w w7) := Lib.hid (btr B6.out b7)
    have Bd := Lib.hid (boundRep Rl.out)
    have hn3 : n7 ≤ 1048576 := by have := Bd.out.1; have := L3.out; omega
    clear s7 r7 b7 G6 Y6 O6
    go_wp2_with fail
    refine (likeRR_same A3 A7 n7 c3 n7 c7 us3 us7 l7 w7 O7.out S7.out hn3 (Lib.hid fun i hi => Bd.out.2.1 i (by rw [L3.out]; exact hi))).mono ?_
    rintro e w8 ⟨rfl, b8⟩
    have O8 := Lib.hid (O7.out.up b8)
    have G8 := Lib.hid (G7.out.up b8)
    have Y8 := Lib.hid (Y7.out.up b8)
    have B8 : Hid (Below w.heap.size w w8) := Lib.hid (btr B7.out b8)
    clear b8 G7 Y7 O7 S7 Bd
    by_cases hs : SubG z xss yss
    · obtain ⟨Va, ca, la1, la2⟩ := gB_crd hs.1
      obtain ⟨Vb, cb, lb1, lb2⟩ := gB_crd hs.2.1
      obtain ⟨k0, ck, ek⟩ := idx_ord hs ca cb
      obtain rfl : v' = (k0 : Int) := by
        rcases Rv.out with ⟨_, k', h, e⟩ | ⟨e, _⟩
        · rw [e, h.uniq ck]
        · exact absurd hs e
      obtain ⟨N, rfl, hN1, hN2, _, _, hok⟩ := gB_pm hs.1
      obtain ⟨N', eN, _, _, _, _, hok2⟩ := gB_pm hs.2.1
      obtain rfl : N = N' := by omega
      rw [Int.toNat_natCast] at ca cb ck
      have hk0 : 1 ≤ k0 := by
        rcases Nat.eq_zero_or_pos k0 with h | h
        · rw [h] at ek; omega
        · exact h
      have hkb : k0 ≤ Vb := by rw [ek]; exact Nat.le_mul_of_pos_right _ (by omega)
      have hmul : (k0 : Int) * (Va : Int) = (Vb : Int) := by rw [ek]; exact (Int.natCast_mul k0 Va).symm
      have wq : IntKind.i64.wrap ((k0 : Int) * (Va : Int)) = (Vb : Int) := by rw [hmul, IntKind.wrap_i64]; omega
      have HS := Lib.hid hs
      have Ok : Hid (∀ g ∈ xss, Pn N g) := Lib.hid hok
      have Ok2 : Hid (∀ g ∈ yss, Pn N g) := Lib.hid hok2
      have LV : Hid (k0 ≤ 200 → n7 = k0 ∧ l7.Pairwise (LxI N) ∧ ∀ p, p ∈ l7 ↔ Mb yss N p ∧ CMin N (Mb xss N) p p) := Lib.hid fun h3 => by
        rcases Rl.out with ⟨_, a, b⟩ | ⟨e, _⟩
        · rw [Int.toNat_natCast] at a b
          refine ⟨?_, a, b⟩
          rw [← L3.out]
          exact (ck.uniq ⟨l7, lx_nodup a, b, rfl⟩).symm
        · exact absurd ⟨hs, k0, by rw [Int.toNat_natCast]; exact ck, h3⟩ e
      have LN : Hid (¬ k0 ≤ 200 → n7 = 0) := Lib.hid fun h3 => by
        rcases Rl.out with ⟨⟨_, k', h, h'⟩, _⟩ | ⟨_, e⟩
        · rw [Int.toNat_natCast] at h
          have := h.uniq ck; omega
        · rw [← L3.out, e]; rfl
      have OA : Hid (∀ u, IsOrd N xss u → u = (Va : Int)) := Lib.hid fun u hu => by
        obtain ⟨V, e, cV, _⟩ := ord_nat hu hs.1
        rw [Int.toNat_natCast] at cV
        rw [e, cV.uniq ca]
      have OB : Hid (∀ u, IsOrd N yss u → u = (Vb : Int)) := Lib.hid fun u hu => by
        obtain ⟨V, e, cV, _⟩ := ord_nat hu hs.2.1
        rw [Int.toNat_natCast] at cV
        rw [e, cV.uniq cb]
      have z0 : ((k0 : Int) == 0) = false := by rw [beq_eq_false_iff_ne]; omega
      have ne3 : ((Vb : Int) != (Vb : Int)) = false := by simp
      clear hs ca cb ck ek hok hok2 eN hkb hmul
      go_wp2_with fail
      refine (IO N A1 m c vs xss w8 G8.out HB.out).mono ?_
      rintro e w9 ⟨u, rfl, ru, b9⟩
      obtain rfl := OA.out u ru
      have O9 := Lib.hid (O8.out.up b9)
      have G9 := Lib.hid (G8.out.up b9)
      have Y9 := Lib.hid (Y8.out.up b9)
      have B9 : Hid (Below w.heap.size w w9) := Lib.hid (btr B8.out b9)
      clear ru b9 G8 Y8 O8
      go_wp2_with fail
      refine (IO N B k d us yss w9 Y9.out HB.out).mono ?_
      rintro e w10 ⟨u, rfl, ru, b10⟩
      obtain rfl := OB.out u ru
      have O10 := Lib.hid (O9.out.up b10)
      have G10 := Lib.hid (G9.out.up b10)
      have B10 : Hid (Below w.heap.size w w10) := Lib.hid (btr B9.out b10)
      clear ru b10 G9 Y9 O9
      by_cases hV3 : k0 ≤ 200
      · obtain ⟨hmv, hsr, hmm⟩ := LV.out hV3
        subst hmv
        have Sr := Lib.hid hsr
        have Mm := Lib.hid hmm
        have d3 : decide ((n7 : Int) ≤ 200) = true := by simp; omega
        have ne4 : ((n7 : Int) != (n7 : Int)) = false := by simp
        clear hsr hmm LV LN
        go_wp2_with fail
        obtain ⟨wl, rfl⟩ : ∃ wl, wl = w10 := ⟨_, rfl⟩
        go_loopg [8] n7 (fun gg i wr => ∃ j : Nat, j < n7 ∧ n7 - j ≤ gg ∧ i = .int .i64 (j : Nat) ∧ Below wl.heap.size wl wr)
        case atStart => exact ⟨0, by omega, by omega, rfl, Below.refl _ _⟩
        case round =>
          obtain ⟨j, hj, hgj, rfl, bel⟩ := hrel
          have Bj := Lib.hid bel
          have Ol := Lib.hid (O10.out.up bel)
          have Gl := Lib.hid (G10.out.up bel)
          clear bel
          by_cases hjm : j + 1 < n7
          · obtain ⟨b, off, A5, k5, c5, p, rfl, hb5, e51, e52, x1, ri1, n1, cc1⟩ := Ol.out.at_ (k := j) (by omega)
            obtain ⟨b', off', A6, k6, c6, q, e0, hb6, e61, e62, x2, ri2, n2, cc2⟩ := Ol.out.at_ (k := j + 1) hjm
            injection e0 with e0
            injection e0 with f1 f2 _
            subst f1 f2
            have hp := (Mm.out p).1 (getD_ofR (by rw [L3.out]; omega) e52)
            have hq := (Mm.out q).1 (getD_ofR (by rw [L3.out]; exact hjm) e62)
            have hpp := hp.1.pn Ok2.out hN1 hN2
            have hqp := hq.1.pn Ok2.out hN1 hN2
            have hlx : LxI N p q := by
              have := List.pairwise_iff_getElem.1 Sr.out j (j + 1) (by rw [L3.out]; omega) (by rw [L3.out]; exact hjm) (Nat.lt_succ_self j)
              rw [List.getD_eq_getElem?_getD, List.getElem?_eq_getElem (by rw [L3.out]; omega)] at e52
              rw [List.getD_eq_getElem?_getD, List.getElem?_eq_getElem (by rw [L3.out]; exact hjm)] at e62
              have e52 : l7[j]'(by rw [L3.out]; omega) = p := e52
              have e62 : l7[j + 1]'(by rw [L3.out]; exact hjm) = q := e62
              rw [e52, e62] at this; exact this
            have hH := sgp_mb Ok.out hN1 hN2
            have FS : Hid (∀ sb, IsSco N xss p q sb → sb = false) := Lib.hid fun sb hsb => by
              rcases sb with _ | _
              · rfl
              · obtain ⟨_, _, hc⟩ := hsb.1 rfl
                rw [Int.toNat_natCast] at hc
                have e := (CMin.same hH hpp hqp hp.2 hq.2).1 hc
                rw [e] at hlx
                exact absurd hlx LxI.irr
            have FC : Hid (∀ x, IsCmi N xss p x → x = p) := Lib.hid fun x hx => by
              rcases hx with ⟨_, h⟩ | ⟨h, _⟩
              · rw [Int.toNat_natCast] at h
                exact h.uniq hH hpp hp.2
              · exact absurd ⟨HS.out.1, by rw [hpp.2], isP_iff.2 hpp.1⟩ h
            have hk5 : k5 ≤ 20 := by rw [← n1, hpp.2]; exact hN2
            have hk6 : k6 ≤ 20 := by rw [← n2, hqp.2]; exact hN2
            have P9 : Hid (SIn wr A5 k5 c5 p) := Lib.hid ⟨ri1, n1, by omega, cc1⟩
            have Q9 : Hid (SIn wr A6 k6 c6 q) := Lib.hid ⟨ri2, n2, by omega, cc2⟩
            have N1 := Lib.hid n1
            have d1 : decide ((j : Int) + 1 < (n7 : Int)) = true := by simp; omega
            have w1' : IntKind.i64.wrap ((j : Int) + 1) = (j : Int) + 1 := by rw [IntKind.wrap_i64]; omega
            have p0 : (0 : Int) ≤ j := by omega
            have p1 : (j : Int) < n7 := by omega
            have p2 : (0 : Int) ≤ (j : Int) + 1 := by omega
            have p3 : (j : Int) + 1 < n7 := by omega
            have hbw : b < wr.heap.size := hb5
            clear e51 e52 e61 e62 hp hq hpp hqp hlx ri1 ri2 n1 n2 hb5 hb6 hH
            go_wp2_with fail
            go_region_held3 (fun w' => w'.cell? ⟨b, off + j, none⟩ = some (.slice A5 k5 c5) ∧ w'.cell? ⟨b, off + (j + 1), none⟩ = some (.slice A6 k6 c6))
              (first | exact ⟨x1, x2⟩ | exact hS1 | exact hS2 | exact hS3 | go_keep)
              (first
                | (go_at_call 25; refine (IC N A1 m c vs xss A5 k5 c5 p A6 k6 c6 q _ ?_ ?_ ?_ HB.out).mono ?_; (first | exact Gl.out | exact Gl.out.drewG); (first | exact P9.out | exact P9.out.drewG); (first | exact Q9.out | exact Q9.out.drewG); rintro e w11 ⟨sb, rfl, rsb, b11'⟩; (obtain rfl : sb = false := FS.out sb rsb)
                   have b11 : Below wr.heap.size wr w11 := ⟨b11'.os, b11'.tape, b11'.output, b11'.size, b11'.block⟩
                   have hS1 := And.intro ((b11.cell (p := ⟨b, off + j, none⟩) hbw).trans x1) ((b11.cell (p := ⟨b, off + (j + 1), none⟩) hbw).trans x2))
                | (go_at_call 27; refine (IN N A1 m c vs xss A5 k5 c5 p w11 ?_ ?_ HB.out).mono ?_; (exact Gl.out.up b11); (exact P9.out.up b11); rintro e w12 ⟨X, nx_, cx, x, rfl, sx, rx, b12'⟩; (obtain rfl : x = p := FC.out x rx)
                   have b12 : Below wr.heap.size wr w12 := btr b11 b12'
                   have hS2 := And.intro ((b12.cell (p := ⟨b, off + j, none⟩) hbw).trans x1) ((b12.cell (p := ⟨b, off + (j + 1), none⟩) hbw).trans x2))
                | (go_at_call 26; refine (likeI_eq X A5 cx c5 nx_ k5 x w12 ?_ ?_ ?_ ?_ ?_).mono ?_; (exact sx.ri_); (exact (P9.out.up b12).ri); (exact sx.hid); (exact N1); (have := sx.1; have := N1.out; omega); rintro e w13 ⟨rfl, b13'⟩
                   have b13 : Below wr.heap.size wr w13 := btr b12 b13'
                   have hS3 := And.intro ((b13.cell (p := ⟨b, off + j, none⟩) hbw).trans x1) ((b13.cell (p := ⟨b, off + (j + 1), none⟩) hbw).trans x2)))
            have B13 : Hid (Below wl.heap.size wl w13) := Lib.hid (btr Bj.out b13)
            clear b11 b12 b13 b11' b12' b13' hS1 hS2 hS3 x1 x2 sx rx rsb
            go_wp2_with fail
            go_roundg (n7 - (j + 1))
            case rel => exact ⟨j + 1, hjm, by omega, by go_num, B13.out⟩
            case measure => omega
          · have d1 : decide ((j : Int) + 1 < (n7 : Int)) = false := by simp; omega
            have Bw : Hid (Below w.heap.size w wr) := Lib.hid (btr B10.out Bj.out)
            go_wp2_with fail
            go_ret
            exact ⟨rfl, Bw.out⟩
      · obtain rfl : n7 = 0 := LN.out hV3
        have d3 : decide ((k0 : Int) ≤ 200) = false := by simp; omega
        clear LV LN
        go_wp2_with fail
        obtain ⟨wl, rfl⟩ : ∃ wl, wl = w10 := ⟨_, rfl⟩
        go_loopg [8] 1 (fun gg i wr => i = .int .i64 0 ∧ wr = wl)
        case atStart => exact ⟨rfl, rfl⟩
        case round =>
          obtain ⟨rfl, rfl⟩ := hrel
          go_wp2_with fail
          go_ret
          exact ⟨rfl, B10.out⟩
    · obtain rfl : v' = 0 := by
        rcases Rv.out with ⟨e, _⟩ | ⟨_, e⟩
        · exact absurd e hs
        · exact e
      obtain rfl : n7 = 0 := by
        rcases Rl.out with ⟨e, _⟩ | ⟨_, e⟩
        · exact absurd e.1 hs
        · rw [← L3.out, e]; rfl
      clear hs
      go_wp2_with fail
      go_ret
      exact ⟨rfl, B8.out⟩
  · go_enter Try.func3, Try.ntmps3
    go_wp2_with fail
    refine (bigT4 A len cap w (by omega)).mono ?_
    rintro e w0 ⟨rfl, rfl⟩
    go_wp2_with fail
    go_ret
    exact ⟨rfl, Below.refl _ _⟩
end Go.Proofs.Ytcjcmhoalomjfaa

/- The law FnLagrange with the program's contracts put in. Conditions: none beyond those of the texts imported. -/
namespace Go.Proofs.Ytcjcmhoalomjfaa
open Go.RowKit
theorem nmdLagrange (A : Option Addr) (cap len : Nat) (w : World) (hb : SB w w.heap.size A len) :
    Calls Try.prog 3 #[.slice A len cap] w fun e w' => e = .returned (.bool true) ∧ Below w.heap.size w w' :=
  lawLagrange implSubgroupIndex implCosetRepresentatives implIsSubgroup implGroupOrder implSameCoset implCosetMinimum A cap len w hb
end Go.Proofs.Ytcjcmhoalomjfaa
