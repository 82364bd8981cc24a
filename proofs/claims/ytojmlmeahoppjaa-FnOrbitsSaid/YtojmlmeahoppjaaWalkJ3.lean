/- The walk of the law FnOrbits: it returns true at every input, and writes nothing that was there. No condition. -/
import Derived.Test.YtojmlmeahoppjaaWalkI3
import Derived.Test.YtojmlmeahoppjaaWordG
import Derived.Test.YtojmlmeahoppjaaWordZ
import Derived.Test.YtojmlmeahoppjaaFixd
import Derived.Test.YtojmlmeahoppjaaEval
import Derived.Test.YtojmlmeahoppjaaDice
namespace Go.Proofs.Ytojmlmeahoppjaa
open Go.RowKit

set_option maxHeartbeats 1000000 in
theorem drawOC (len cap : Nat) (A : Option Addr) (w : World) (hb : SB w w.heap.size A len) (hl : len ≤ 4096) :
    Calls Try.prog 14 #[.slice A len cap] w fun e w' => ∃ (z : Int) (A : Option Addr) (m c : Nat) (vs : List SV) (xss : List (List Int)), e = .returned (.tuple #[.int .i64 z, .slice A m c]) ∧ B64 z ∧ RR w' w'.heap.size A m vs xss ∧ m ≤ 9 ∧ (∀ i, i < m → (vs.getD i sd0).2.1 ≤ 21) ∧ Below w.heap.size w w' := by
  go_enter Try.func14, Try.ntmps14
  go_wp2_with fail
  refine (newSrc len cap A w hb hl).mono ?_
  rintro e w1 ⟨rfl, s1, b1⟩
  have S1 := Lib.hid s1
  have B1 := Lib.hid b1
  clear s1 b1
  go_wp2_with fail
  refine (drawGroupT w.heap.size w1 S1.out).mono ?_
  rintro e w2 ⟨z, A2, m, c, vs, xss, rfl, hB, rr, hm, hln, s2, g2⟩
  have HB := Lib.hid hB
  have Rr := Lib.hid rr
  have Ln := Lib.hid hln
  have B2 : Hid (Below w.heap.size w w2) := Lib.hid (below_gro3 B1.out g2 (Nat.le_refl _))
  clear hB rr hln s2 g2
  go_wp2_with fail
  go_ret2
  exact ⟨_, _, _, _, vs, xss, rfl, HB.out, Rr.out, hm, Ln.out, B2.out⟩

theorem trans_len {n : Int} {gs : List (List Int)} : transB n gs = decide ((orbitsL n gs).length = 1) := by
  unfold transB orbitsL
  rcases gB n gs with _ | _
  · rfl
  · simp
theorem orbitsL_no {n : Int} {gs : List (List Int)} (h : gB n gs = false) : orbitsL n gs = [] := if_neg (by rw [h]; simp)
theorem likeI_same {xs : List Int} (base base' : Nat) (A B : Option Addr) (n c m d : Nat) (w : World) (hx : Slc w base A n c xs) (hy : Slc w base' B m d xs) (hn : n ≤ 2097152) :
    Calls Try.prog 24 #[.slice A n c, .slice B m d] w fun e w' => e = .returned (.bool true) ∧ Below w.heap.size w w' :=
  (quiet_below (likeI_any A B c d n m _ _ w hx.ri_ hy.ri_ hx.hid hy.hid hn (by rw [← hy.1, hx.1]; exact hn))).mono fun e w' ⟨he, hb⟩ => ⟨he.trans (ret_bool (by simp)), hb⟩
/-- The steps' maps reach what the generators reach. -/
theorem rch_stps {gs : List (List Int)} {x y : Nat} (h : Rch gs x y) : Rch (mvs (stps gs gs.length)) x y := by
  induction h with
  | refl => exact .refl
  | @step u g hu hg ih =>
    refine ih.step ?_
    obtain ⟨j, hj, e⟩ := List.mem_iff_getElem.1 hg
    have h := stps_even (gs := gs) (k := gs.length) (j := j) hj
    refine List.mem_map.2 ⟨(stps gs gs.length).getD (2 * j) (0, []), ?_, ?_⟩
    · rw [List.getD_eq_getElem?_getD, List.getElem?_eq_getElem (by rw [stps_len]; omega)]; exact List.getElem_mem _
    · rw [h]; show gs.getD j [] = g; rw [List.getD_eq_getElem?_getD, List.getElem?_eq_getElem hj, ← e]; rfl
/-- The word between two points of an orbit. -/
theorem word_facts {gs : List (List Int)} {N x y : Nat} (hs : gB (N : Int) gs = true) (hx : x < N) (hy : y ∈ orb gs N x) : ∃ wd, wordO (N : Int) gs (x : Nat) (y : Nat) = some wd ∧ evP gs x wd = y ∧ (∀ l ∈ wd, Ltr gs.length l) ∧ wd.length ≤ N := by
  obtain ⟨N', hN', hN1, hN2, hg8, hpm, hok⟩ := gB_pm hs
  obtain rfl : N' = N := by omega
  have hyN := orb_lt hpm hx hy
  have hr := rch_stps ((orb_iff hpm hx).1 hy)
  rcases wrd_spec (y := y) (stps_pm hok (Nat.le_refl _)) hx with ⟨wd, e, led, hl⟩ | ⟨_, hn⟩
  · have e1 := led_ev led
    refine ⟨wd, ?_, e1.1, e1.2, hl⟩
    unfold wordO
    rw [if_pos ⟨hs, by omega, by omega⟩]
    exact e
  · exact absurd hr hn
theorem oS_at {gs : List (List Int)} {N x j : Nat} (hj : j < (oS gs N x).length) : ∃ y, (oS gs N x).getD j 0 = ((y : Nat) : Int) ∧ y ∈ orb gs N x := by
  have hm : (oS gs N x).getD j 0 ∈ oS gs N x := by
    rw [List.getD_eq_getElem?_getD, List.getElem?_eq_getElem hj]; exact List.getElem_mem _
  obtain ⟨y, hy, e⟩ := List.mem_map.1 hm
  exact ⟨y, e.symm, (mem_oN.1 hy).2⟩

theorem Dice.below {w w' : World} {B g len cap : Nat} {A : Option Addr} (h : Dice w g A len cap) (hb : Below B w w') (hg : g < B) : Dice w' g A len cap := by
  obtain ⟨i, h, a, b, c, blk⟩ := h
  exact ⟨i, h, a, b, c, blk.below hb hg⟩

set_option maxHeartbeats 8000000 in
set_option maxRecDepth 100000 in
theorem lawOrbitsN (A : Option Addr) (cap len : Nat) (w : World) (hb : SB w w.heap.size A len) :
    Calls Try.prog 3 #[.slice A len cap] w fun e w' => e = .returned (.bool true) ∧ Below w.heap.size w w' := by
  by_cases hl : len ≤ 4096
  · have HSB := Lib.hid hb
    go_enter Try.func3, Try.ntmps3
    go_wp2_with fail
    refine (bigF3 A len cap w hl).mono ?_
    rintro e w0 ⟨rfl, rfl⟩
    go_wp2_with fail
    refine (drawOC len cap A w hb hl).mono ?_
    rintro e w1 ⟨z, A1, m, c, vs, xss, rfl, hB, rr, hm, hln, b1⟩
    have Rr1 := Lib.hid rr
    have B1 := Lib.hid b1
    have Ln : Hid (∀ i, i < m → (vs.getD i sd0).2.1 ≤ 1048576) := Lib.hid fun i hi => by have := hln i hi; omega
    have HB : Hid (-9223372036854775808 ≤ z ∧ z ≤ 9223372036854775807) := Lib.hid hB
    have hm1 : m ≤ 1048576 := by omega
    have hlx : Hid (m = xss.length) := Lib.hid rr.lx.symm
    clear rr b1 hln hB hb
    go_wp2_with fail
    refine (implOrbits z A1 m c vs xss w1 Rr1.out hm1 Ln).mono ?_
    rintro e w2 ⟨A2, m2, c2, us2, rfl, s2, b2⟩
    have Rr2 := Lib.hid (Rr1.out.up b2)
    have B2 : Hid (Below w.heap.size w w2) := Lib.hid (btr B1.out b2)
    have O2 := Lib.hid s2.rr
    have hok := orbitsL_ok z xss
    have Lm2 : Hid ((orbitsL z xss).length = m2) := Lib.hid s2.lx
    have hm2 : m2 ≤ 1048576 := by rw [← Lm2.out]; omega
    have L2 : Hid (∀ i, i < m2 → ((orbitsL z xss).getD i []).length ≤ 1048576) := Lib.hid fun i hi => by
      have := len_of hok.2 i (by rw [Lm2.out]; exact hi); omega
    clear s2 b2 hok
    go_wp2_with fail
    refine (specOrbits z A1 m c vs xss w2 Rr2.out hm1 Ln HB.out).mono ?_
    rintro e w3 ⟨A3, m3, c3, us3, rfl, s3, b3⟩
    have Rr3 := Lib.hid (Rr2.out.up b3)
    have B3 : Hid (Below w.heap.size w w3) := Lib.hid (btr B2.out b3)
    have O3 := Lib.hid (O2.out.up b3)
    have J3 := Lib.hid s3.rr
    clear s3 b3
    go_wp2_with fail
    refine (likeRR_same A2 A3 m2 c2 m3 c3 us2 us3 _ w3 O3.out J3.out hm2 L2).mono ?_
    rintro e w4 ⟨rfl, b4⟩
    have Rr4 := Lib.hid (Rr3.out.up b4)
    have B4 : Hid (Below w.heap.size w w4) := Lib.hid (btr B3.out b4)
    clear b4
    go_wp2_with fail
    refine (implGS z A1 m c vs xss w4 Rr4.out hm1 Ln).mono ?_
    rintro e w5 ⟨rfl, b5⟩
    have Rr5 := Lib.hid (Rr4.out.up b5)
    have B5 : Hid (Below w.heap.size w w5) := Lib.hid (btr B4.out b5)
    clear b5
    go_wp2_with fail
    refine (specGS z A1 m c vs xss w5 Rr5.out hm1 Ln HB.out).mono ?_
    rintro e w6 ⟨rfl, b6⟩
    have Rr6 := Lib.hid (Rr5.out.up b6)
    have B6 : Hid (Below w.heap.size w w6) := Lib.hid (btr B5.out b6)
    obtain ⟨q, hq⟩ : ∃ q, gB z xss = q := ⟨_, rfl⟩
    have Hq := Lib.hid hq
    have ne1 : (q != q) = false := by simp
    rw [hq]
    clear b6 hq
    go_wp2_with fail
    refine (implIsTransitive z A1 m c vs xss w6 Rr6.out hm1 Ln).mono ?_
    rintro e w7 ⟨rfl, b7⟩
    have Rr7 := Lib.hid (Rr6.out.up b7)
    have B7 : Hid (Below w.heap.size w w7) := Lib.hid (btr B6.out b7)
    clear b7
    rw [show transB z xss = ((m2 : Int) == 1) from by
      rw [trans_len, Lm2.out, Bool.eq_iff_iff, decide_eq_true_eq, beq_iff_eq]; omega]
    have ne2 : (((m2 : Int) == 1) != ((m2 : Int) == 1)) = false := by simp
    go_wp2_with fail
    refine (specGS z A1 m c vs xss w7 Rr7.out hm1 Ln HB.out).mono ?_
    rintro e w8 ⟨rfl, b8⟩
    have Rr8 := Lib.hid (Rr7.out.up b8)
    have B8 : Hid (Below w.heap.size w w8) := Lib.hid (btr B7.out b8)
    rw [Hq.out]
    clear b8
    rcases q with _ | _
    · have hz0 : m2 = 0 := by rw [← Lm2.out, orbitsL_no Hq.out]; rfl
      subst hz0
      go_wp2_with fail
      go_ret
      exact ⟨rfl, B8.out⟩
    · have hs := Hq.out
      obtain ⟨N, hN, hN1, hN2, hg8, hpm, hokg⟩ := gB_pm hs
      subst hN
      have Hs := Lib.hid hs
      have Pm := Lib.hid hpm
      have Ok := Lib.hid hokg
      have hm8 : m ≤ 8 := by rw [hlx.out]; exact hg8
      clear hs hpm hokg
      have Rb8 : Hid (RB w8 w8.heap.size A len) := Lib.hid fun hn => by
        obtain ⟨b, off, e, hb, hc⟩ := RB.below (show RB w w.heap.size A len from HSB.out) B8.out (Nat.le_refl _) hn
        exact ⟨b, off, e, by have := B8.out.size; omega, hc⟩
      have hz8 := B8.out.size
      go_wp2_with fail
      refine (rollDice len cap 904 A w8 Rb8.out hl (by omega) (by omega)).mono ?_
      rintro e w9 ⟨rfl, dc9, b9, hz9⟩
      obtain ⟨g, hg⟩ : ∃ g, w8.heap.size = g := ⟨_, rfl⟩
      have Rb9 : Hid (RB w9 g A len) := Lib.hid (by rw [← hg]; exact Rb8.out.below b9 (Nat.le_refl _))
      have Rr9 : Hid (RR w9 g A1 m vs xss) := Lib.hid (by rw [← hg]; exact Rr8.out.below b9 (Nat.le_refl _))
      have B9 : Hid (Below w.heap.size w w9) := Lib.hid (btr B8.out b9)
      rw [hg] at dc9 hz9 hz8 ⊢
      have Dc9 := Lib.hid dc9
      clear dc9 b9 Rb8 Rr8 Rr7 Rr6 Rr5 Rr4 Rr3 Rr2 Rr1 O2 O3 J3 L2 B1 B2 B3 B4 B5 B6 B7
      go_wp2_with fail
      refine (diceBelow g len cap N A g w9 Dc9.out Rb9.out hl hN1 (by omega) (Nat.le_refl _)).mono ?_
      rintro e w10 ⟨x, hx, rfl, dc10, g10⟩
      have hz10 := g10.size
      have Rb10 : Hid (RB w10 g A len) := Lib.hid (Rb9.out.gro g10 (Nat.le_refl _) hz9)
      have Rr10 : Hid (RR w10 g A1 m vs xss) := Lib.hid (Rr9.out.grown g10 (by omega) (by intro k e; injection e with e; omega))
      have B10 : Hid (Below w.heap.size w w10) := Lib.hid (below_gro3 B9.out g10 hz8)
      have Dc10 := Lib.hid dc10
      clear dc10 g10 Rb9 Rr9 B9 Dc9
      have hgB := Hs.out
      have Eo : Hid (orbitL (N : Int) xss (x : Int) = oS xss N x) := Lib.hid (by
        unfold orbitL
        rw [if_pos ⟨hgB, by omega, by omega⟩, Int.toNat_natCast, Int.toNat_natCast])
      clear hgB
      go_wp2_with fail
      refine (implOrbit N A1 m c x vs xss w10 (Rr10.out.more (by omega)) hm1 Ln).mono ?_
      rintro e w11 ⟨A11, m11, c11, rfl, s11, hm11, b11⟩
      rw [Eo.out] at s11
      have hz11 := b11.size
      have Or11 := Lib.hid s11
      have Rb11 : Hid (RB w11 g A len) := Lib.hid (Rb10.out.below b11 (by omega))
      have Rr11 : Hid (RR w11 g A1 m vs xss) := Lib.hid (Rr10.out.below b11 (by omega))
      have B11 : Hid (Below w.heap.size w w11) := Lib.hid (btr B10.out b11)
      have Dc11 : Hid (Dice w11 g A len cap) := Lib.hid (Dc10.out.below b11 (by omega))
      clear s11 b11 Rb10 Rr10 B10 Dc10
      go_wp2_with fail
      refine (specOrbit N A1 m c x vs xss w11 (Rr11.out.more (by omega)) hm1 Ln (by omega)).mono ?_
      rintro e w12 ⟨A12, m12, c12, rfl, s12, hm12, b12⟩
      rw [Eo.out] at s12
      have hz12 := b12.size
      have Or12 := Lib.hid (Or11.out.up b12)
      have Os12 := Lib.hid s12
      have Rb12 : Hid (RB w12 g A len) := Lib.hid (Rb11.out.below b12 (by omega))
      have Rr12 : Hid (RR w12 g A1 m vs xss) := Lib.hid (Rr11.out.below b12 (by omega))
      have B12 : Hid (Below w.heap.size w w12) := Lib.hid (btr B11.out b12)
      have Dc12 : Hid (Dice w12 g A len cap) := Lib.hid (Dc11.out.below b12 (by omega))
      clear s12 b12 Rb11 Rr11 B11 Dc11 Or11
      go_wp2_with fail
      refine (likeI_same _ _ A11 A12 m11 c11 m12 c12 w12 Or12.out Os12.out (by omega)).mono ?_
      rintro e w13 ⟨rfl, b13⟩
      have hz13 := b13.size
      have Or13 := Lib.hid (Or12.out.up b13)
      have Rb13 : Hid (RB w13 g A len) := Lib.hid (Rb12.out.below b13 (by omega))
      have Rr13 : Hid (RR w13 g A1 m vs xss) := Lib.hid (Rr12.out.below b13 (by omega))
      have B13 : Hid (Below w.heap.size w w13) := Lib.hid (btr B12.out b13)
      have Dc13 : Hid (Dice w13 g A len cap) := Lib.hid (Dc12.out.below b13 (by omega))
      clear b13 Rb12 Rr12 B12 Dc12 Or12 Os12
      have h1m : 1 ≤ m11 := by
        rw [← Or13.out.1]
        unfold oS
        rw [List.length_map]
        exact List.length_pos_of_mem (mem_oN.2 ⟨hx, (orb_iff Pm.out hx).2 .refl⟩)
      go_wp2_with fail
      refine (diceBelow g len cap m11 A g w13 Dc13.out Rb13.out hl h1m (by omega) (Nat.le_refl _)).mono ?_
      rintro e w14 ⟨j, hj, rfl, dc14, g14⟩
      have hz14 := g14.size
      have Rr14 : Hid (RR w14 g A1 m vs xss) := Lib.hid (Rr13.out.grown g14 (by omega) (by intro k e; injection e with e; omega))
      have B14 : Hid (Below w.heap.size w w14) := Lib.hid (below_gro3 B13.out g14 hz8)
      have Or14 : Hid (Slc w14 w10.heap.size A11 m11 c11 (oS xss N x)) := Lib.hid (Or13.out.kept g14 (by
        rcases e : (Value.slice A11 m11 c11).ownBlock with _ | k
        · exact .inl rfl
        · exact .inr (by intro q; have := (Or13.out.lt_ k e).1; injection q with q; omega)))
      obtain ⟨y, hy, hyo⟩ := oS_at (gs := xss) (N := N) (x := x) (j := j) (by rw [Or13.out.1]; exact hj)
      obtain ⟨wd, hwd, hev, hlt, hwl⟩ := word_facts Hs.out hx hyo
      have Ev := Lib.hid hev
      have Lt : Hid (∀ l ∈ wd, Ltr m l) := Lib.hid (by rw [hlx.out]; exact hlt)
      have Wd := Lib.hid hwd
      obtain ⟨b, off, hA, hb, hc⟩ := Or14.out.ri_ (by rw [Or14.out.1]; omega)
      subst hA
      have c1 := hc j (by rw [Or14.out.1]; exact hj)
      rw [hy] at c1
      clear dc14 g14 Rb13 Rr13 B13 Dc13 Or13 hc hev hlt hwd hb hy
      have p0 : (0 : Int) ≤ j := by omega
      have p1 : (j : Int) < m11 := by omega
      go_wp2_with fail
      refine (implShortestWordTo N A1 m c x y vs xss w14 (Rr14.out.more (by omega)) hm1 Ln).mono ?_
      rintro e w15 ⟨A15, m15, c15, rfl, s15, hm15, b15⟩
      have hz15 := b15.size
      rw [Wd.out] at s15 ⊢
      have Sw15 : Hid (Slc w15 w14.heap.size A15 m15 c15 wd) := Lib.hid s15
      have Rr15 : Hid (RR w15 g A1 m vs xss) := Lib.hid (Rr14.out.below b15 (by omega))
      have B15 : Hid (Below w.heap.size w w15) := Lib.hid (btr B14.out b15)
      clear s15 b15 Rr14 B14 Or14 c1 p0 p1
      go_wp2_with fail
      refine (specEvalWord N m c m15 c15 x A1 A15 vs xss wd w15 (Rr15.out.more (by omega)) Ln Sw15.out.ri_ Sw15.out.hid Hs.out Ok Lt hN1 hN2 hm8 (by omega) hx).mono ?_
      rintro e w16 ⟨A16, c16, P, rfl, s16, hnx, hP, b16⟩
      have hz16 := b16.size
      have Sp16 := Lib.hid s16
      have Rr16 : Hid (RR w16 g A1 m vs xss) := Lib.hid (Rr15.out.below b16 (by omega))
      have B16 : Hid (Below w.heap.size w w16) := Lib.hid (btr B15.out b16)
      obtain ⟨b, off, hA, hb, hc⟩ := Sp16.out.ri_ (by rw [Sp16.out.1]; omega)
      subst hA
      have c1 := hc x (by rw [Sp16.out.1]; exact hx)
      rw [nx_val hP (by rw [Sp16.out.1]; exact hx), hnx, Ev.out] at c1
      clear s16 b16 Rr15 B15 Sw15 hc hb hnx hP
      have p0 : (0 : Int) ≤ x := by omega
      have p1 : (x : Int) < N := by omega
      have eyy : ((y : Int) == (y : Int)) = true := by simp
      have sm : (some wd).isSome = true := rfl
      go_wp2_with fail
      refine (implFixedPoints N A1 m c vs xss w16 (Rr16.out.more (by omega)) hm1 Ln).mono ?_
      rintro e w17 ⟨A17, m17, c17, rfl, s17, hm17, b17⟩
      have hz17 := b17.size
      have F17 := Lib.hid s17
      have Rr17 : Hid (RR w17 g A1 m vs xss) := Lib.hid (Rr16.out.below b17 (by omega))
      have B17 : Hid (Below w.heap.size w w17) := Lib.hid (btr B16.out b17)
      clear s17 b17
      go_wp2_with fail
      refine (specFixedPoints N A1 m c vs xss w17 (Rr17.out.more (by omega)) hm1 Ln (by omega)).mono ?_
      rintro e w18 ⟨A18, m18, c18, rfl, s18, hm18, b18⟩
      have F18 := Lib.hid (F17.out.up b18)
      have H18 := Lib.hid s18
      have B18 : Hid (Below w.heap.size w w18) := Lib.hid (btr B17.out b18)
      clear s18 b18
      go_wp2_with fail
      refine (likeI_same _ _ A17 A18 m17 c17 m18 c18 w18 F18.out H18.out (by omega)).mono ?_
      rintro e w19 ⟨rfl, b19⟩
      have B19 : Hid (Below w.heap.size w w19) := Lib.hid (btr B18.out b19)
      clear b19
      go_wp2_with fail
      go_ret
      exact ⟨rfl, B19.out⟩
  · go_enter Try.func3, Try.ntmps3
    go_wp2_with fail
    refine (bigT3 A len cap w (by omega)).mono ?_
    rintro e w0 ⟨rfl, rfl⟩
    go_wp2_with fail
    go_ret
    exact ⟨rfl, Below.refl _ _⟩
end Go.Proofs.Ytojmlmeahoppjaa
