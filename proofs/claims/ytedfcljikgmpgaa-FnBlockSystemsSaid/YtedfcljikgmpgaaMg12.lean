/- Part 12 of the texts: WalkI7, Nmi7. No condition of its own: each text tells its own. -/
import Derived.Test.YtedfcljikgmpgaaMg11
import Derived.Test.YtedfcljikgmpgaaMg7
import Derived.Test.YtedfcljikgmpgaaMg6
import Derived.Test.YtedfcljikgmpgaaMg8
set_option linter.unusedVariables false
set_option linter.unusedSimpArgs false

/- The walk of the law FnBlockSystems: it returns true at every input, and writes nothing that was there. No condition. -/
namespace Go.Proofs.Ytedfcljikgmpgaa
open Go.RowKit

section
variable {a : Int} {gs A B out : List (List Int)} {N X Y : Nat} {r : Nat → Nat}
/-- Labels that the generators respect make a block system. -/
theorem canon_bs (hs : gB N gs = true) (h : ∀ g ∈ gs, Rf N r fun u => r (nx g u)) : BS N gs (canon N r) := by
  refine ⟨hs, by rw [Int.toNat_natCast]; exact canon_prt _ _, fun g hg => ?_⟩
  rw [Int.toNat_natCast]
  obtain ⟨N', e, _, _, _, _, ok⟩ := gB_pm hs
  obtain rfl : N = N' := by omega
  intro u v hu hv e
  have hgP : Pn N g := ok g hg
  exact (canon_bi (hgP.lt hu) (hgP.lt hv)).2 (h g hg u v hu hv ((canon_bi hu hv).1 e))
theorem LstJ.rsp (h : LstJ N A B r) (hA : ∀ g ∈ gs, Rsp N A g) (hB : ∀ g ∈ gs, Rsp N B g) (hP : ∀ g ∈ gs, Pn N g) : ∀ g ∈ gs, Rf N r fun u => r (nx g u) := fun g hg =>
  h.2.2 _ (fun u v hu hv e => h.1 _ _ ((hP g hg).lt hu) ((hP g hg).lt hv) (hA g hg u v hu hv e)) fun u v hu hv e => h.2.1 _ _ ((hP g hg).lt hu) ((hP g hg).lt hv) (hB g hg u v hu hv e)
theorem IsMin.bs (hs : gB N gs = true) (hX : X < N) (hY : Y < N) (h : IsMin N gs X Y out) : BS N gs out := by
  rcases h with ⟨_, r, hr, rfl⟩ | ⟨hn, _⟩
  · rw [Int.toNat_natCast, Int.toNat_natCast, Int.toNat_natCast] at hr
    rw [Int.toNat_natCast]
    exact hr.bs hs
  · exact absurd ⟨hs, ⟨by omega, by omega⟩, by omega, by omega⟩ hn
theorem IsJoin.bs (hA : BS N gs A) (hB : BS N gs B) (h : IsJoin N A B out) : BS N gs out ∧ out.length ≤ B.length ∧ out.length ≤ A.length := by
  obtain ⟨N', e, h1, h2, _, _, ok⟩ := gB_pm hA.1
  obtain rfl : N = N' := by omega
  have pA := hA.2.1
  have pB := hB.2.1
  have rA := hA.2.2
  have rB := hB.2.2
  rw [Int.toNat_natCast] at pA pB rA rB
  rcases h with ⟨_, r, hr, rfl⟩ | ⟨hn, _⟩
  · rw [Int.toNat_natCast] at hr ⊢
    exact ⟨canon_bs hA.1 (hr.rsp rA rB ok), canon_len_le pB hr.2.1, canon_len_le pA hr.1⟩
  · exact absurd ⟨⟨by omega, by omega⟩, by rw [Int.toNat_natCast]; exact pA, by rw [Int.toNat_natCast]; exact pB⟩ hn
theorem GIn.of20 {w : World} {bo bi n c : Nat} {A : Option Addr} {vs : List SV} {l : List (List Int)} (h : SS w bo bi A n c vs l) (hb : l.length ≤ 20 ∧ ∀ y ∈ l, y.length ≤ 20) : GIn w A n vs l ∧ n ≤ 20 ∧ Hid (∀ i, i < n → (l.getD i []).length ≤ 1048576) := by
  have hr : ∀ i, i < n → (l.getD i []).length ≤ 20 := fun i hi => hb.2 _ (by
    rw [List.getD_eq_getElem?_getD, List.getElem?_eq_getElem (by rw [h.lx]; exact hi)]; exact List.getElem_mem _)
  have hn : n ≤ 20 := by rw [← h.lx]; exact hb.1
  exact ⟨⟨h.rr, by omega, fun i hi => by rw [← (h.row i hi).1]; have := hr i hi; omega⟩, hn, Lib.hid fun i hi => by have := hr i hi; omega⟩
end

set_option maxHeartbeats 16000000 in
set_option maxRecDepth 100000 in
theorem lawBlockSystems (A : Option Addr) (cap len : Nat) (w : World) (hb : SB w w.heap.size A len) :
    Calls Try.prog 11 #[.slice A len cap] w fun e w' => e = .returned (.bool true) ∧ Below w.heap.size w w' := by
  by_cases hl : len ≤ 4096
  · have HSB := Lib.hid hb
    go_enter Try.func11, Try.ntmps11
    go_wp2_with fail
    refine (bigF4 A len cap w hl).mono ?_
    rintro e w0 ⟨rfl, rfl⟩
    go_wp2_with fail
    refine (drawBS len cap A w hb hl).mono ?_
    rintro e w1 ⟨z, A1, m, c, vs, xss, B, k, d, us, yss, rfl, hB, gi, gj, hk, _, b1⟩
    have G1 := Lib.hid gi
    have Y1 := Lib.hid gj
    have HB := Lib.hid hB
    have Lk : Hid (yss.length = k) := Lib.hid gj.rr.lx
    have B1 := Lib.hid b1
    clear gi gj hB b1 hb
    go_wp2_with fail
    refine (implIsBlockSystem z A1 m c vs xss B k d us yss w1 G1.out Y1.out HB.out).mono ?_
    rintro e w2 ⟨is, rfl, ri, b2⟩
    have Ri := Lib.hid ri
    have G2 := Lib.hid (G1.out.up b2)
    have Y2 := Lib.hid (Y1.out.up b2)
    have B2 : Hid (Below w.heap.size w w2) := Lib.hid (btr B1.out b2)
    clear ri b2 G1 Y1
    go_wp2_with fail
    refine (ctBsy z A1 m c vs xss B k d us yss w2 G2.out Y2.out HB.out).mono ?_
    rintro e w3 ⟨is', rfl, ri', b3⟩
    obtain rfl : is' = is := ri'.uniq Ri.out
    have G3 := Lib.hid (G2.out.up b3)
    have Y3 := Lib.hid (Y2.out.up b3)
    have B3 : Hid (Below w.heap.size w w3) := Lib.hid (btr B2.out b3)
    have ne1 : (is' != is') = false := by simp
    clear ri' b3 G2 Y2
    go_wp2_with fail
    refine (specGS z A1 m c vs xss w3 G3.out.rr G3.out.hn (Lib.hid G3.out.hl) HB.out).mono ?_
    rintro e w4 ⟨rfl, b4⟩
    have G4 := Lib.hid (G3.out.up b4)
    have Y4 := Lib.hid (Y3.out.up b4)
    have B4 : Hid (Below w.heap.size w w4) := Lib.hid (btr B3.out b4)
    clear b4 G3 Y3
    rcases hs : gB z xss with _ | _
    · obtain rfl : is' = false := by
        rcases e : is' with _ | _
        · rfl
        · have := (Ri.out.1 e).1
          rw [hs] at this; cases this
      clear hs
      go_wp2_with fail
      go_ret
      exact ⟨rfl, B4.out⟩
    · obtain ⟨N, rfl, hN1, hN2, _, _, _⟩ := gB_pm hs
      have Hs := Lib.hid hs
      clear hs
      have Rb4 : Hid (RB w4 w4.heap.size A len) := Lib.hid fun hn => by
        obtain ⟨b, off, e, hb, hc⟩ := RB.below (show RB w w.heap.size A len from HSB.out) B4.out (Nat.le_refl _) hn
        exact ⟨b, off, e, by have := B4.out.size; omega, hc⟩
      have hz4 := B4.out.size
      go_wp2_with fail
      refine (rollDice len cap 905 A w4 Rb4.out hl (by omega) (by omega)).mono ?_
      rintro e w5 ⟨rfl, dc5, b5, hz5⟩
      obtain ⟨g, hg⟩ : ∃ g, w4.heap.size = g := ⟨_, rfl⟩
      have Rb5 : Hid (RB w5 g A len) := Lib.hid (by rw [← hg]; exact Rb4.out.below b5 (Nat.le_refl _))
      have G5 : Hid (RR w5 g A1 m vs xss) := Lib.hid (by rw [← hg]; exact G4.out.rr.below b5 (Nat.le_refl _))
      have Y5 : Hid (RR w5 g B k us yss) := Lib.hid (by rw [← hg]; exact Y4.out.rr.below b5 (Nat.le_refl _))
      have B5 : Hid (Below w.heap.size w w5) := Lib.hid (btr B4.out b5)
      rw [hg] at dc5 hz5 hz4 ⊢
      have Dc5 := Lib.hid dc5
      clear dc5 b5 Rb4
      go_wp2_with fail
      refine (diceBelow g len cap N A g w5 Dc5.out Rb5.out hl hN1 (by omega) (Nat.le_refl _)).mono ?_
      rintro e w6 ⟨X, hX, rfl, dc6, g6⟩
      have hz6 := g6.size
      have Rb6 : Hid (RB w6 g A len) := Lib.hid (Rb5.out.gro g6 (Nat.le_refl _) hz5)
      have G6 : Hid (RR w6 g A1 m vs xss) := Lib.hid (G5.out.grown g6 (by omega) (by intro k e; injection e with e; omega))
      have Y6 : Hid (RR w6 g B k us yss) := Lib.hid (Y5.out.grown g6 (by omega) (by intro k e; injection e with e; omega))
      have B6 : Hid (Below w.heap.size w w6) := Lib.hid (below_gro4 B5.out g6 hz4)
      have Dc6 := Lib.hid dc6
      clear dc6 g6 Rb5 G5 Y5 B5 Dc5
      go_wp2_with fail
      refine (diceBelow g len cap N A g w6 Dc6.out Rb6.out hl hN1 (by omega) (Nat.le_refl _)).mono ?_
      rintro e w7 ⟨Y, hY, rfl, _, g7⟩
      have hz7 := g7.size
      have G7 : Hid (GIn w7 A1 m vs xss) := Lib.hid ⟨(G6.out.grown g7 (by omega) (by intro k e; injection e with e; omega)).more (by omega), G4.out.hn, G4.out.hl⟩
      have Y7 : Hid (GIn w7 B k us yss) := Lib.hid ⟨(Y6.out.grown g7 (by omega) (by intro k e; injection e with e; omega)).more (by omega), Y4.out.hn, Y4.out.hl⟩
      have B7 : Hid (Below w.heap.size w w7) := Lib.hid (below_gro4 B6.out g7 hz4)
      have IN : Hid (I64 (N : Int)) := Lib.hid (by unfold I64; omega)
      have IX : Hid (I64 (X : Int)) := Lib.hid (by unfold I64; omega)
      have IY : Hid (I64 (Y : Int)) := Lib.hid (by unfold I64; omega)
      clear g7 G6 Y6 B6 Dc6 Rb6 G4 Y4
      go_wp2_with fail
      refine (implMinimalBlockSystem N A1 m c vs xss X Y w7 G7.out IN.out IX.out IY.out).mono ?_
      rintro e w8 ⟨A8, n8, c8, us8, l8, rfl, s8, r8, b8⟩
      have R8 := Lib.hid r8
      have Bs8 := Lib.hid (r8.bs Hs.out hX hY)
      obtain ⟨gi8, hn8, Ll8⟩ := GIn.of20 s8 r8.len
      have L8 := Lib.hid gi8
      have Ln8 : Hid (l8.length = n8) := Lib.hid s8.lx
      have G8 := Lib.hid (G7.out.up b8)
      have Y8 := Lib.hid (Y7.out.up b8)
      have B8 : Hid (Below w.heap.size w w8) := Lib.hid (btr B7.out b8)
      clear gi8 s8 r8 b8 G7 Y7
      go_wp2_with fail
      refine (ctMin N A1 m c vs xss X Y w8 G8.out IN.out IX.out IY.out).mono ?_
      rintro e w9 ⟨A9, n9, c9, us9, l9, rfl, s9, r9, b9⟩
      have e9 := R8.out.uniq r9
      subst e9
      have W9 := Lib.hid s9.rr
      have L9 := Lib.hid (L8.out.up b9)
      have G9 := Lib.hid (G8.out.up b9)
      have Y9 := Lib.hid (Y8.out.up b9)
      have B9 : Hid (Below w.heap.size w w9) := Lib.hid (btr B8.out b9)
      clear s9 r9 b9 G8 Y8 L8
      go_wp2_with fail
      refine (likeRR_same A8 A9 n8 c8 n9 c9 us8 us9 l8 w9 L9.out.rr W9.out (by omega) Ll8).mono ?_
      rintro e w10 ⟨rfl, b10⟩
      have L10 := Lib.hid (L9.out.up b10)
      have G10 := Lib.hid (G9.out.up b10)
      have Y10 := Lib.hid (Y9.out.up b10)
      have B10 : Hid (Below w.heap.size w w10) := Lib.hid (btr B9.out b10)
      clear b10 G9 Y9 L9 W9
      go_wp2_with fail
      refine (implIsBlockSystem N A1 m c vs xss A8 n8 c8 us8 l8 w10 G10.out L10.out IN.out).mono ?_
      rintro e w11 ⟨v, rfl, rv, b11⟩
      obtain rfl : v = true := rv.2 Bs8.out
      have L11 := Lib.hid (L10.out.up b11)
      have G11 := Lib.hid (G10.out.up b11)
      have Y11 := Lib.hid (Y10.out.up b11)
      have B11 : Hid (Below w.heap.size w w11) := Lib.hid (btr B10.out b11)
      clear rv b11 G10 Y10 L10
      rcases is' with _ | _
      · go_wp2_with fail
        go_ret
        exact ⟨rfl, B11.out⟩
      · have Bsy := Lib.hid (Ri.out.1 rfl)
        go_wp2_with fail
        refine (implJoinBlockSystems N A8 n8 c8 us8 l8 B k d us yss w11 L11.out Y11.out IN.out).mono ?_
        rintro e w12 ⟨A12, n12, c12, us12, l12, rfl, s12, r12, b12⟩
        have R12 := Lib.hid r12
        have Bs12 := Lib.hid (r12.bs Bs8.out Bsy.out).1
        obtain ⟨gi12, hn12, Ll12⟩ := GIn.of20 s12 r12.len
        have hle : n12 ≤ k ∧ n12 ≤ n8 := by
          have := (r12.bs Bs8.out Bsy.out).2
          rw [s12.lx, Lk.out, Ln8.out] at this
          exact this
        have J12 := Lib.hid gi12
        have L12 := Lib.hid (L11.out.up b12)
        have G12 := Lib.hid (G11.out.up b12)
        have Y12 := Lib.hid (Y11.out.up b12)
        have B12 : Hid (Below w.heap.size w w12) := Lib.hid (btr B11.out b12)
        have d1 : decide ((n12 : Int) ≤ (k : Int)) = true := by simp; omega
        have d2 : decide ((n12 : Int) ≤ (n8 : Int)) = true := by simp; omega
        have hle1 := hle.1
        have hle2 := hle.2
        clear gi12 s12 r12 b12 G11 Y11 L11 hle
        go_wp2_with fail
        refine (implIsBlockSystem N A1 m c vs xss A12 n12 c12 us12 l12 w12 G12.out J12.out IN.out).mono ?_
        rintro e w13 ⟨v, rfl, rv, b13⟩
        obtain rfl : v = true := rv.2 Bs12.out
        have J13 := Lib.hid (J12.out.up b13)
        have L13 := Lib.hid (L12.out.up b13)
        have Y13 := Lib.hid (Y12.out.up b13)
        have B13 : Hid (Below w.heap.size w w13) := Lib.hid (btr B12.out b13)
        clear rv b13 G12 J12 L12 Y12
        go_wp2_with fail
        refine (ctJoin N A8 n8 c8 us8 l8 B k d us yss w13 L13.out Y13.out IN.out).mono ?_
        rintro e w14 ⟨A14, n14, c14, us14, l14, rfl, s14, r14, b14⟩
        have e14 := R12.out.uniq r14
        subst e14
        have W14 := Lib.hid s14.rr
        have J14 := Lib.hid (J13.out.up b14)
        have B14 : Hid (Below w.heap.size w w14) := Lib.hid (btr B13.out b14)
        clear s14 r14 b14 J13
        go_wp2_with fail
        refine (likeRR_same A12 A14 n12 c12 n14 c14 us12 us14 l12 w14 J14.out.rr W14.out (by omega) Ll12).mono ?_
        rintro e w15 ⟨rfl, b15⟩
        have B15 : Hid (Below w.heap.size w w15) := Lib.hid (btr B14.out b15)
        clear b15
        go_wp2_with fail
        go_ret
        exact ⟨by first | rfl | exact ret_bool (decide_eq_true hle2), B15.out⟩
  · go_enter Try.func11, Try.ntmps11
    go_wp2_with fail
    refine (bigT4 A len cap w (by omega)).mono ?_
    rintro e w0 ⟨rfl, rfl⟩
    go_wp2_with fail
    go_ret
    exact ⟨rfl, Below.refl _ _⟩
end Go.Proofs.Ytedfcljikgmpgaa

/- The law FnBlockSystems and what its frame says of the bytes. Conditions: none beyond those of the texts imported. -/
namespace Go.Proofs.Ytedfcljikgmpgaa
open Go.RowKit
theorem nmdBlockSystems (A : Option Addr) (cap len : Nat) (w : World) (hb : SB w w.heap.size A len) :
    Calls Try.prog 11 #[.slice A len cap] w fun e w' => e = .returned (.bool true) ∧ Below w.heap.size w w' :=
  lawBlockSystems A cap len w hb
end Go.Proofs.Ytedfcljikgmpgaa
