/- The walk of the law FnPowers: it returns true at every code, and writes nothing that was there. No condition. -/
import Derived.Test.YtonanelghnjhpabPows
namespace Go.Proofs.Ytonanelghnjhpab
open Go.RowKit

theorem ord_ok {p : List Int} (ip : IsP p) : 1 ≤ ordL p ∧ ordL p ≤ 232792560 := lcmL_pos (pers_ok ip)
theorem pow_ord' {p : List Int} {n o : Nat} (hp : IsP p) (hn : p.length = n) (ho : ordL p = o) : powL p (o : Int) = idL n := by subst hn; subst ho; exact pow_ord hp
theorem pow_not' {p : List Int} {n o i : Nat} (hp : IsP p) (hn : p.length = n) (ho : ordL p = o) (h1 : 1 ≤ i) (h2 : i < o) : powL p (i : Int) ≠ idL n := by subst hn; subst ho; exact pow_not hp h1 h2
theorem pow_neg' {p : List Int} {n : Nat} (hp : IsP p) (hn : p.length = n) : powL p (-1) = invL p n := by subst hn; exact pow_neg hp

set_option maxHeartbeats 4000000 in
set_option maxRecDepth 100000 in
/-- The law FnPowers. -/
theorem lawPowers (A : Option Addr) (cap len : Nat) (w : World) (hb : RB w w.heap.size A len) :
    Calls Try.prog 4 #[.slice A len cap] w fun e w' => e = .returned (.bool true) ∧ Below w.heap.size w w' := by
  by_cases hl : len ≤ 4096
  · go_enter Try.func4, Try.ntmps4
    go_wp2_with fail
    refine (bigT A len cap w hl).mono ?_
    rintro e w0 ⟨rfl, rfl⟩
    go_wp2_with fail
    refine (rollDice len cap 902 A w hb hl (by omega) (by omega)).mono ?_
    rintro e w1 ⟨rfl, di1, b1, sz1⟩
    have D1 := Lib.hid di1
    have B1 := Lib.hid b1
    have HB := Lib.hid hb
    have Z1 := Lib.hid sz1
    clear di1 b1 hb sz1
    go_wp2_with fail
    refine (diceBelowK w.heap.size len cap 8 _ A w.heap.size w1 D1.out (HB.out.below B1.out (Nat.le_refl _)) hl (by omega) (by omega) (Nat.le_refl _) (by omega)).mono ?_
    rintro e w2 ⟨r, hr, rfl, di2, g2⟩
    have D2 := Lib.hid di2
    have B2 : Hid (Below w.heap.size w w2) := Lib.hid (below_gro B1.out g2 (Nat.le_refl _))
    have Z2 : Hid (w.heap.size < w2.heap.size) := Lib.hid (Nat.lt_of_lt_of_le Z1.out g2.size)
    clear di2 g2
    obtain ⟨n, hn⟩ : ∃ n : Nat, n = 1 + r := ⟨_, rfl⟩
    have hn1 : 1 ≤ n := by omega
    have hn20 : n ≤ 20 := by omega
    have hK : ((1 : Int) + (r : Int)) = (n : Int) := by omega
    have HK := Lib.hid hK
    clear hK
    clear hn
    go_wp2_with fail
    refine (swapT w.heap.size len cap n _ A w.heap.size w2 D2.out (HB.out.below B2.out (Nat.le_refl _)) hl hn1 hn20 (Nat.le_refl _) Z2.out HK.out).mono ?_
    rintro e w3 ⟨App, cpp, pp, rfl, s3, ip3, di3, g3⟩
    have D3 := Lib.hid di3
    have B3 : Hid (Below w.heap.size w w3) := Lib.hid (below_gro B2.out g3 (Nat.le_refl _))
    have Z3 : Hid (w.heap.size < w3.heap.size) := Lib.hid (Nat.lt_of_lt_of_le Z2.out g3.size)
    have Spp_3 := Lib.hid s3
    have Ipp := Lib.hid ip3
    have Lpp := s3.hid
    have Hpp : Hid (w.heap.size < w2.heap.size) := Z2
    clear s3 ip3 di3 g3
    go_wp2_with fail
    refine (diceBelowK w.heap.size len cap 21 _ A w.heap.size w3 D3.out (HB.out.below B3.out (Nat.le_refl _)) hl (by omega) (by omega) (Nat.le_refl _) (by omega)).mono ?_
    rintro e w4 ⟨r1, hr1, rfl, di4, g4⟩
    have D4 := Lib.hid di4
    have B4 : Hid (Below w.heap.size w w4) := Lib.hid (below_gro B3.out g4 (Nat.le_refl _))
    have Z4 : Hid (w.heap.size < w4.heap.size) := Lib.hid (Nat.lt_of_lt_of_le Z3.out g4.size)
    have Spp_4 := Lib.hid (Spp_3.out.gro g4 Hpp.out)
    clear Spp_3
    clear di4 g4
    go_wp2_with fail
    refine (diceBelowK w.heap.size len cap 21 _ A w.heap.size w4 D4.out (HB.out.below B4.out (Nat.le_refl _)) hl (by omega) (by omega) (Nat.le_refl _) (by omega)).mono ?_
    rintro e w5 ⟨r2, hr2, rfl, di5, g5⟩
    have D5 := Lib.hid di5
    have B5 : Hid (Below w.heap.size w w5) := Lib.hid (below_gro B4.out g5 (Nat.le_refl _))
    have Z5 : Hid (w.heap.size < w5.heap.size) := Lib.hid (Nat.lt_of_lt_of_le Z4.out g5.size)
    have Spp_5 := Lib.hid (Spp_4.out.gro g5 Hpp.out)
    clear Spp_4
    clear di5 g5
    obtain ⟨o, eo⟩ : ∃ o, ordL pp = o := ⟨_, rfl⟩
    have ho := ord_ok Ipp.out
    rw [eo] at ho
    have EO := Lib.hid eo
    clear eo
    go_wp2_with fail
    refine (powT ((r1 : Int) - 10) App cpp n _ _ w5 Spp_5.out Ipp (by omega) (by omega)).mono ?_
    rintro e w6 ⟨Apj, cpj, rfl, s6, b6⟩
    have B6 : Hid (Below w.heap.size w w6) := Lib.hid (btr B5.out b6)
    have Spp_6 := Lib.hid (Spp_5.out.up b6)
    clear Spp_5
    have Spj_6 := Lib.hid s6
    have Lpj := s6.hid
    have Ipj := Lib.hid (isP_pow Ipp.out ((r1 : Int) - 10))
    clear s6 b6
    go_wp2_with fail
    refine (powT ((r2 : Int) - 10) App cpp n _ _ w6 Spp_6.out Ipp (by omega) (by omega)).mono ?_
    rintro e w7 ⟨Apk, cpk, rfl, s7, b7⟩
    have B7 : Hid (Below w.heap.size w w7) := Lib.hid (btr B6.out b7)
    have Spp_7 := Lib.hid (Spp_6.out.up b7)
    clear Spp_6
    have Spj_7 := Lib.hid (Spj_6.out.up b7)
    clear Spj_6
    have Spk_7 := Lib.hid s7
    have Lpk := s7.hid
    have Ipk := Lib.hid (isP_pow Ipp.out ((r2 : Int) - 10))
    clear s7 b7
    go_wp2_with fail
    refine (compT Apj Apk cpj cpk n _ _ _ _ w7 Spj_7.out Spk_7.out Ipj Ipk).mono ?_
    rintro e w8 ⟨Axx, cxx, rfl, s8, b8⟩
    have B8 : Hid (Below w.heap.size w w8) := Lib.hid (btr B7.out b8)
    have Spp_8 := Lib.hid (Spp_7.out.up b8)
    clear Spp_7
    have Spj_8 := Lib.hid (Spj_7.out.up b8)
    clear Spj_7
    have Spk_8 := Lib.hid (Spk_7.out.up b8)
    clear Spk_7
    rw [pow_add Ipp.out] at s8
    have Sxx_8 := Lib.hid s8
    have Lxx := s8.hid
    clear s8 b8
    go_wp2_with fail
    refine (ordT App cpp n o _ _ w8 Spp_8.out Ipp EO).mono ?_
    rintro e w9 ⟨rfl, b9⟩
    have B9 : Hid (Below w.heap.size w w9) := Lib.hid (btr B8.out b9)
    have Spp_9 := Lib.hid (Spp_8.out.up b9)
    clear Spp_8
    have Spj_9 := Lib.hid (Spj_8.out.up b9)
    clear Spj_8
    have Spk_9 := Lib.hid (Spk_8.out.up b9)
    clear Spk_8
    have Sxx_9 := Lib.hid (Sxx_8.out.up b9)
    clear Sxx_8
    clear b9
    go_wp2_with fail
    refine (powT ((r1 : Int) - 10 + ((r2 : Int) - 10)) App cpp n _ _ w9 Spp_9.out Ipp (by omega) (by omega)).mono ?_
    rintro e w10 ⟨Apl, cpl, rfl, s10, b10⟩
    have B10 : Hid (Below w.heap.size w w10) := Lib.hid (btr B9.out b10)
    have Spp_10 := Lib.hid (Spp_9.out.up b10)
    clear Spp_9
    have Spj_10 := Lib.hid (Spj_9.out.up b10)
    clear Spj_9
    have Spk_10 := Lib.hid (Spk_9.out.up b10)
    clear Spk_9
    have Sxx_10 := Lib.hid (Sxx_9.out.up b10)
    clear Sxx_9
    have Spl_10 := Lib.hid s10
    have Lpl := s10.hid
    clear s10 b10
    go_wp2_with fail
    refine (likeT _ _ Axx Apl n cxx n cpl w10 Sxx_10.out Spl_10.out (by omega)).mono ?_
    rintro e w11 ⟨rfl, b11⟩
    have B11 : Hid (Below w.heap.size w w11) := Lib.hid (btr B10.out b11)
    have Spp_11 := Lib.hid (Spp_10.out.up b11)
    clear Spp_10
    have Spj_11 := Lib.hid (Spj_10.out.up b11)
    clear Spj_10
    have Spk_11 := Lib.hid (Spk_10.out.up b11)
    clear Spk_10
    have Sxx_11 := Lib.hid (Sxx_10.out.up b11)
    clear Sxx_10
    have Spl_11 := Lib.hid (Spl_10.out.up b11)
    clear Spl_10
    clear b11
    go_wp2_with fail
    refine (ordTs App cpp n o _ _ w11 Spp_11.out Ipp EO).mono ?_
    rintro e w12 ⟨rfl, b12⟩
    have B12 : Hid (Below w.heap.size w w12) := Lib.hid (btr B11.out b12)
    have Spp_12 := Lib.hid (Spp_11.out.up b12)
    clear Spp_11
    have Spj_12 := Lib.hid (Spj_11.out.up b12)
    clear Spj_11
    have Spk_12 := Lib.hid (Spk_11.out.up b12)
    clear Spk_11
    have Sxx_12 := Lib.hid (Sxx_11.out.up b12)
    clear Sxx_11
    have Spl_12 := Lib.hid (Spl_11.out.up b12)
    clear Spl_11
    clear b12
    go_wp2_with fail
    refine (powT ((o : Int)) App cpp n _ _ w12 Spp_12.out Ipp (by omega) (by omega)).mono ?_
    rintro e w13 ⟨Apo, cpo, rfl, s13, b13⟩
    have B13 : Hid (Below w.heap.size w w13) := Lib.hid (btr B12.out b13)
    have Spp_13 := Lib.hid (Spp_12.out.up b13)
    clear Spp_12
    have Spj_13 := Lib.hid (Spj_12.out.up b13)
    clear Spj_12
    have Spk_13 := Lib.hid (Spk_12.out.up b13)
    clear Spk_12
    have Sxx_13 := Lib.hid (Sxx_12.out.up b13)
    clear Sxx_12
    have Spl_13 := Lib.hid (Spl_12.out.up b13)
    clear Spl_12
    rw [pow_ord' Ipp.out Lpp.out EO.out] at s13
    have Spo_13 := Lib.hid s13
    have Lpo := s13.hid
    clear s13 b13
    go_wp2_with fail
    refine (idT _ n w13 rfl hn1 hn20).mono ?_
    rintro e w14 ⟨Aone, cone, rfl, s14, b14⟩
    have B14 : Hid (Below w.heap.size w w14) := Lib.hid (btr B13.out b14)
    have Spp_14 := Lib.hid (Spp_13.out.up b14)
    clear Spp_13
    have Spj_14 := Lib.hid (Spj_13.out.up b14)
    clear Spj_13
    have Spk_14 := Lib.hid (Spk_13.out.up b14)
    clear Spk_13
    have Sxx_14 := Lib.hid (Sxx_13.out.up b14)
    clear Sxx_13
    have Spl_14 := Lib.hid (Spl_13.out.up b14)
    clear Spl_13
    have Spo_14 := Lib.hid (Spo_13.out.up b14)
    clear Spo_13
    have Sone_14 := Lib.hid s14
    have Lone := s14.hid
    clear s14 b14
    go_wp2_with fail
    refine (likeT _ _ Apo Aone n cpo n cone w14 Spo_14.out Sone_14.out (by omega)).mono ?_
    rintro e w15 ⟨rfl, b15⟩
    have B15 : Hid (Below w.heap.size w w15) := Lib.hid (btr B14.out b15)
    have Spp_15 := Lib.hid (Spp_14.out.up b15)
    clear Spp_14
    have Spj_15 := Lib.hid (Spj_14.out.up b15)
    clear Spj_14
    have Spk_15 := Lib.hid (Spk_14.out.up b15)
    clear Spk_14
    have Sxx_15 := Lib.hid (Sxx_14.out.up b15)
    clear Sxx_14
    have Spl_15 := Lib.hid (Spl_14.out.up b15)
    clear Spl_14
    have Spo_15 := Lib.hid (Spo_14.out.up b15)
    clear Spo_14
    have Sone_15 := Lib.hid (Sone_14.out.up b15)
    clear Sone_14
    clear b15
    clear Spj_15
    clear Spk_15
    clear Sxx_15
    clear Spl_15
    clear Spo_15
    clear Sone_15
    go_wp2_with fail
    go_loopw [11] (fun v wr => ∃ i : Nat, 1 ≤ i ∧ i ≤ o ∧ v = .int .i64 (i : Nat) ∧ Below w15.heap.size w15 wr) (fun v _ => o - (intOf v).toNat)
    case atStart => exact ⟨1, Nat.le_refl _, ho.1, rfl, Below.refl _ _⟩
    case round =>
      obtain ⟨i, hi1, hi, rfl, bel⟩ := hrel
      have BB : Hid (Below w.heap.size w wr) := Lib.hid (btr B15.out bel)
      have SP := Lib.hid (Spp_15.out.up bel)
      have Bel := Lib.hid bel
      clear bel
      by_cases hlt : i < o
      · go_wp2_with fail
        refine (powT (i : Int) App cpp n _ _ wr SP.out Ipp (by omega) (by omega)).mono ?_
        rintro e v1 ⟨Aa, ca, rfl, sa, ba⟩
        have SA := Lib.hid sa
        have BA := Lib.hid ba
        clear sa ba
        go_wp2_with fail
        refine (idTs _ n v1 rfl hn1 hn20).mono ?_
        rintro e v2 ⟨Ab, cb, rfl, sb, bb⟩
        have SA2 := Lib.hid (SA.out.up bb)
        have SB := Lib.hid sb
        have BB2 : Hid (Below wr.heap.size wr v2) := Lib.hid (btr BA.out bb)
        clear sb bb
        go_wp2_with fail
        refine (likeF (pow_not' Ipp.out Lpp.out EO.out hi1 hlt) _ _ Aa Ab n ca n cb v2 SA2.out SB.out (by omega) (by omega)).mono ?_
        rintro e v3 ⟨rfl, bc⟩
        have BC := Lib.hid (btr Bel.out (btr BB2.out bc))
        clear bc
        go_wp2_with fail
        go_roundw
        case rel => exact ⟨i + 1, by omega, by omega, by go_num, BC.out⟩
        case measure => simp [intOf]; omega
      · go_wp2_with fail
        refine (powT (-1) App cpp n _ _ wr SP.out Ipp (by omega) (by omega)).mono ?_
        rintro e v1 ⟨Aa, ca, rfl, sa, ba⟩
        rw [pow_neg' Ipp.out Lpp.out] at sa
        have SA := Lib.hid sa
        have BA : Hid (Below w.heap.size w v1) := Lib.hid (btr BB.out ba)
        have SP1 := Lib.hid (SP.out.up ba)
        clear sa ba
        go_wp2_with fail
        refine (invT App cpp n _ _ v1 SP1.out Ipp).mono ?_
        rintro e v2 ⟨Ab, cb, rfl, sb, bb⟩
        have SA2 := Lib.hid (SA.out.up bb)
        have SB := Lib.hid sb
        have BB2 : Hid (Below w.heap.size w v2) := Lib.hid (btr BA.out bb)
        clear sb bb
        go_wp2_with fail
        refine (likeT _ _ Aa Ab n ca n cb v2 SA2.out SB.out (by omega)).mono ?_
        rintro e v3 ⟨rfl, bc⟩
        have BC : Hid (Below w.heap.size w v3) := Lib.hid (btr BB2.out bc)
        clear bc
        go_wp2_with fail
        go_ret
        exact ⟨rfl, BC.out⟩
  · go_enter Try.func4, Try.ntmps4
    go_wp2_with fail
    refine (bigF A len cap w (by omega)).mono ?_
    rintro e w0 ⟨rfl, rfl⟩
    go_wp2_with fail
    go_ret
    exact ⟨rfl, Below.refl _ _⟩
end Go.Proofs.Ytonanelghnjhpab
