/- The walk of the law FnCyclesAndSign: it returns true at every code, and writes nothing that was there. No condition. -/
import Derived.Test.YtopaeojcpidfgaaCycSign
namespace Go.Proofs.Ytopaeojcpidfgaa
open Go.RowKit

set_option maxHeartbeats 4000000 in
set_option maxRecDepth 100000 in
/-- The law FnCyclesAndSign. -/
theorem lawCyclesAndSign (A : Option Addr) (cap len : Nat) (w : World) (hb : RB w w.heap.size A len) :
    Calls Try.prog 5 #[.slice A len cap] w fun e w' => e = .returned (.bool true) ∧ Below w.heap.size w w' := by
  by_cases hl : len ≤ 4096
  · go_enter Try.func5, Try.ntmps5
    go_wp2_with fail
    refine (bigT A len cap w hl).mono ?_
    rintro e w0 ⟨rfl, rfl⟩
    go_wp2_with fail
    refine (rollDice len cap 903 A w hb hl (by omega) (by omega)).mono ?_
    rintro e w1 ⟨rfl, di1, b1, sz1⟩
    have D1 := Lib.hid di1
    have B1 := Lib.hid b1
    have HB := Lib.hid hb
    have Z1 := Lib.hid sz1
    clear di1 b1 hb sz1
    go_wp2_with fail
    refine (diceBelowK w.heap.size len cap 9 _ A w.heap.size w1 D1.out (HB.out.below B1.out (Nat.le_refl _)) hl (by omega) (by omega) (Nat.le_refl _) (by omega)).mono ?_
    rintro e w2 ⟨r, hr, rfl, di2, g2⟩
    have D2 := Lib.hid di2
    have B2 : Hid (Below w.heap.size w w2) := Lib.hid (below_gro B1.out g2 (Nat.le_refl _))
    have Z2 : Hid (w.heap.size < w2.heap.size) := Lib.hid (Nat.lt_of_lt_of_le Z1.out g2.size)
    clear di2 g2
    obtain ⟨n, hn⟩ : ∃ n : Nat, n = 1 + r := ⟨_, rfl⟩
    have hn1 : 1 ≤ n := by omega
    have hn20 : n ≤ 20 := by omega
    have hK : ((1 : Int) + (r : Int)) = (n : Int) := by omega
    have HK := Lib.hid hK
    clear hK
    have hrn : r + 1 = n := by omega
    clear hn
    go_wp2_with fail
    refine (swapT w.heap.size len cap n _ A w.heap.size w2 D2.out (HB.out.below B2.out (Nat.le_refl _)) hl hn1 hn20 (Nat.le_refl _) Z2.out HK.out).mono ?_
    rintro e w3 ⟨App, cpp, pp, rfl, s3, ip3, di3, g3⟩
    have D3 := Lib.hid di3
    have B3 : Hid (Below w.heap.size w w3) := Lib.hid (below_gro B2.out g3 (Nat.le_refl _))
    have Z3 : Hid (w.heap.size < w3.heap.size) := Lib.hid (Nat.lt_of_lt_of_le Z2.out g3.size)
    have Spp_3 := Lib.hid s3
    have Ipp := Lib.hid ip3
    have Lpp := s3.hid
    have Hpp : Hid (w.heap.size < w2.heap.size) := Z2
    clear s3 ip3 di3 g3
    go_wp2_with fail
    refine (swapT w.heap.size len cap n _ A w.heap.size w3 D3.out (HB.out.below B3.out (Nat.le_refl _)) hl hn1 hn20 (Nat.le_refl _) Z3.out HK.out).mono ?_
    rintro e w4 ⟨Aqq, cqq, qq, rfl, s4, ip4, di4, g4⟩
    have D4 := Lib.hid di4
    have B4 : Hid (Below w.heap.size w w4) := Lib.hid (below_gro B3.out g4 (Nat.le_refl _))
    have Z4 : Hid (w.heap.size < w4.heap.size) := Lib.hid (Nat.lt_of_lt_of_le Z3.out g4.size)
    have Spp_4 := Lib.hid (Spp_3.out.gro g4 Hpp.out)
    clear Spp_3
    have Sqq_4 := Lib.hid s4
    have Iqq := Lib.hid ip4
    have Lqq := s4.hid
    have Hqq : Hid (w.heap.size < w3.heap.size) := Z3
    clear s4 ip4 di4 g4
    go_wp2_with fail
    refine (compT App Aqq cpp cqq n _ _ _ _ w4 Spp_4.out Sqq_4.out Ipp Iqq).mono ?_
    rintro e w5 ⟨Apq, cpq, rfl, s5, b5⟩
    have B5 : Hid (Below w.heap.size w w5) := Lib.hid (btr B4.out b5)
    have Spp_5 := Lib.hid (Spp_4.out.up b5)
    clear Spp_4
    have Sqq_5 := Lib.hid (Sqq_4.out.up b5)
    clear Sqq_4
    have Spq_5 := Lib.hid s5
    have Lpq := s5.hid
    have Ipq := Lib.hid (isP_comp Ipp.out Iqq.out (Lpp.out.trans Lqq.out.symm))
    clear s5 b5
    go_wp2_with fail
    refine (cycT App cpp n pp _ w5 Spp_5.out Ipp).mono ?_
    rintro e w6 ⟨Ac, M, cc0, vs, rfl, s6, hM, b6⟩
    have B6 : Hid (Below w.heap.size w w6) := Lib.hid (btr B5.out b6)
    have Spp_6 := Lib.hid (Spp_5.out.up b6)
    clear Spp_5
    have Sqq_6 := Lib.hid (Sqq_5.out.up b6)
    clear Sqq_5
    have Spq_6 := Lib.hid (Spq_5.out.up b6)
    clear Spq_5
    have SC := Lib.hid s6
    have lM : Hid ((longH pp).length = M) := Lib.hid (by rw [← s6.lx, List.length_map])
    clear s6 b6
    go_wp2_with fail
    go_loopw [10, 11, 12, 13] (fun mv iv _ _ wr => ∃ i m q : Nat, i ≤ M ∧ iv = .int .i64 (i : Nat) ∧ mv = .int .i64 (m : Nat) ∧ Hid (lenSum pp i = m) ∧ wr = w6.drewN q) (fun _ iv _ _ _ => M - (intOf iv).toNat)
    case atStart => exact ⟨0, 0, 0, Nat.zero_le _, rfl, rfl, Lib.hid rfl, rfl⟩
    case round =>
      obtain ⟨i, m, q, hi, rfl, rfl, hm, rfl⟩ := hrel
      have hm1 : m ≤ 400 := by have := lenSum_le Ipp.out i (by rw [lM.out]; exact hi); rw [hm.out] at this; omega
      by_cases hlt : i < M
      · obtain ⟨x, ex⟩ : ∃ x, (longH pp).getD i 0 = x := ⟨_, rfl⟩
        have hx := longH_at Ipp.out (by rw [lM.out]; exact hlt) ex
        have hs1 := lenSum_succ (p := pp) (by rw [lM.out]; exact hlt) ex
        obtain ⟨g, rfl, _, _, hc⟩ := SC.out.at_ (by omega)
        have c0 := hc i hlt
        have hrow := SC.out.row i hlt
        have ecy : ((longH pp).map (cyc pp)).getD i [] = cyc pp x := by
          rw [List.getD_eq_getElem?_getD, List.getElem?_map, ← ex, List.getD_eq_getElem?_getD, List.getElem?_eq_getElem (by rw [lM.out]; exact hlt)]; rfl
        rw [ecy] at hrow
        obtain ⟨l, el⟩ : ∃ l, per pp x = l := ⟨_, rfl⟩
        rw [el] at hs1 hx
        have hl20 : l ≤ 20 := by have := (per_spec Ipp.out hx.1).2.1; have := Ipp.out.le; omega
        have hml : (vs.getD i sd0).2.1 = l := by rw [← hrow.1, cyc_length, el]
        obtain ⟨A5, e5⟩ : ∃ A5, (vs.getD i sd0).1 = A5 := ⟨_, rfl⟩
        obtain ⟨c5, ec5⟩ : ∃ c5, (vs.getD i sd0).2.2 = c5 := ⟨_, rfl⟩
        rw [e5, hml, ec5] at c0 hrow
        obtain ⟨b5, off5, rfl, hb5, hc5⟩ := hrow.ri_ (by rw [hrow.1]; omega)
        have C5 : Hid (∀ t, t < l → w6.cell? ⟨b5, off5 + t, none⟩ = some (.int .i64 (it pp t x : Int))) := Lib.hid fun t ht => by
          rw [← cyc_getD (p := pp) (x := x) (j := t) (by rw [el]; exact ht)]; exact hc5 t (by rw [cyc_length, el]; exact ht)
        have c5z : w6.cell? ⟨b5, off5, none⟩ = some (.int .i64 (x : Int)) := C5.out 0 (by omega)
        obtain ⟨b6, off6, rfl, hb6, hc6⟩ := Spp_6.out.ri_ (by rw [Lpp.out]; omega)
        have C6 : Hid (∀ t, t < n → w6.cell? ⟨b6, off6 + t, none⟩ = some (.int .i64 (nx pp t : Int))) := Lib.hid fun t ht => by
          rw [← nx_val Ipp.out (by rw [Lpp.out]; exact ht)]; exact hc6 t (by rw [Lpp.out]; exact ht)
        have El := Lib.hid el
        have Hx := Lib.hid hx
        have Hs1 := Lib.hid hs1
        have hl1 : 1 < l := hx.2.2
        clear hc hc5 hc6 ecy hrow ex el hml e5 ec5 hx hs1
        go_wp2_with fail
        go_loopw [12, 13] (fun kv _ wr => ∃ k q2 : Nat, k ≤ l ∧ kv = .int .i64 (k : Nat) ∧ wr = w6.drewN q2) (fun kv _ _ => l - (intOf kv).toNat)
        case atStart => exact ⟨0, q, Nat.zero_le _, rfl, rfl⟩
        case round =>
          obtain ⟨k, q2, hk, rfl, rfl⟩ := hrel
          by_cases hkl : k < l
          · obtain ⟨y, ey⟩ : ∃ y, it pp k x = y := ⟨_, rfl⟩
            have hyl : y < n := by rw [← ey, ← Lpp.out]; exact it_lt Ipp.out Hx.out.1 k
            have q1 := C5.out k hkl
            rw [ey] at q1
            obtain ⟨z, ez⟩ : ∃ z, (k + 1) % l = z := ⟨_, rfl⟩
            have hz : z < l := by rw [← ez]; exact Nat.mod_lt _ (by omega)
            have q3 := C5.out z hz
            have q4 := C6.out y hyl
            obtain ⟨v, ev⟩ : ∃ v, nx pp y = v := ⟨_, rfl⟩
            have ezv : it pp z x = v := by
              rw [← ez, ← El.out, ← it_mod Ipp.out Hx.out.1]
              show nx pp (it pp k x) = v
              rw [ey, ev]
            rw [ezv] at q3
            rw [ev] at q4
            have eI : (((k : Int) + 1) % (l : Int)) = (z : Int) := by rw [← ez, Int.natCast_emod, Int.natCast_add]; rfl
            have hge : x ≤ y := by have := (st_iff Ipp.out Hx.out.1).1 Hx.out.2.1 k; omega
            have t1 : decide ((y : Int) < 0) = false := by simp
            have t2 : decide ((1 : Int) + (r : Int) ≤ (y : Int)) = false := by simp; omega
            have t3 : decide ((y : Int) < (x : Int)) = false := by simp; omega
            have t4 : ((v : Int) != (v : Int)) = false := by simp
            have u1 : (0 : Int) ≤ y := by omega
            have u2 : (y : Int) < n := by omega
            have u3 : (0 : Int) ≤ z := by omega
            have u4 : (z : Int) < l := by omega
            have u5 : (0 : Int) ≤ i := by omega
            have u6 : (i : Int) < M := by omega
            have u7 : (0 : Int) ≤ k := by omega
            have u8 : (k : Int) < l := by omega
            have u9 : (1 : Int) ≤ l := by omega
            have u10 : (0 : Int) < l := by omega
            clear ey ez ev ezv
            go_wp2_with fail
            go_quiet (fail)
            go_wp2_with fail
            go_roundw
            case rel => exact ⟨k + 1, _, by omega, by go_num, rfl⟩
            case measure => simp [intOf]; omega
          · have hkl' : k = l := by omega
            go_wp2_with fail
            go_roundw
            case rel => exact ⟨i + 1, m + l, _, by omega, by go_num, by go_num, Lib.hid (by rw [Hs1.out, hm.out]), rfl⟩
            case measure => simp [intOf]; omega
      · have hiM : i = M := by omega
        have Hm : Hid ((supp pp).length = m) := Lib.hid (by rw [← lenSum_all Ipp.out lM.out, ← hiM, hm.out])
        obtain ⟨wv, hwv⟩ : ∃ wv : World, wv = w6.drewN q := ⟨_, rfl⟩
        have BV : Hid (Below w.heap.size w wv) := Lib.hid (by rw [hwv]; exact below_drewN B6.out q)
        have SPV : Hid (Slc wv _ App n cpp pp) := Lib.hid (by rw [hwv]; exact Spp_6.out.drewN q)
        have SQV : Hid (Slc wv _ Aqq n cqq qq) := Lib.hid (by rw [hwv]; exact Sqq_6.out.drewN q)
        have SPQV : Hid (Slc wv _ Apq n cpq (compL pp qq)) := Lib.hid (by rw [hwv]; exact Spq_6.out.drewN q)
        rw [← hwv]
        clear hwv
        clear hm
        have B100 := BV
        obtain ⟨za, hza⟩ : ∃ za, lessP pp qq = za := ⟨_, rfl⟩
        have HZ := Lib.hid hza
        obtain ⟨s1, hs1⟩ : ∃ s1, sgn (compL pp qq) = s1 := ⟨_, rfl⟩
        obtain ⟨s2, hs2⟩ : ∃ s2, sgn pp = s2 := ⟨_, rfl⟩
        obtain ⟨s3, hs3⟩ : ∃ s3, sgn qq = s3 := ⟨_, rfl⟩
        have emul : s2 * s3 = s1 := by rw [← hs1, ← hs2, ← hs3, sgn_comp Ipp.out Iqq.out (Lpp.out.trans Lqq.out.symm) Ipq.out]
        have sb : -1 ≤ s1 ∧ s1 ≤ 1 := by rcases sgn_pm (compL pp qq) with h | h <;> rw [hs1] at h <;> omega
        have HS1 := Lib.hid hs1
        have HS2 := Lib.hid hs2
        have HS3 := Lib.hid hs3
        have HE := Lib.hid emul
        have HB' := Lib.hid sb
        clear hza hs1 hs2 hs3 emul sb
        go_wp2_with fail
        refine (suppT App cpp n m pp _ wv SPV.out Ipp Hm).mono ?_
        rintro e w101 ⟨Asu, csu, rfl, s101, b101⟩
        have B101 : Hid (Below w.heap.size w w101) := Lib.hid (btr B100.out b101)
        have Spp_101 := Lib.hid (SPV.out.up b101)
        clear SPV
        have Sqq_101 := Lib.hid (SQV.out.up b101)
        clear SQV
        have Spq_101 := Lib.hid (SPQV.out.up b101)
        clear SPQV
        have Ssu_101 := Lib.hid s101
        have Lsu := s101.hid
        clear s101 b101
        go_wp2_with fail
        refine (lessT App Aqq cpp cqq n pp qq _ _ w101 Spp_101.out Sqq_101.out hn20 za HZ).mono ?_
        rintro e w102 ⟨rfl, b102⟩
        have B102 : Hid (Below w.heap.size w w102) := Lib.hid (btr B101.out b102)
        have Spp_102 := Lib.hid (Spp_101.out.up b102)
        clear Spp_101
        have Sqq_102 := Lib.hid (Sqq_101.out.up b102)
        clear Sqq_101
        have Spq_102 := Lib.hid (Spq_101.out.up b102)
        clear Spq_101
        have Ssu_102 := Lib.hid (Ssu_101.out.up b102)
        clear Ssu_101
        clear b102
        go_wp2_with fail
        refine (suppTs App cpp n m pp _ w102 Spp_102.out Ipp Hm).mono ?_
        rintro e w103 ⟨Asv, csv, rfl, s103, b103⟩
        have B103 : Hid (Below w.heap.size w w103) := Lib.hid (btr B102.out b103)
        have Spp_103 := Lib.hid (Spp_102.out.up b103)
        clear Spp_102
        have Sqq_103 := Lib.hid (Sqq_102.out.up b103)
        clear Sqq_102
        have Spq_103 := Lib.hid (Spq_102.out.up b103)
        clear Spq_102
        have Ssu_103 := Lib.hid (Ssu_102.out.up b103)
        clear Ssu_102
        have Ssv_103 := Lib.hid s103
        have Lsv := s103.hid
        clear s103 b103
        have hm20 : m ≤ 400 := hm1
        go_wp2_with fail
        refine (likeT _ _ Asu Asv m csu m csv w103 Ssu_103.out Ssv_103.out (by omega)).mono ?_
        rintro e w104 ⟨rfl, b104⟩
        have B104 : Hid (Below w.heap.size w w104) := Lib.hid (btr B103.out b104)
        have Spp_104 := Lib.hid (Spp_103.out.up b104)
        clear Spp_103
        have Sqq_104 := Lib.hid (Sqq_103.out.up b104)
        clear Sqq_103
        have Spq_104 := Lib.hid (Spq_103.out.up b104)
        clear Spq_103
        have Ssu_104 := Lib.hid (Ssu_103.out.up b104)
        clear Ssu_103
        have Ssv_104 := Lib.hid (Ssv_103.out.up b104)
        clear Ssv_103
        clear b104
        go_wp2_with fail
        refine (signT Apq cpq n _ _ w104 s1 Spq_104.out Ipq HS1).mono ?_
        rintro e w105 ⟨rfl, b105⟩
        have B105 : Hid (Below w.heap.size w w105) := Lib.hid (btr B104.out b105)
        have Spp_105 := Lib.hid (Spp_104.out.up b105)
        clear Spp_104
        have Sqq_105 := Lib.hid (Sqq_104.out.up b105)
        clear Sqq_104
        have Spq_105 := Lib.hid (Spq_104.out.up b105)
        clear Spq_104
        have Ssu_105 := Lib.hid (Ssu_104.out.up b105)
        clear Ssu_104
        have Ssv_105 := Lib.hid (Ssv_104.out.up b105)
        clear Ssv_104
        clear b105
        go_wp2_with fail
        refine (signT App cpp n _ _ w105 s2 Spp_105.out Ipp HS2).mono ?_
        rintro e w106 ⟨rfl, b106⟩
        have B106 : Hid (Below w.heap.size w w106) := Lib.hid (btr B105.out b106)
        have Spp_106 := Lib.hid (Spp_105.out.up b106)
        clear Spp_105
        have Sqq_106 := Lib.hid (Sqq_105.out.up b106)
        clear Sqq_105
        have Spq_106 := Lib.hid (Spq_105.out.up b106)
        clear Spq_105
        have Ssu_106 := Lib.hid (Ssu_105.out.up b106)
        clear Ssu_105
        have Ssv_106 := Lib.hid (Ssv_105.out.up b106)
        clear Ssv_105
        clear b106
        go_wp2_with fail
        refine (signT Aqq cqq n _ _ w106 s3 Sqq_106.out Iqq HS3).mono ?_
        rintro e w107 ⟨rfl, b107⟩
        have B107 : Hid (Below w.heap.size w w107) := Lib.hid (btr B106.out b107)
        have Spp_107 := Lib.hid (Spp_106.out.up b107)
        clear Spp_106
        have Sqq_107 := Lib.hid (Sqq_106.out.up b107)
        clear Sqq_106
        have Spq_107 := Lib.hid (Spq_106.out.up b107)
        clear Spq_106
        have Ssu_107 := Lib.hid (Ssu_106.out.up b107)
        clear Ssu_106
        have Ssv_107 := Lib.hid (Ssv_106.out.up b107)
        clear Ssv_106
        clear b107
        have emul := HE.out
        have sb := HB'.out
        have e6 : (-1 : Int) ≤ s2 * s3 := by rw [emul]; exact sb.1
        have e7 : s2 * s3 ≤ (1 : Int) := by rw [emul]; exact sb.2
        go_wp2_with fail
        refine (signT App cpp n _ _ w107 s2 Spp_107.out Ipp HS2).mono ?_
        rintro e w108 ⟨rfl, b108⟩
        have B108 : Hid (Below w.heap.size w w108) := Lib.hid (btr B107.out b108)
        have Spp_108 := Lib.hid (Spp_107.out.up b108)
        clear Spp_107
        have Sqq_108 := Lib.hid (Sqq_107.out.up b108)
        clear Sqq_107
        have Spq_108 := Lib.hid (Spq_107.out.up b108)
        clear Spq_107
        have Ssu_108 := Lib.hid (Ssu_107.out.up b108)
        clear Ssu_107
        have Ssv_108 := Lib.hid (Ssv_107.out.up b108)
        clear Ssv_107
        clear b108
        go_wp2_with fail
        refine (signTs App cpp n _ _ w108 s2 Spp_108.out Ipp HS2).mono ?_
        rintro e w109 ⟨rfl, b109⟩
        have B109 : Hid (Below w.heap.size w w109) := Lib.hid (btr B108.out b109)
        have Spp_109 := Lib.hid (Spp_108.out.up b109)
        clear Spp_108
        have Sqq_109 := Lib.hid (Sqq_108.out.up b109)
        clear Sqq_108
        have Spq_109 := Lib.hid (Spq_108.out.up b109)
        clear Spq_108
        have Ssu_109 := Lib.hid (Ssu_108.out.up b109)
        clear Ssu_108
        have Ssv_109 := Lib.hid (Ssv_108.out.up b109)
        clear Ssv_108
        clear b109
        go_wp2_with fail
        refine (lessTs App Aqq cpp cqq n pp qq _ _ w109 Spp_109.out Sqq_109.out hn20 za HZ).mono ?_
        rintro e w110 ⟨rfl, b110⟩
        have B110 : Hid (Below w.heap.size w w110) := Lib.hid (btr B109.out b110)
        have Spp_110 := Lib.hid (Spp_109.out.up b110)
        clear Spp_109
        have Sqq_110 := Lib.hid (Sqq_109.out.up b110)
        clear Sqq_109
        have Spq_110 := Lib.hid (Spq_109.out.up b110)
        clear Spq_109
        have Ssu_110 := Lib.hid (Ssu_109.out.up b110)
        clear Ssu_109
        have Ssv_110 := Lib.hid (Ssv_109.out.up b110)
        clear Ssv_109
        clear b110
        go_wp2_with fail
        go_ret
        exact ⟨rfl, B110.out⟩
  · go_enter Try.func5, Try.ntmps5
    go_wp2_with fail
    refine (bigF A len cap w (by omega)).mono ?_
    rintro e w0 ⟨rfl, rfl⟩
    go_wp2_with fail
    go_ret
    exact ⟨rfl, Below.refl _ _⟩
end Go.Proofs.Ytopaeojcpidfgaa
