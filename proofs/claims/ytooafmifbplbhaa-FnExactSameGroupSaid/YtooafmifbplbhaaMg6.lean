/- Part 6 of the texts: PcS, WalkH4. No condition of its own: each text tells its own. -/
import Derived.Test.YtooafmifbplbhaaMg5
import Derived.Test.YtooafmifbplbhaaMg4
import Derived.Test.YtooafmifbplbhaaMg2
set_option linter.unusedVariables false
set_option linter.unusedSimpArgs false

/- The program's StrongGeneratingSet and SameGroup. Conditions: at most 1048576 lists of at most 1048576 numbers. -/
namespace Go.Proofs.Ytooafmifbplbhaa
open Go.RowKit

/-- As many, and all of them among the others: the same. -/
theorem Crd.same {P Q : List Int → Prop} {v : Nat} (hP : Crd P v) (hQ : Crd Q v) (h : ∀ p, P p → Q p) : ∀ p, Q p → P p := fun p hp => by
  obtain ⟨l, d, m, e⟩ := hP
  obtain ⟨l', d', m', e'⟩ := hQ
  refine (m p).1 ?_
  by_cases hm : p ∈ l
  · exact hm
  · exfalso
    have hnd : (p :: l).Nodup := List.nodup_cons.2 ⟨hm, d⟩
    have := nd_subA hnd fun x hx => by
      rcases List.mem_cons.1 hx with rfl | hx
      · exact (m' _).2 hp
      · exact (m' x).2 (h x ((m x).1 hx))
    simp at this; omega
theorem preOf_at {N k y : Nat} {g : List Int} (hf : Fx k g) (e : nx g k = y) : ∀ i, i < k + 1 → (nx g i : Int) = (preOf (k, y)).getD i 0 := fun i hi => by
  unfold preOf
  rcases Nat.lt_or_ge i k with hl | hl
  · rw [getD_app _ _ _ i (by rw [idL_length]; exact hl), idL_getD hl, hf i hl]
  · obtain rfl : i = k := by omega
    rw [getD_snoc _ _ _ i (by rw [idL_length]), e]
theorem preOf_len (k y : Nat) : (preOf (k, y)).length = k + 1 := by unfold preOf; rw [List.length_append, idL_length]; rfl

set_option maxHeartbeats 8000000 in
set_option maxRecDepth 100000 in
/-- StrongGeneratingSet. -/
theorem implStrongGeneratingSet : CtImM 23 IsSgs := by
  intro a A n c vs xss w g _
  have q24 : ∀ (w : World) (a : Option Addr) (n c n' c' : Nat), (binOp .neq 53 (.slice a n c) (.slice none n' c')).run Try.prog w = .ok (.bool (!a.isNone)) w := fun w a n c n' c' => run_neq_slice_nil_any w _ _ a n c n' c' Try.underlying53
  have HX := Lib.hid g.rr
  have hlx : Hid (xss.length = n) := Lib.hid g.rr.lx
  have hn := g.hn
  have hl := Lib.hid g.hl
  clear g
  go_enter Try.func23, Try.ntmps23
  go_wp2_with fail
  refine (implGS a A n c vs xss w HX.out hn hl).mono ?_
  rintro e w1 ⟨rfl, b1⟩
  have B1 := Lib.hid b1
  have X1 := Lib.hid (HX.out.up b1)
  clear b1
  rcases hs : gB a xss with _ | _
  · have Fin : Hid (IsSgs a xss []) := Lib.hid (.inr ⟨hs, rfl⟩)
    clear hs
    go_wp2_with fail
    go_ret
    exact ⟨_, _, _, _, _, rfl, SS.nil_, Fin.out, B1.out⟩
  · obtain ⟨N, rfl, hN1, hN2, hg8, hpm, hok⟩ := gB_pm hs
    have Hs := Lib.hid hs
    have Ok := Lib.hid hok
    have hn8 : n ≤ 8 := by rw [← hlx.out]; exact hg8
    clear hs hpm hok hg8
    go_wp2_with fail
    refine (implChainOf N n c A vs xss w1 X1.out hN1 hN2 hn8 Ok).mono ?_
    rintro e w3 ⟨ch, L, M, rfl, hc, ho, hw, b3⟩
    have W3 := Lib.hid hw
    have C3 := Lib.hid hc
    have O3 := Lib.hid ho
    have B3 : Hid (Below w.heap.size w w3) := Lib.hid (btr B1.out b3)
    have hz3 := B3.out.size
    have Ep : Hid (ptr N L 0 = .pointer (some ⟨(L 0).B, 0, none⟩)) := Lib.hid (ptr_at (by omega))
    clear hc ho hw b3
    go_wp2_with fail
    go_loopg [5, 6, 7, 8] N (fun gg o l _ _ wr => ∃ (k : Nat) (A1 : Option Addr) (m1 c1 : Nat) (us : List SV) (ls : List (List Int)), k ≤ N ∧ N - k ≤ gg ∧ l = ptr N L k ∧ o = .slice A1 m1 c1 ∧ SS wr w3.heap.size w3.heap.size A1 m1 c1 us ls ∧ Sgs N xss (prs N k) ls ∧ Below w3.heap.size w3 wr)
    case atStart => exact ⟨0, none, 0, 0, [], [], Nat.zero_le _, by omega, Ep.out.symm, rfl, SS.nil_, rfl, Below.refl _ _⟩
    case round =>
      obtain ⟨k, A1, m1, c1, us, ls, hk, hgg, rfl, rfl, hs, hsg, bel⟩ := hrel
      have Ss := Lib.hid hs
      have Sg := Lib.hid hsg
      have Be := Lib.hid bel
      have Ck0 := Lib.hid (C3.out.up bel)
      clear hs hsg bel
      by_cases hlt : k < N
      · rw [ptr_at hlt]
        obtain ⟨x0, _⟩ := Ck0.out.cB (Nat.zero_le _) hlt
        go_wp2_with fail
        go_loopg [5, 7, 8] N (fun gg o yv _ wr => ∃ (j : Nat) (A1 : Option Addr) (m1 c1 : Nat) (us : List SV) (ls : List (List Int)), k + 1 + j ≤ N ∧ N - (k + 1 + j) ≤ gg ∧ yv = .int .i64 ((k + 1 + j : Nat) : Int) ∧ o = .slice A1 m1 c1 ∧ SS wr w3.heap.size w3.heap.size A1 m1 c1 us ls ∧ Sgs N xss (prs N k ++ prsI N k j) ls ∧ Below w3.heap.size w3 wr)
        case atStart => exact ⟨0, A1, m1, c1, us, ls, by omega, by omega, by go_num, rfl, Ss.out, by simpa [prsI] using Sg.out, Be.out⟩
        case round =>
          clear Ss Sg Be Ck0 x0
          obtain ⟨j, A1, m1, c1, us, ls, hj, hg2, rfl, rfl, hs, hsg, bel⟩ := hrel
          have Ss := Lib.hid hs
          have Sg := Lib.hid hsg
          have Be := Lib.hid bel
          have Cj := Lib.hid (C3.out.up bel)
          have Ok2 := Lib.hid (hsg.ok hN1 hN2 Ok.out)
          have hm1 : m1 ≤ 800 := by
            rw [← hs.lx]
            have h1 := Ok2.out.1
            have h2 := prs_len N k
            have h3 : (prsI N k j).length = j := by simp [prsI]
            have h4 := Nat.mul_le_mul (show k ≤ 20 by omega) hN2
            rw [List.length_append, h3] at h1
            omega
          have hzr := bel.size
          clear hs hsg bel
          by_cases hjt : k + 1 + j < N
          · obtain ⟨y0, y1, y2, y3, y4⟩ := Cj.out.cB (Nat.zero_le _) hlt
            have x7 := Cj.out.cM (Nat.zero_le _) hlt hjt
            have em := Cj.out.eM (Nat.zero_le _) hlt hjt
            have q0 : (0 : Int) ≤ ((k + 1 + j : Nat) : Int) := by omega
            have q1 : ((k + 1 + j : Nat) : Int) < N := by omega
            by_cases hz : ch.rep k (k + 1 + j) = []
            · rw [em.1 hz] at x7
              simp only [sval, sd0] at x7
              have Sg7 : Hid (Sgs N xss (prs N k ++ prsI N k (j + 1)) ls) := Lib.hid (by
                have h3 := Sg.out.snoc (m := []) (ok := false) (pr := (k, k + 1 + j)) (.inr ⟨rfl, rfl, fun q hq hag => by
                  refine (W3.out.rep_iff hN1 hN2 hlt).2 ⟨q, hq, fun i hi => ?_, ?_⟩ hz
                  · have h4 := hag i (by rw [preOf_len]; omega)
                    unfold preOf at h4
                    rw [getD_app _ _ _ i (by rw [idL_length]; exact hi), idL_getD hi] at h4
                    omega
                  · have h4 := hag k (by rw [preOf_len]; omega)
                    unfold preOf at h4
                    rw [getD_snoc _ _ _ k (by rw [idL_length])] at h4
                    have h4 : (nx q k : Int) = ((k + 1 + j : Nat) : Int) := h4
                    omega⟩)
                rw [prsI_succ, ← List.append_assoc]; simpa using h3)
              clear em hz y0 y1 y2 y4
              go_wp2_with fail
              go_roundg (N - (k + 1 + (j + 1)))
              case rel => exact ⟨j + 1, A1, m1, c1, us, ls, by omega, by omega, by go_num, rfl, Ss.out, Sg7.out, Be.out⟩
              case measure => omega
            · have hrd := em.2 hz
              rcases hde : (L k).en.getD (k + 1 + j) sd0 with ⟨dA, dn, dc⟩
              rw [hde] at x7 hrd
              obtain ⟨b, off, e⟩ := rd_not0 hrd hz
              have e : dA = some ⟨b, off, none⟩ := e
              subst e
              obtain ⟨a1, a2, a3, a4⟩ := W3.out.rep_mb hN1 hN2 hlt hz
              have RP := a1.pn Ok.out hN1 hN2
              obtain rfl : dn = N := by have h3 : (ch.rep k (k + 1 + j)).length = dn := hrd.len; have := RP.2; omega
              have Gr : Hid (GrTo dn xss (preOf (k, k + 1 + j)) (ch.rep k (k + 1 + j)) (k + 1)) := Lib.hid ⟨a1, fun i hi => ⟨fun _ => preOf_at (N := dn) a2 a3 i hi, fun h => absurd h (by rw [preOf_len]; omega)⟩⟩
              have K := implSmall w1.heap.size dn 0 (k + 1) dc wr.heap.size M ch L xss (preOf (k, k + 1 + j)) (some ⟨b, off, none⟩) (ch.rep k (k + 1 + j)) wr Cj.out O3.out W3 (Nat.zero_le _) hlt hN1 hN2 (Lib.hid Ok.out) hrd.ri (Nat.le_refl _) (Lib.hid fun e => absurd e (by omega)) Gr (by rw [preOf_len]; exact Nat.le_refl _)
              rw [ptr_at (show k + 1 < dn by omega)] at K y4
              have Kh := Lib.hid K
              simp only [sval] at x7
              clear em hz hrd hde a1 a2 a3 a4 RP y0 y1 y2 K
              go_wp2_with fail
              refine Kh.out.mono ?_
              rintro e w7 ⟨A7, c7, m7, rfl, s7, gr7, b7⟩
              have S7 := Lib.hid s7
              have B7 := Lib.hid b7
              have Ss7 := Lib.hid (Ss.out.up b7)
              have Be7 : Hid (Below w3.heap.size w3 w7) := Lib.hid (btr Be.out b7)
              have z7 := b7.size
              have Di := Lib.hid (lies_dis Ss.out s7.lies (Nat.le_refl _))
              have Sg7 : Hid (Sgs dn xss (prs dn k ++ prsI dn k (j + 1)) (ls ++ [m7])) := Lib.hid (by
                have h3 := Sg.out.snoc (m := m7) (ok := true) (pr := (k, k + 1 + j)) (.inl ⟨rfl, gr7⟩)
                rw [prsI_succ, ← List.append_assoc]; simpa using h3)
              clear s7 gr7 b7 Kh
              go_wp2_with (at_builtin; go_must (refine wpList_app2_at rfl _ _ rfl rfl (Ss7.out.alloc _) w7.heap.size A7 dn c7 m7 rfl (by rw [World.cell?_alloc_at _ _ _ _ rfl]; rfl) ((S7.out.mono hzr).alloc _) Di.out (by omega) (by simp; omega) ?_); intro A8 c8 w8 s8 g8 h8)
              have S8 := Lib.hid s8
              have Be8 : Hid (Below w3.heap.size w3 w8) := Lib.hid ((Be7.out.alloc (by omega) _).grown g8 (by simp; omega) (fun q hq => (Ss7.out.lt_ q hq).1))
              clear s8 g8 h8
              go_wp2_with fail
              go_roundg (dn - (k + 1 + (j + 1)))
              case rel => exact ⟨j + 1, A8, m1 + 1, c8, _, _, by omega, by omega, by go_num, rfl, S8.out, Sg7.out, Be8.out⟩
              case measure => omega
          · have hj2 : j = N - (k + 1) := by omega
            have Sg2 : Hid (Sgs N xss (prs N (k + 1)) ls) := Lib.hid (by rw [hj2] at Sg; exact Sg.out)
            obtain ⟨_, _, _, _, y4⟩ := Cj.out.cB (Nat.zero_le _) hlt
            go_wp2_with fail
            go_roundg (N - (k + 1))
            case rel => exact ⟨k + 1, A1, m1, c1, us, ls, by omega, by omega, rfl, rfl, Ss.out, Sg2.out, Be.out⟩
            case measure => omega
      · obtain rfl : k = N := by omega
        rw [ptr_end (Nat.le_refl _)]
        have Fin : Hid (IsSgs k xss ls) := Lib.hid (.inl ⟨Hs.out, by rw [Int.toNat_natCast]; exact Sg.out⟩)
        have S5 := Lib.hid (Ss.out.mono hz3 hz3)
        have B5 : Hid (Below w.heap.size w wr) := Lib.hid (btr B3.out Be.out)
        go_wp2_with fail
        go_ret
        exact ⟨_, _, _, us, ls, rfl, S5.out, Fin.out, B5.out⟩

set_option maxHeartbeats 8000000 in
set_option maxRecDepth 100000 in
/-- SameGroup. -/
theorem implSameGroup : CtImmB 30 IsSam := by
  intro a A n c vs xss Q m cm us yss w g s _
  have HX := Lib.hid g.rr
  have HY := Lib.hid s.rr
  have hlx : Hid (xss.length = n) := Lib.hid g.rr.lx
  have hly : Hid (yss.length = m) := Lib.hid s.rr.lx
  have hn := g.hn
  have hm := s.hn
  have hl := Lib.hid g.hl
  have hl2 := Lib.hid s.hl
  clear g s
  go_enter Try.func30, Try.ntmps30
  rcases hs : gB a xss with _ | _
  · have Fin : Hid (IsSam a xss yss false) := Lib.hid ⟨fun h => (by cases h), fun h => (by have := h.1; rw [hs] at this; cases this)⟩
    have Hs := Lib.hid hs
    clear hs
    go_wp2_with (first
      | (go_at_call 47; refine (implGS a A n c vs xss w HX.out hn hl).mono ?_; rintro e w1 ⟨rfl, b1⟩; rw [Hs.out]; have B1 := Lib.hid b1; clear b1))
    go_ret
    exact ⟨_, rfl, Fin.out, B1.out⟩
  · have Hs := Lib.hid hs
    rcases hs2 : gB a yss with _ | _
    · have Fin : Hid (IsSam a xss yss false) := Lib.hid ⟨fun h => (by cases h), fun h => (by have := h.2.1; rw [hs2] at this; cases this)⟩
      have Hs2 := Lib.hid hs2
      clear hs hs2
      go_wp2_with (first
        | (go_at_call_of 47 (Value.slice A n c); refine (implGS a A n c vs xss w HX.out hn hl).mono ?_; rintro e w1 ⟨rfl, b1⟩; rw [Hs.out]; have B1 := Lib.hid b1; clear b1)
        | (go_at_call_of 47 (Value.slice Q m cm); refine (implGS a Q m cm us yss w1 (HY.out.up B1.out) hm hl2).mono ?_; rintro e w2 ⟨rfl, b2⟩; rw [Hs2.out]; have B2 := Lib.hid b2; clear b2))
      go_ret
      exact ⟨_, rfl, Fin.out, btr B1.out B2.out⟩
    · obtain ⟨N, rfl, hN1, hN2, hg8, hpm, hok⟩ := gB_pm hs
      obtain ⟨N', eN, _, _, hg8b, _, hok2⟩ := gB_pm hs2
      obtain rfl : N = N' := by omega
      have Hs2 := Lib.hid hs2
      have Ok := Lib.hid hok
      have Ok2 := Lib.hid hok2
      have hn8 : n ≤ 8 := by rw [← hlx.out]; exact hg8
      have hm8 : m ≤ 8 := by rw [← hly.out]; exact hg8b
      clear hs hs2 hpm hok hok2 hg8 hg8b eN
      go_wp2_with (first
        | (go_at_call_of 47 (Value.slice A n c); refine (implGS N A n c vs xss w HX.out hn hl).mono ?_; rintro e w1 ⟨rfl, b1⟩; rw [Hs.out]; have B1 := Lib.hid b1; clear b1)
        | (go_at_call_of 47 (Value.slice Q m cm); refine (implGS N Q m cm us yss w1 (HY.out.up B1.out) hm hl2).mono ?_; rintro e w2 ⟨rfl, b2⟩; rw [Hs2.out]; have B2 : Hid (Below w.heap.size w w2) := Lib.hid (btr B1.out b2); clear b2)
        | (go_at_call 49; refine (implChainOf N m cm Q us yss w2 (HY.out.up B2.out) hN1 hN2 hm8 Ok2).mono ?_; rintro e w3 ⟨ch, L, M, rfl, hc, ho, hw, b3⟩; have W3 := Lib.hid hw; have C3 := Lib.hid hc; have O3 := Lib.hid ho; have B3 : Hid (Below w.heap.size w w3) := Lib.hid (btr B2.out b3); clear hc ho hw b3))
      go_loopg [9, 25] n (fun gg _ jv wr => ∃ j : Nat, j ≤ n ∧ n - j ≤ gg ∧ jv = .int .i64 (j : Nat) ∧ (∀ t, t < j → Mb yss N (xss.getD t [])) ∧ Below w3.heap.size w3 wr)
      case atStart => exact ⟨0, Nat.zero_le _, by omega, rfl, fun t ht => absurd ht (by omega), Below.refl _ _⟩
      case round =>
        obtain ⟨j, hj, hgg, rfl, hall, bel⟩ := hrel
        have All := Lib.hid hall
        have Be : Hid (Below w.heap.size w wr) := Lib.hid (btr B3.out bel)
        have Be3 := Lib.hid bel
        have Cj := Lib.hid (C3.out.up bel)
        clear hall bel
        by_cases hlt : j < n
        · obtain ⟨b, off, A5, l, c5, y, rfl, hb, hv, ey, x1, ri, ly, hl5⟩ := (HX.out.up Be.out).at_ hlt
          have hym : y ∈ xss := by rw [← ey]; exact getD_memL (by rw [hlx.out]; exact hlt)
          have hyP := Ok.out y hym
          obtain rfl : l = N := by omega
          have YP : Hid (Pn l y) := Lib.hid hyP
          have Ri := Lib.hid ri
          have Ey := Lib.hid ey
          obtain ⟨ans, hans⟩ := boolOf (Mb yss l y)
          have Ha := Lib.hid hans
          have Hym := Lib.hid hym
          have q0 : (0 : Int) ≤ j := by omega
          have q1 : (j : Int) < n := by omega
          clear hv ey hb ri hyP hans hym
          go_wp2_with fail
          refine (implContains w2.heap.size l 0 c5 M ch L A5 y wr Cj.out (by omega) (Lib.hid W3.out.up) hN2 Ri.out YP (Lib.hid Fx.zero) ans (Lib.hid (Ha.out.trans (W3.out.mem y).symm))).mono ?_
          rintro e w4 ⟨rfl, b4⟩
          have B4 : Hid (Below w3.heap.size w3 w4) := Lib.hid (btr Be3.out b4)
          clear b4
          rcases ans with _ | _
          · have Fin : Hid (IsSam l xss yss false) := Lib.hid ⟨fun h => (by cases h), fun h => (by
              have h3 := h.2.2.2 y Hym.out
              rw [Int.toNat_natCast] at h3
              exact absurd (Ha.out.2 h3) (by decide))⟩
            have B5 : Hid (Below w.heap.size w w4) := Lib.hid (btr B3.out B4.out)
            go_wp2_with fail
            go_ret
            exact ⟨_, rfl, Fin.out, B5.out⟩
          · go_wp2_with fail
            go_roundg (n - (j + 1))
            case rel => exact ⟨j + 1, by omega, by omega, by go_num, fun t ht => by
              rcases Nat.lt_or_ge t j with h | h
              · exact All.out t h
              · obtain rfl : t = j := by omega
                rw [Ey.out]; exact Ha.out.1 (by trivial), B4.out⟩
            case measure => omega
        · obtain rfl : j = n := by omega
          have Sub : Hid (∀ g ∈ xss, Mb yss N g) := Lib.hid fun g hg => by
            obtain ⟨t, ht, rfl⟩ := mem_at hg
            exact All.out t (by rw [← hlx.out]; exact ht)
          go_wp2_with fail
          refine (implChainOf N j c A vs xss wr (HX.out.up Be.out) hN1 hN2 hn8 Ok).mono ?_
          rintro e w5 ⟨ch2, L2, M2, rfl, hc5, ho5, hw5, b5⟩
          have B5 : Hid (Below w.heap.size w w5) := Lib.hid (btr Be.out b5)
          have K1 := implOrder wr.heap.size N 0 0 M2 ch2 L2 xss w5 hc5 ho5 (Lib.hid hw5) (Nat.le_refl _) (Nat.zero_le _) hN1 hN2 (Lib.hid Ok.out)
          have K2 := implOrder w2.heap.size N 0 0 M ch L yss w5 (Cj.out.up b5) O3.out W3 (Nat.le_refl _) (Nat.zero_le _) hN1 hN2 (Lib.hid Ok2.out)
          rw [ptr_at (by omega)] at K1 K2
          have o1 := hw5.os hN1 hN2
          have o2 := W3.out.os hN1 hN2
          obtain ⟨v1, cr1, e1⟩ := o1.order Ok.out hN1 hN2
          obtain ⟨v2, cr2, e2⟩ := o2.order Ok2.out hN1 hN2
          have f1 : prodL (osL N ch2 N) = pr (osL N ch2 N) 0 (N - 0) := by rw [prodL_pr, osL_len]; rfl
          have f2 : prodL (osL N ch N) = pr (osL N ch N) 0 (N - 0) := by rw [prodL_pr, osL_len]; rfl
          rw [f1] at e1
          rw [f2] at e2
          have hsub : ∀ p, Mb xss N p → Mb yss N p := fun p hp => hp.sub hN1 hN2 Ok2.out Sub.out
          have Fin : Hid (IsSam N xss yss (pr (osL N ch2 N) 0 (N - 0) == pr (osL N ch N) 0 (N - 0))) := Lib.hid (by
            unfold IsSam
            rw [beq_iff_eq, e1, e2]
            constructor
            · intro h
              have hv : v1 = v2 := by omega
              subst hv
              refine ⟨Hs.out, Hs2.out, fun g hg => ?_, fun g hg => ?_⟩
              · rw [Int.toNat_natCast]
                exact cr1.same cr2 hsub g (.of (Ok2.out g hg) hg)
              · rw [Int.toNat_natCast]; exact Sub.out g hg
            · intro h
              have h3 := h.2.2.1
              rw [Int.toNat_natCast] at h3
              have := (cr1.congr fun p => ⟨hsub p, fun hp => hp.sub hN1 hN2 Ok.out h3⟩).uniq cr2
              omega)
          have Kh1 := Lib.hid K1
          have Kh2 := Lib.hid K2
          clear K1 K2 hc5 ho5 hw5 b5 o1 o2 cr1 cr2 e1 e2 f1 f2 hsub
          go_wp2_with fail
          refine Kh1.out.mono ?_
          rintro e w6 ⟨rfl, rfl⟩
          go_wp2_with fail
          refine Kh2.out.mono ?_
          rintro e w7 ⟨rfl, rfl⟩
          go_wp2_with fail
          go_ret
          exact ⟨_, rfl, Fin.out, B5.out⟩
end Go.Proofs.Ytooafmifbplbhaa

/- The walk of the law FnExactSameGroup: it returns true at every input, and writes nothing that was there. No condition but the program's own contract. -/
namespace Go.Proofs.Ytooafmifbplbhaa
open Go.RowKit

set_option maxHeartbeats 4000000 in
set_option maxRecDepth 100000 in
/-- The law FnExactSameGroup. -/
theorem lawSameGroup (IM : CtImmB 30 IsSam) (i0 : Int) (g1A : Option Addr) (g1n g1c : Nat) (g1v : List SV) (g1x : List (List Int)) (g2A : Option Addr) (g2n g2c : Nat) (g2v : List SV) (g2x : List (List Int)) (w : World) (wfi0 : I64 i0) (hg1 : RR w w.heap.size g1A g1n g1v g1x) (hmg1 : g1n ≤ maxLen) (hkg1 : Hid (∀ i, i < g1n → (g1v.getD i sd0).2.1 ≤ maxLen)) (hg2 : RR w w.heap.size g2A g2n g2v g2x) (hmg2 : g2n ≤ maxLen) (hkg2 : Hid (∀ i, i < g2n → (g2v.getD i sd0).2.1 ≤ maxLen)) :
    Calls Try.prog 12 #[.int .i64 i0, .slice g1A g1n g1c, .slice g2A g2n g2c] w fun e w' => e = .returned (.bool true) ∧ Below w.heap.size w w' := by
  have Hg1 := Lib.hid hg1
  have hlxg1 := Lib.hid hg1.lx
  have hllg1 := Lib.hid hg1.lens
  have Hg2 := Lib.hid hg2
  have hlxg2 := Lib.hid hg2.lx
  have hllg2 := Lib.hid hg2.lens
  clear hg1 hg2
  by_cases hT0 : ((g1n + tot g1v g1n : Nat) : Int) ≤ (1048576 : Int)
  · skip
    have HT0 := Lib.hid hT0
    obtain ⟨L1, eL1⟩ : ∃ L : Int, (1048576 : Int) - ((g1n + tot g1v g1n : Nat) : Int) = L := ⟨_, rfl⟩
    have hl1 : 0 ≤ L1 ∧ L1 ≤ 1048576 := by omega
    have EL1 := Lib.hid eL1
    clear eL1
    have hLn1 : ¬ L1 < 0 := by omega
    have dLn1 : decide (L1 < 0) = false := by simp; omega
    by_cases hT1 : ((g2n + tot g2v g2n : Nat) : Int) ≤ L1
    · skip
      have HT1 := Lib.hid hT1
      obtain ⟨LE, eLE⟩ : ∃ L : Int, L1 - ((g2n + tot g2v g2n : Nat) : Int) = L := ⟨_, rfl⟩
      have hLE : ¬ LE < 0 := by omega
      have dLE : decide (LE < 0) = false := by simp; omega
      have ELE := Lib.hid eLE
      clear eLE
      have hEq1 := EL1.out
      have hng1 : g1n ≤ 1048576 := by omega
      have KTg1 : Hid (tot g1v g1n ≤ 1048576) := Lib.hid (by omega)
      have hlg1 : Hid (∀ i, i < g1n → (g1v.getD i sd0).2.1 ≤ 1048576) := Lib.hid fun i hi => by have := tot_row (vs := g1v) hi; have := KTg1.out; omega
      have hylg1 : Hid (∀ i, i < g1n → (g1x.getD i []).length ≤ 1048576) := Lib.hid fun i hi => by rw [hllg1.out i hi]; exact hlg1.out i hi
      have hng2 : g2n ≤ 1048576 := by omega
      have KTg2 : Hid (tot g2v g2n ≤ 1048576) := Lib.hid (by omega)
      have hlg2 : Hid (∀ i, i < g2n → (g2v.getD i sd0).2.1 ≤ 1048576) := Lib.hid fun i hi => by have := tot_row (vs := g2v) hi; have := KTg2.out; omega
      have hylg2 : Hid (∀ i, i < g2n → (g2x.getD i []).length ≤ 1048576) := Lib.hid fun i hi => by rw [hllg2.out i hi]; exact hlg2.out i hi
      clear hT0 hT1 hEq1
      go_enter Try.func12, Try.ntmps12
      go_wp2_with fail
      have K0 := szSS2 g1A g1n g1c 1048576 g1v g1x w Hg1.out hmg1 hkg1 (by decide) (by decide)
      refine K0.mono ?_
      rintro e w0 ⟨rfl, rfl⟩
      clear K0
      rw [if_pos HT0.out]
      rw [EL1.out]
      go_wp2_with fail
      have K0 := szSS2 g2A g2n g2c L1 g2v g2x w Hg2.out hmg2 hkg2 hl1.1 hl1.2
      refine K0.mono ?_
      rintro e w0 ⟨rfl, rfl⟩
      clear K0
      rw [if_pos HT1.out]
      rw [ELE.out]
      go_wp2_with fail
      refine (toSS g1A g1n g1c g1v g1x w Hg1.out hng1 hlg1).mono ?_
      rintro e w1 ⟨A1, c1, us1, rfl, s1, q1, b1⟩
      have Z1 : Hid (w.heap.size ≤ w1.heap.size) := Lib.hid b1.size
      have B1 : Hid (Below w.heap.size w w1) := Lib.hid b1
      have Ftg1_1 := Lib.hid s1
      have Ltg1 : Hid (Lies A1 g1n c1 w.heap.size w1.heap.size) := Lib.hid s1.lt_
      have Itg1 : Hid (∀ t, t < g1n → ∀ k, (sval (us1.getD t sd0)).ownBlock = some k → w.heap.size ≤ k ∧ k < w1.heap.size) := Lib.hid fun t ht => (s1.row t ht).lt_
      have Qtg1 := Lib.hid q1
      have hltg1 : Hid (∀ i, i < g1n → (us1.getD i sd0).2.1 ≤ 1048576) := Lib.hid fun i hi => by rw [q1 i hi]; exact hlg1.out i hi
      clear s1 b1 q1
      go_wp2_with fail
      refine (toSS g2A g2n g2c g2v g2x w1 (Hg2.out.up B1.out) hng2 hlg2).mono ?_
      rintro e w2 ⟨A2, c2, us2, rfl, s2, q2, b2⟩
      have Z2 : Hid (w1.heap.size ≤ w2.heap.size) := Lib.hid b2.size
      have B2 : Hid (Below w.heap.size w w2) := Lib.hid (btr B1.out b2)
      have Ftg1_2 := Lib.hid (Ftg1_1.out.up b2)
      clear Ftg1_1
      have Ftg2_2 := Lib.hid s2
      have Ltg2 : Hid (Lies A2 g2n c2 w1.heap.size w2.heap.size) := Lib.hid s2.lt_
      have Itg2 : Hid (∀ t, t < g2n → ∀ k, (sval (us2.getD t sd0)).ownBlock = some k → w1.heap.size ≤ k ∧ k < w2.heap.size) := Lib.hid fun t ht => (s2.row t ht).lt_
      have Qtg2 := Lib.hid q2
      have hltg2 : Hid (∀ i, i < g2n → (us2.getD i sd0).2.1 ≤ 1048576) := Lib.hid fun i hi => by rw [q2 i hi]; exact hlg2.out i hi
      clear s2 b2 q2
      go_wp2_with fail
      have K3 := ctSam i0 A1 g1n c1 us1 g1x A2 g2n c2 us2 g2x w2 ⟨Ftg1_2.out.rr, hng1, hltg1.out⟩ ⟨Ftg2_2.out.rr, hng2, hltg2.out⟩ wfi0
      refine K3.mono ?_
      clear K3
      rintro e w3 ⟨v3, rfl, r3, b3⟩
      have Z3 : Hid (w2.heap.size ≤ w3.heap.size) := Lib.hid b3.size
      have B3 : Hid (Below w.heap.size w w3) := Lib.hid (btr B2.out b3)
      have Ftg1_3 := Lib.hid (Ftg1_2.out.up b3)
      clear Ftg1_2
      have Ftg2_3 := Lib.hid (Ftg2_2.out.up b3)
      clear Ftg2_2
      have HR := Lib.hid r3
      clear r3
      clear b3
      clear Ftg1_3
      clear Ftg2_3
      go_wp2_with fail
      refine (toSS g1A g1n g1c g1v g1x w3 (Hg1.out.up B3.out) hng1 hlg1).mono ?_
      rintro e w4 ⟨A4, c4, us4, rfl, s4, q4, b4⟩
      have Z4 : Hid (w3.heap.size ≤ w4.heap.size) := Lib.hid b4.size
      have B4 : Hid (Below w.heap.size w w4) := Lib.hid (btr B3.out b4)
      have Fxg1_4 := Lib.hid s4
      have Lxg1 : Hid (Lies A4 g1n c4 w3.heap.size w4.heap.size) := Lib.hid s4.lt_
      have Ixg1 : Hid (∀ t, t < g1n → ∀ k, (sval (us4.getD t sd0)).ownBlock = some k → w3.heap.size ≤ k ∧ k < w4.heap.size) := Lib.hid fun t ht => (s4.row t ht).lt_
      have Qxg1 := Lib.hid q4
      have hlxg1 : Hid (∀ i, i < g1n → (us4.getD i sd0).2.1 ≤ 1048576) := Lib.hid fun i hi => by rw [q4 i hi]; exact hlg1.out i hi
      clear s4 b4 q4
      go_wp2_with fail
      refine (toSS g2A g2n g2c g2v g2x w4 (Hg2.out.up B4.out) hng2 hlg2).mono ?_
      rintro e w5 ⟨A5, c5, us5, rfl, s5, q5, b5⟩
      have Z5 : Hid (w4.heap.size ≤ w5.heap.size) := Lib.hid b5.size
      have B5 : Hid (Below w.heap.size w w5) := Lib.hid (btr B4.out b5)
      have Fxg1_5 := Lib.hid (Fxg1_4.out.up b5)
      clear Fxg1_4
      have Fxg2_5 := Lib.hid s5
      have Lxg2 : Hid (Lies A5 g2n c5 w4.heap.size w5.heap.size) := Lib.hid s5.lt_
      have Ixg2 : Hid (∀ t, t < g2n → ∀ k, (sval (us5.getD t sd0)).ownBlock = some k → w4.heap.size ≤ k ∧ k < w5.heap.size) := Lib.hid fun t ht => (s5.row t ht).lt_
      have Qxg2 := Lib.hid q5
      have hlxg2 : Hid (∀ i, i < g2n → (us5.getD i sd0).2.1 ≤ 1048576) := Lib.hid fun i hi => by rw [q5 i hi]; exact hlg2.out i hi
      clear s5 b5 q5
      go_wp2_with fail
      have K6 := IM i0 A4 g1n c4 us4 g1x A5 g2n c5 us5 g2x w5 ⟨Fxg1_5.out.rr, hng1, hlxg1.out⟩ ⟨Fxg2_5.out.rr, hng2, hlxg2.out⟩ wfi0
      refine K6.mono ?_
      clear K6
      rintro e w6 ⟨v6, rfl, r6, b6⟩
      have Z6 : Hid (w5.heap.size ≤ w6.heap.size) := Lib.hid b6.size
      have B6 : Hid (Below w.heap.size w w6) := Lib.hid (btr B5.out b6)
      have Fxg1_6 := Lib.hid (Fxg1_5.out.up b6)
      clear Fxg1_5
      have Fxg2_6 := Lib.hid (Fxg2_5.out.up b6)
      clear Fxg2_5
      have e6 := HR.out.uniq r6
      subst e6
      clear r6
      clear b6
      go_wp2_with fail
      refine (toSS g1A g1n g1c g1v g1x w6 (Hg1.out.up B6.out) hng1 hlg1).mono ?_
      rintro e w7 ⟨A7, c7, us7, rfl, s7, q7, b7⟩
      have Z7 : Hid (w6.heap.size ≤ w7.heap.size) := Lib.hid b7.size
      have B7 : Hid (Below w.heap.size w w7) := Lib.hid (btr B6.out b7)
      have Fxg1_7 := Lib.hid (Fxg1_6.out.up b7)
      clear Fxg1_6
      have Fxg2_7 := Lib.hid (Fxg2_6.out.up b7)
      clear Fxg2_6
      have Fyg1_7 := Lib.hid s7
      have Lyg1 : Hid (Lies A7 g1n c7 w6.heap.size w7.heap.size) := Lib.hid s7.lt_
      have Iyg1 : Hid (∀ t, t < g1n → ∀ k, (sval (us7.getD t sd0)).ownBlock = some k → w6.heap.size ≤ k ∧ k < w7.heap.size) := Lib.hid fun t ht => (s7.row t ht).lt_
      have Qyg1 := Lib.hid q7
      have hlyg1 : Hid (∀ i, i < g1n → (us7.getD i sd0).2.1 ≤ 1048576) := Lib.hid fun i hi => by rw [q7 i hi]; exact hlg1.out i hi
      clear s7 b7 q7
      go_wp2_with fail
      refine (eqRR_same A4 A7 g1n c4 g1n c7 us4 us7 _ w7 Fxg1_7.out.rr Fyg1_7.out.rr (by omega) hylg1).mono ?_
      rintro e w8 ⟨rfl, b8⟩
      have Z8 : Hid (w7.heap.size ≤ w8.heap.size) := Lib.hid b8.size
      have B8 : Hid (Below w.heap.size w w8) := Lib.hid (btr B7.out b8)
      have Fxg1_8 := Lib.hid (Fxg1_7.out.up b8)
      clear Fxg1_7
      have Fxg2_8 := Lib.hid (Fxg2_7.out.up b8)
      clear Fxg2_7
      have Fyg1_8 := Lib.hid (Fyg1_7.out.up b8)
      clear Fyg1_7
      clear b8
      clear Fyg1_8
      go_wp2_with fail
      refine (toSS g2A g2n g2c g2v g2x w8 (Hg2.out.up B8.out) hng2 hlg2).mono ?_
      rintro e w9 ⟨A9, c9, us9, rfl, s9, q9, b9⟩
      have Z9 : Hid (w8.heap.size ≤ w9.heap.size) := Lib.hid b9.size
      have B9 : Hid (Below w.heap.size w w9) := Lib.hid (btr B8.out b9)
      have Fxg1_9 := Lib.hid (Fxg1_8.out.up b9)
      clear Fxg1_8
      have Fxg2_9 := Lib.hid (Fxg2_8.out.up b9)
      clear Fxg2_8
      have Fyg2_9 := Lib.hid s9
      have Lyg2 : Hid (Lies A9 g2n c9 w8.heap.size w9.heap.size) := Lib.hid s9.lt_
      have Iyg2 : Hid (∀ t, t < g2n → ∀ k, (sval (us9.getD t sd0)).ownBlock = some k → w8.heap.size ≤ k ∧ k < w9.heap.size) := Lib.hid fun t ht => (s9.row t ht).lt_
      have Qyg2 := Lib.hid q9
      have hlyg2 : Hid (∀ i, i < g2n → (us9.getD i sd0).2.1 ≤ 1048576) := Lib.hid fun i hi => by rw [q9 i hi]; exact hlg2.out i hi
      clear s9 b9 q9
      go_wp2_with fail
      refine (eqRR_same A5 A9 g2n c5 g2n c9 us5 us9 _ w9 Fxg2_9.out.rr Fyg2_9.out.rr (by omega) hylg2).mono ?_
      rintro e w10 ⟨rfl, b10⟩
      have Z10 : Hid (w9.heap.size ≤ w10.heap.size) := Lib.hid b10.size
      have B10 : Hid (Below w.heap.size w w10) := Lib.hid (btr B9.out b10)
      have Fxg1_10 := Lib.hid (Fxg1_9.out.up b10)
      clear Fxg1_9
      have Fxg2_10 := Lib.hid (Fxg2_9.out.up b10)
      clear Fxg2_9
      have Fyg2_10 := Lib.hid (Fyg2_9.out.up b10)
      clear Fyg2_9
      clear b10
      clear Fyg2_10
      go_wp2_with fail
      go_ret
      exact ⟨rfl, B10.out⟩
    · skip
      have HT1 := Lib.hid hT1
      clear hT0 hT1
      go_enter Try.func12, Try.ntmps12
      go_wp2_with fail
      have K0 := szSS2 g1A g1n g1c 1048576 g1v g1x w Hg1.out hmg1 hkg1 (by decide) (by decide)
      refine K0.mono ?_
      rintro e w0 ⟨rfl, rfl⟩
      clear K0
      rw [if_pos HT0.out]
      rw [EL1.out]
      go_wp2_with fail
      have K0 := szSS2 g2A g2n g2c L1 g2v g2x w Hg2.out hmg2 hkg2 hl1.1 hl1.2
      refine K0.mono ?_
      rintro e w0 ⟨rfl, rfl⟩
      clear K0
      rw [if_neg (Int.not_le.2 HT1.out)]
      go_wp2
      go_ret
      exact ⟨rfl, Below.refl _ _⟩
  · skip
    have HT0 := Lib.hid hT0
    clear hT0
    go_enter Try.func12, Try.ntmps12
    go_wp2_with fail
    have K0 := szSS2 g1A g1n g1c 1048576 g1v g1x w Hg1.out hmg1 hkg1 (by decide) (by decide)
    refine K0.mono ?_
    rintro e w0 ⟨rfl, rfl⟩
    clear K0
    rw [if_neg (Int.not_le.2 HT0.out)]
    go_wp2
    go_ret
    exact ⟨rfl, Below.refl _ _⟩
end Go.Proofs.Ytooafmifbplbhaa
