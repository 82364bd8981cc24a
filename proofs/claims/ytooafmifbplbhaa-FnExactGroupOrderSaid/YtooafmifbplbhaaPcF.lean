/- The program's order, OrbitSizes, GroupOrder, IsMember, LongestMemberPrefix. Conditions: at most 1048576 lists of at most 1048576 numbers. -/
import Derived.Test.YtooafmifbplbhaaPcC
import Derived.Test.YtooafmifbplbhaaCrd
import Derived.Test.YtooafmifbplbhaaCt4
namespace Go.Proofs.Ytooafmifbplbhaa
open Go.RowKit

section
variable {N k i : Nat} {c : Ch} {L : Nat → LK} {O : List Nat} {gs : List (List Int)}
theorem orb_nr (h : Orb c i O) (hr : RepOK N c i) : nr N c i N = O.length := by
  have a : ((List.range N).filter fun y => !(c.rep i y).isEmpty).length ≤ O.length := nd_subP (List.nodup_range.filter _) fun y hy => by
    rw [List.mem_filter, Bool.not_eq_true', List.isEmpty_eq_false_iff] at hy
    exact (h.2 y).2 hy.2
  have b : O.length ≤ ((List.range N).filter fun y => !(c.rep i y).isEmpty).length := nd_subP h.1 fun y hy => by
    rw [List.mem_filter, Bool.not_eq_true', List.isEmpty_eq_false_iff, List.mem_range]
    exact ⟨h.lt hr hy, (h.2 y).1 hy⟩
  unfold nr; omega
theorem ptr_at (hi : i < N) : ptr N L i = .pointer (some ⟨(L i).B, 0, none⟩) := if_pos hi
theorem ptr_end (hi : N ≤ i) : ptr N L i = .pointer none := if_neg (by omega)
end

set_option maxHeartbeats 2000000 in
/-- order, from link k on. -/
theorem implOrder (base N k0 k : Nat) (M : Nat → Prop) (c : Ch) (L : Nat → LK) (gs : List (List Int)) (w : World) (hc : Ck w base N k0 M c L) (ho : Orbs N k0 c L) (hw : Hid (Whole N gs c)) (hk : k0 ≤ k) (hkN : k ≤ N) (h1 : 1 ≤ N) (h2 : N ≤ 20) (hg : Hid (∀ g ∈ gs, Pn N g)) :
    Calls Try.prog 70 #[ptr N L k] w fun e w' => e = .returned (.int .i64 (pr (osL N c N) k (N - k))) ∧ w = w' := by
  have HC := Lib.hid hc
  have HO := Lib.hid ho
  have Hos := Lib.hid (hw.out.os h1 h2)
  clear hc ho
  go_enter Try.func70, Try.ntmps70
  go_wp2_with fail
  go_loopg [3, 4] N (fun gg o l wr => ∃ j : Nat, k ≤ j ∧ j ≤ N ∧ N - j ≤ gg ∧ l = ptr N L j ∧ o = .int .i64 (pr (osL N c N) k (j - k)) ∧ w = wr)
  case atStart => exact ⟨k, Nat.le_refl _, hkN, by omega, rfl, by rw [Nat.sub_self]; rfl, rfl⟩
  case round =>
    obtain ⟨j, hkj, hjN, hgg, rfl, rfl, rfl⟩ := hrel
    by_cases hlt : j < N
    · rw [ptr_at hlt]
      obtain ⟨x0, x1, x2, x3, x4⟩ := HC.out.cB (by omega) hlt
      have hol := HC.out.olen (by omega) hlt
      rcases hoe : (L j).o with ⟨oA, on, oc⟩
      rw [hoe] at x2 hol
      have hol : on = (L j).orb.length := hol
      have en : (osL N c N).getD j 0 = (on : Int) := by
        rw [osL_at hlt, orb_nr (HO.out j (by omega) hlt) (hw.out.up.rep j (Nat.zero_le _) hlt), hol]
      have e1 : pr (osL N c N) k (j - k) * (on : Int) = pr (osL N c N) k (j + 1 - k) := by
        rw [show j + 1 - k = (j - k) + 1 by omega]
        show _ = pr (osL N c N) k (j - k) * (osL N c N).getD (k + (j - k)) 0
        rw [show k + (j - k) = j by omega, en]
      have b1 := Hos.out.pr_le hg.out h1 h2 k (j + 1 - k) (by omega)
      have b2 := facts_le h2 (k + (j + 1 - k)) (by omega)
      have wr1 : IntKind.i64.wrap (pr (osL N c N) k (j - k) * (on : Int)) = pr (osL N c N) k (j + 1 - k) := by rw [e1, IntKind.wrap_i64]; omega
      simp only [sval] at x2
      clear hol hoe en e1 b1 b2 x0 x1 x3
      go_wp2_with fail
      go_roundg (N - (j + 1))
      case rel => exact ⟨j + 1, by omega, by omega, by omega, rfl, rfl, rfl⟩
      case measure => omega
    · obtain rfl : j = N := by omega
      rw [ptr_end (Nat.le_refl _)]
      go_wp2_with fail
      go_ret
      exact ⟨rfl, rfl⟩

set_option maxHeartbeats 1000000 in
theorem implIsPOf (a : Int) (A : Option Addr) (n c : Nat) (xs : List Int) (ans : Bool) (w : World) (hx : RI w w.heap.size A xs) (lx : Hid (xs.length = n)) (hn : n ≤ 2097152) (ha : Hid ((decide ((n : Int) = a) && isP xs) = ans)) :
    Calls Try.prog 48 #[.int .i64 a, .slice A n c] w fun e w' => e = .returned (.bool ans) ∧ Below w.heap.size w w' := by
  have HX := Lib.hid hx
  clear hx
  by_cases e1 : (n : Int) = a
  · subst e1
    have e0 : ((n : Int) == (n : Int)) = true := by simp
    have h1 : Hid (isP xs = ans) := Lib.hid (by rw [← ha.out]; simp)
    go_enter Try.func48, Try.ntmps48
    go_wp2_with (first | (go_at_call 77; refine (implIsP A c n xs w HX.out lx hn).mono ?_; rintro e w1 ⟨rfl, b1⟩; rw [h1.out]))
    go_ret
    exact ⟨rfl, b1⟩
  · have e0 : ((n : Int) == a) = false := by simpa using e1
    have h1 : Hid (ans = false) := Lib.hid (by rw [← ha.out]; simp [e1])
    go_enter Try.func48, Try.ntmps48
    go_wp2_with fail
    go_ret
    exact ⟨ret_bool h1.out.symm, Below.refl _ _⟩
theorem implIsPOfT (A : Option Addr) (n c : Nat) (xs : List Int) (w : World) (hx : RI w w.heap.size A xs) (lx : Hid (xs.length = n)) (hn : n ≤ 2097152) (ha : Hid (isP xs = true)) :
    Calls Try.prog 48 #[.int .i64 (n : Nat), .slice A n c] w fun e w' => e = .returned (.bool true) ∧ Below w.heap.size w w' :=
  implIsPOf n A n c xs true w hx lx hn (Lib.hid (by simp [ha.out]))

set_option maxHeartbeats 2000000 in
/-- GroupOrder. -/
theorem implGroupOrder : CtImI 33 IsOrd := by
  intro a A n c vs xss w g _
  have HX := Lib.hid g.rr
  have hlx : Hid (xss.length = n) := Lib.hid g.rr.lx
  have hn := g.hn
  have hl := Lib.hid g.hl
  clear g
  go_enter Try.func33, Try.ntmps33
  go_wp2_with fail
  refine (implGS a A n c vs xss w HX.out hn hl).mono ?_
  rintro e w1 ⟨rfl, b1⟩
  have B1 := Lib.hid b1
  have X1 := Lib.hid (HX.out.up b1)
  clear b1
  rcases hs : gB a xss with _ | _
  · have Fin : Hid (IsOrd a xss 0) := Lib.hid (.inr ⟨hs, rfl⟩)
    clear hs
    go_wp2_with fail
    go_ret
    exact ⟨_, rfl, Fin.out, B1.out⟩
  · obtain ⟨N, rfl, hN1, hN2, hg8, hpm, hok⟩ := gB_pm hs
    have Hs := Lib.hid hs
    have Ok := Lib.hid hok
    have hn8 : n ≤ 8 := by rw [← hlx.out]; exact hg8
    clear hs hpm hok hg8
    go_wp2_with fail
    refine (implChainOf N n c A vs xss w1 X1.out hN1 hN2 hn8 Ok).mono ?_
    rintro e w2 ⟨ch, L, M, rfl, hc, ho, hw, b2⟩
    have W2 := Lib.hid hw
    have B2 : Hid (Below w.heap.size w w2) := Lib.hid (btr B1.out b2)
    have K := implOrder w1.heap.size N 0 0 M ch L xss w2 hc ho W2 (Nat.le_refl _) (Nat.zero_le _) hN1 hN2 (Lib.hid Ok.out)
    rw [ptr_at (by omega)] at K
    have Fin : Hid (IsOrd N xss (pr (osL N ch N) 0 (N - 0))) := Lib.hid (.inl ⟨Hs.out, osL N ch N, by rw [Int.toNat_natCast]; exact hw.os hN1 hN2, by rw [prodL_pr, osL_len]; rfl⟩)
    clear hc ho hw b2
    go_wp2_with fail
    refine K.mono ?_
    rintro e w3 ⟨rfl, rfl⟩
    clear K
    go_wp2_with fail
    go_ret
    exact ⟨_, rfl, Fin.out, B2.out⟩

set_option maxHeartbeats 4000000 in
set_option maxRecDepth 100000 in
/-- OrbitSizes. -/
theorem implOrbitSizes : CtImS 37 IsSiz := by
  intro a A n c vs xss w g _
  have HX := Lib.hid g.rr
  have hlx : Hid (xss.length = n) := Lib.hid g.rr.lx
  have hn := g.hn
  have hl := Lib.hid g.hl
  clear g
  go_enter Try.func37, Try.ntmps37
  go_wp2_with fail
  refine (implGS a A n c vs xss w HX.out hn hl).mono ?_
  rintro e w1 ⟨rfl, b1⟩
  have B1 := Lib.hid b1
  have X1 := Lib.hid (HX.out.up b1)
  clear b1
  rcases hs : gB a xss with _ | _
  · have Fin : Hid (IsSiz a xss []) := Lib.hid (.inr ⟨hs, rfl⟩)
    clear hs
    go_wp2_with fail
    go_ret
    exact ⟨_, _, _, _, rfl, Slc.nil_, Fin.out, B1.out⟩
  · obtain ⟨N, rfl, hN1, hN2, hg8, hpm, hok⟩ := gB_pm hs
    have Hs := Lib.hid hs
    have Ok := Lib.hid hok
    have hn8 : n ≤ 8 := by rw [← hlx.out]; exact hg8
    clear hs hpm hok hg8
    go_wp2_with fail
    refine (implChainOf N n c A vs xss w1 X1.out hN1 hN2 hn8 Ok).mono ?_
    rintro e w2 ⟨ch, L, M, rfl, hc, ho, hw, b2⟩
    have W2 := Lib.hid hw
    have C2 := Lib.hid hc
    have O2 := Lib.hid ho
    have B2 : Hid (Below w.heap.size w w2) := Lib.hid (btr B1.out b2)
    have hz2 := B2.out.size
    have Fin : Hid (IsSiz N xss (osL N ch N)) := Lib.hid (.inl ⟨Hs.out, by rw [Int.toNat_natCast]; exact hw.os hN1 hN2⟩)
    have ep : ptr N L 0 = .pointer (some ⟨(L 0).B, 0, none⟩) := ptr_at (by omega)
    have Ep := Lib.hid ep
    clear hc ho hw b2 ep
    go_wp2_with fail
    go_loopg [5, 6] N (fun gg v l wr => ∃ (j cc : Nat) (A' : Option Addr), j ≤ N ∧ N - j ≤ gg ∧ l = ptr N L j ∧ v = .slice A' j cc ∧ Slc wr w2.heap.size A' j cc (osL N ch j) ∧ Below w2.heap.size w2 wr)
    case atStart => exact ⟨0, 0, none, Nat.zero_le _, by omega, Ep.out.symm, rfl, Slc.nil_, Below.refl _ _⟩
    case round =>
      obtain ⟨j, cc, A', hjN, hgg, rfl, rfl, hs, bel⟩ := hrel
      have Ss := Lib.hid hs
      have Be := Lib.hid bel
      have Cj := Lib.hid (C2.out.up bel)
      have hzr := bel.size
      clear hs bel
      by_cases hlt : j < N
      · rw [ptr_at hlt]
        obtain ⟨x0, x1, x2, x3, x4⟩ := Cj.out.cB (Nat.zero_le _) hlt
        have hol := Cj.out.olen (Nat.zero_le _) hlt
        rcases hoe : (L j).o with ⟨oA, on, oc⟩
        rw [hoe] at x2 hol
        have hol : on = (L j).orb.length := hol
        have en : Hid ((nr N ch j N : Int) = (on : Int)) := Lib.hid (by
          rw [orb_nr (O2.out j (Nat.zero_le _) hlt) (W2.out.up.rep j (Nat.zero_le _) hlt), hol])
        have Osk := Lib.hid (osL_succ (N := N) (c := ch) j)
        simp only [sval] at x2
        have PA : Hid (∀ (A3 : Option Addr) (c3 : Nat) (w3 : World), Slc w3 w2.heap.size A3 (j + 1) c3 (osL N ch j ++ [(on : Int)]) → (wr.alloc (.cells #[.int .i64 (on : Nat)] 2)).grownBy w3 (Value.slice A' j cc).ownBlock → Below w2.heap.size w2 w3 ∧ w3.cell? ⟨(L j).B, 4, none⟩ = some (ptr N L (j + 1))) := Lib.hid (by
          intro A3 c3 w3 s3 g3
          have b3 : Below w2.heap.size w2 w3 := (Be.out.alloc hzr _).grown g3 (by simp; omega) (fun j hj => (Ss.out.lt_ j hj).1)
          exact ⟨b3, ((C2.out.up b3).cB (Nat.zero_le _) hlt).2.2.2.2⟩)
        clear hol hoe x0 x1 x3 x4
        go_wp2_with (first | (at_builtin; go_must (refine wpList_appI rfl _ _ rfl w2.heap.size A' j cc (osL N ch j) rfl (Ss.out.alloc _) wr.heap.size (on : Int) rfl (by rw [World.cell?_alloc_at _ _ _ _ rfl]; rfl) (by omega) (by simp; omega) ?_); intro A3 c3 w3 s3 g3 _; obtain ⟨b3, z4⟩ := PA.out A3 c3 w3 s3 g3; have S3 := Lib.hid s3; have B3 := Lib.hid b3; clear s3 g3 b3))
        have S4 : Hid (Slc w3 w2.heap.size A3 (j + 1) c3 (osL N ch (j + 1))) := Lib.hid (by rw [Osk.out, en.out]; exact S3.out)
        go_roundg (N - (j + 1))
        case rel => exact ⟨j + 1, _, _, by omega, by omega, rfl, rfl, S4.out, B3.out⟩
        case measure => omega
      · obtain rfl : j = N := by omega
        rw [ptr_end (Nat.le_refl _)]
        have S5 := Lib.hid (Ss.out.mono hz2)
        have B5 : Hid (Below w.heap.size w wr) := Lib.hid (btr B2.out Be.out)
        go_wp2_with fail
        go_ret
        exact ⟨_, _, _, _, rfl, S5.out, Fin.out, B5.out⟩

set_option maxHeartbeats 4000000 in
set_option maxRecDepth 100000 in
/-- IsMember. -/
theorem implIsMember : CtImsB 15 IsMem := by
  intro a A n c vs xss P np cp p w g s _
  have HX := Lib.hid g.rr
  have hlx : Hid (xss.length = n) := Lib.hid g.rr.lx
  have hn := g.hn
  have hl := Lib.hid g.hl
  have HP := Lib.hid s.ri
  have lp := Lib.hid s.lp
  have hnp := s.hn
  clear g s
  obtain ⟨ip, hip⟩ : ∃ ip, (decide ((np : Int) = a) && isP p) = ip := ⟨_, rfl⟩
  have Hip := Lib.hid hip
  clear hip
  go_enter Try.func15, Try.ntmps15
  rcases hs : gB a xss with _ | _
  · have Fin : Hid (IsMem a xss p false) := Lib.hid ⟨fun h => (by cases h), fun h => by have := h.1; rw [hs] at this; cases this⟩
    have Hs := Lib.hid hs
    clear hs
    go_wp2_with (first
      | (go_at_call 47; refine (implGS a A n c vs xss w HX.out hn hl).mono ?_; rintro e w1 ⟨rfl, b1⟩; rw [Hs.out]; have B1 := Lib.hid b1; clear b1))
    go_ret
    exact ⟨_, rfl, Fin.out, B1.out⟩
  · have Hs := Lib.hid hs
    rcases ip with _ | _
    · have Fin : Hid (IsMem a xss p false) := Lib.hid ⟨fun h => (by cases h), fun h => by
        have h1 := h.2.1
        have h2 := h.2.2.1
        have h3 := Hip.out
        rw [lp.out] at h1
        rw [h2] at h3
        simp [h1] at h3⟩
      clear hs
      go_wp2_with (first
        | (go_at_call 47; refine (implGS a A n c vs xss w HX.out hn hl).mono ?_; rintro e w1 ⟨rfl, b1⟩; rw [Hs.out]; have B1 := Lib.hid b1; clear b1)
        | (go_at_call 48; refine (implIsPOf a P np cp p false w1 (HP.out.up B1.out) lp (by omega) Hip).mono ?_; rintro e w2 ⟨rfl, b2⟩; have B2 := Lib.hid b2; clear b2))
      go_ret
      exact ⟨_, rfl, Fin.out, btr B1.out B2.out⟩
    · obtain ⟨N, rfl, hN1, hN2, hg8, hpm, hok⟩ := gB_pm hs
      have h3 := Hip.out
      rw [Bool.and_eq_true, decide_eq_true_eq] at h3
      obtain rfl : np = N := by omega
      have PP : Hid (Pn np p) := Lib.hid ⟨isP_iff.1 h3.2, lp.out⟩
      have Hq := Lib.hid h3.2
      have Ok := Lib.hid hok
      have hn8 : n ≤ 8 := by rw [← hlx.out]; exact hg8
      obtain ⟨ans, hans⟩ := boolOf (Mb xss np p)
      have Ha := Lib.hid hans
      have Fin : Hid (IsMem np xss p ans) := Lib.hid ⟨fun h => ⟨Hs.out, by rw [lp.out], Hq.out, by rw [Int.toNat_natCast]; exact hans.1 h⟩, fun h => hans.2 (by have := h.2.2.2; rwa [Int.toNat_natCast] at this)⟩
      clear hs hpm hok hg8 h3 hans
      go_wp2_with (first
        | (go_at_call 47; refine (implGS np A n c vs xss w HX.out hn hl).mono ?_; rintro e w1 ⟨rfl, b1⟩; rw [Hs.out]; have B1 := Lib.hid b1; clear b1)
        | (go_at_call 48; refine (implIsPOfT P np cp p w1 (HP.out.up B1.out) lp (by omega) Hq).mono ?_; rintro e w2 ⟨rfl, b2⟩; have B2 : Hid (Below w.heap.size w w2) := Lib.hid (btr B1.out b2); clear b2)
        | (go_at_call 49; refine (implChainOf np n c A vs xss w2 (HX.out.up B2.out) hN1 hN2 hn8 Ok).mono ?_; rintro e w3 ⟨ch, L, M, rfl, hc, ho, hw, b3⟩; have W3 := Lib.hid hw; have C3 := Lib.hid hc; have B3 : Hid (Below w.heap.size w w3) := Lib.hid (btr B2.out b3); clear hc ho hw b3)
        | (go_at_call 50; refine (implContains w2.heap.size np 0 cp M ch L P p w3 C3.out (by omega) (Lib.hid W3.out.up) hN2 (HP.out.up B3.out) PP (Lib.hid Fx.zero) ans (Lib.hid (Ha.out.trans (W3.out.mem p).symm))).mono ?_; rintro e w4 ⟨rfl, b4⟩; have B4 : Hid (Below w.heap.size w w4) := Lib.hid (btr B3.out b4); clear b4))
      go_ret
      exact ⟨_, rfl, Fin.out, B4.out⟩

set_option maxHeartbeats 4000000 in
set_option maxRecDepth 100000 in
/-- LongestMemberPrefix. -/
theorem implLongestMemberPrefix : CtImsI 16 IsLmp := by
  intro a A n c vs xss P np cp p w g s _
  have HX := Lib.hid g.rr
  have hlx : Hid (xss.length = n) := Lib.hid g.rr.lx
  have hn := g.hn
  have hl := Lib.hid g.hl
  have HP := Lib.hid s.ri
  have lp := Lib.hid s.lp
  have hnp := s.hn
  clear g s
  obtain ⟨ip, hip⟩ : ∃ ip, (decide ((np : Int) = a) && isP p) = ip := ⟨_, rfl⟩
  have Hip := Lib.hid hip
  clear hip
  go_enter Try.func16, Try.ntmps16
  rcases hs : gB a xss with _ | _
  · have Fin : Hid (IsLmp a xss p (-1)) := Lib.hid (.inr ⟨fun h => (by have := h.1; rw [hs] at this; cases this), rfl⟩)
    have Hs := Lib.hid hs
    clear hs
    go_wp2_with (first
      | (go_at_call 47; refine (implGS a A n c vs xss w HX.out hn hl).mono ?_; rintro e w1 ⟨rfl, b1⟩; rw [Hs.out]; have B1 := Lib.hid b1; clear b1))
    go_ret
    exact ⟨_, rfl, Fin.out, B1.out⟩
  · have Hs := Lib.hid hs
    rcases ip with _ | _
    · have Fin : Hid (IsLmp a xss p (-1)) := Lib.hid (.inr ⟨fun h => (by
        have h1 := h.2.1
        have h2 := h.2.2
        have h3 := Hip.out
        rw [lp.out] at h1
        rw [h2] at h3
        simp [h1] at h3), rfl⟩)
      clear hs
      go_wp2_with (first
        | (go_at_call 47; refine (implGS a A n c vs xss w HX.out hn hl).mono ?_; rintro e w1 ⟨rfl, b1⟩; rw [Hs.out]; have B1 := Lib.hid b1; clear b1)
        | (go_at_call 48; refine (implIsPOf a P np cp p false w1 (HP.out.up B1.out) lp (by omega) Hip).mono ?_; rintro e w2 ⟨rfl, b2⟩; have B2 := Lib.hid b2; clear b2))
      go_ret
      exact ⟨_, rfl, Fin.out, btr B1.out B2.out⟩
    · obtain ⟨N, rfl, hN1, hN2, hg8, hpm, hok⟩ := gB_pm hs
      have h3 := Hip.out
      rw [Bool.and_eq_true, decide_eq_true_eq] at h3
      obtain rfl : np = N := by omega
      have PP : Hid (Pn np p) := Lib.hid ⟨isP_iff.1 h3.2, lp.out⟩
      have Hq := Lib.hid h3.2
      have Ok := Lib.hid hok
      have hn8 : n ≤ 8 := by rw [← hlx.out]; exact hg8
      clear hs hpm hok hg8 h3
      go_wp2_with (first
        | (go_at_call 47; refine (implGS np A n c vs xss w HX.out hn hl).mono ?_; rintro e w1 ⟨rfl, b1⟩; rw [Hs.out]; have B1 := Lib.hid b1; clear b1)
        | (go_at_call 48; refine (implIsPOfT P np cp p w1 (HP.out.up B1.out) lp (by omega) Hq).mono ?_; rintro e w2 ⟨rfl, b2⟩; have B2 : Hid (Below w.heap.size w w2) := Lib.hid (btr B1.out b2); clear b2)
        | (go_at_call 49; refine (implChainOf np n c A vs xss w2 (HX.out.up B2.out) hN1 hN2 hn8 Ok).mono ?_; rintro e w3 ⟨ch, L, M, rfl, hc, ho, hw, b3⟩; have W3 := Lib.hid hw; have C3 := Lib.hid hc; have B3 : Hid (Below w.heap.size w w3) := Lib.hid (btr B2.out b3); clear hc ho hw b3)
        | (go_at_call 51; fail))
      refine (implMatch w2.heap.size np 0 np cp M ch L P p w3 C3.out (by omega) (Lib.hid W3.out.up) hN2 (HP.out.up B3.out) (Lib.hid lp.out) (by omega)).mono ?_
      rintro e w4 ⟨g, off, c', j, m, rfl, hm, hmt, hnm, hfr, b4⟩
      have B4 : Hid (Below w.heap.size w w4) := Lib.hid (btr B3.out b4)
      have C4 := Lib.hid (C3.out.up b4)
      have hjN := hmt.jN
      have Lo : Hid (LmpOK np xss p j) := Lib.hid (by
        have hv : ∀ t, t < np → p.getD t 0 = (nx p t : Int) := fun t ht => nx_val PP.out.1 (by rw [PP.out.2]; exact ht)
        refine ⟨hjN, ⟨m, (W3.out.mem m).1 hmt.mb, fun t ht => ?_⟩, fun hj ⟨q, hq, hag⟩ => ?_⟩
        · have := hmt.ag t (Nat.zero_le _) ht
          rw [hv t (by omega)] at this
          omega
        · refine hnm hj (by rw [lp.out]; exact hj) q ((W3.out.mem q).2 hq) fun i _ hi => ?_
          rw [hv i (by omega), hag i hi])
      have Fin : Hid (IsLmp np xss p (j : Nat)) := Lib.hid (.inl ⟨Hs.out, by rw [lp.out], Hq.out, j, rfl, by rw [Int.toNat_natCast]; exact Lo.out⟩)
      clear hm hmt hnm hfr b4
      by_cases hj : j < np
      · rw [ptr_at hj]
        obtain ⟨x0, _⟩ := C4.out.cB (Nat.zero_le _) hj
        go_wp2_with fail
        go_ret
        exact ⟨_, rfl, Fin.out, B4.out⟩
      · obtain rfl : j = np := by omega
        rw [ptr_end (Nat.le_refl _)]
        go_wp2_with fail
        go_ret
        exact ⟨_, rfl, Fin.out, B4.out⟩
end Go.Proofs.Ytooafmifbplbhaa
