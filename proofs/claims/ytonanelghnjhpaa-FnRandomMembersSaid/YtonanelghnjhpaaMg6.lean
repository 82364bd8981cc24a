/- Part 6 of the texts: PcF, PkM, Shelf, Row, PkV, PkO, PkR, Arg, WalkG5, WalkB5, PkC, WalkF5, WalkC5. No condition of its own: each text tells its own. -/
import Derived.Test.YtonanelghnjhpaaMg5
import Derived.Test.YtonanelghnjhpaaMg3
import Derived.Test.YtonanelghnjhpaaMg1
import Derived.Test.YtonanelghnjhpaaMg4
import Derived.Test.YtonanelghnjhpaaMg2
import Derived.Shelf.SortM.Plain
import Derived.Shelf.SlicesE.Reverse
import Derived.Shelf.SlicesE.Equal
import Derived.Test.YtonanelghnjhpaaProg
import Derived.Sort.Grow
import Derived.ChangeArms
import Derived.ProofKit
import Derived.OpenShut
import Derived.ChangeSlices
set_option linter.unusedVariables false
set_option linter.unusedSimpArgs false

/- The program's order, OrbitSizes, GroupOrder, IsMember, LongestMemberPrefix. Conditions: at most 1048576 lists of at most 1048576 numbers. -/
namespace Go.Proofs.Ytonanelghnjhpaa
open Go.RowKit

section
variable {N k i : Nat} {c : Ch} {L : Nat → LK} {O : List Nat} {gs : List (List Int)}
theorem orb_nr (h : Orb c i O) (hr : RepOK N c i) : nr N c i N = O.length := by
  have a : ((List.range N).filter fun y => !(c.rep i y).isEmpty).length ≤ O.length := nd_subP (List.nodup_range.filter _) fun y hy => by
    rw [List.mem_filter, Bool.not_eq_true', List.isEmpty_eq_false_iff] at hy
    exact (h.2 y).2 hy.2
  have b : O.length ≤ ((List.range N).filter fun y => !(c.rep i y).isEmpty).length := nd_subP h.1 fun y hy => by
    rw [List.mem_filter, Bool.not_eq_true', List.isEmpty_eq_false_iff, List.mem_range]
    exact ⟨h.lt hr hy, (h.2 y).1 hy⟩
  unfold nr; omega
theorem ptr_at (hi : i < N) : ptr N L i = .pointer (some ⟨(L i).B, 0, none⟩) := if_pos hi
theorem ptr_end (hi : N ≤ i) : ptr N L i = .pointer none := if_neg (by omega)
end

set_option maxHeartbeats 2000000 in
/-- order, from link k on. -/
theorem implOrder (base N k0 k : Nat) (M : Nat → Prop) (c : Ch) (L : Nat → LK) (gs : List (List Int)) (w : World) (hc : Ck w base N k0 M c L) (ho : Orbs N k0 c L) (hw : Hid (Whole N gs c)) (hk : k0 ≤ k) (hkN : k ≤ N) (h1 : 1 ≤ N) (h2 : N ≤ 20) (hg : Hid (∀ g ∈ gs, Pn N g)) :
    Calls Try.prog 58 #[ptr N L k] w fun e w' => e = .returned (.int .i64 (pr (osL N c N) k (N - k))) ∧ w = w' := by
  have HC := Lib.hid hc
  have HO := Lib.hid ho
  have Hos := Lib.hid (hw.out.os h1 h2)
  clear hc ho
  go_enter Try.func58, Try.ntmps58
  go_wp2_with fail
  go_loopg [3, 4] N (fun gg o l wr => ∃ j : Nat, k ≤ j ∧ j ≤ N ∧ N - j ≤ gg ∧ l = ptr N L j ∧ o = .int .i64 (pr (osL N c N) k (j - k)) ∧ w = wr)
  case atStart => exact ⟨k, Nat.le_refl _, hkN, by omega, rfl, by rw [Nat.sub_self]; rfl, rfl⟩
  case round =>
    obtain ⟨j, hkj, hjN, hgg, rfl, rfl, rfl⟩ := hrel
    by_cases hlt : j < N
    · rw [ptr_at hlt]
      obtain ⟨x0, x1, x2, x3, x4⟩ := HC.out.cB (by omega) hlt
      have hol := HC.out.olen (by omega) hlt
      rcases hoe : (L j).o with ⟨oA, on, oc⟩
      rw [hoe] at x2 hol
      have hol : on = (L j).orb.length := hol
      have en : (osL N c N).getD j 0 = (on : Int) := by
        rw [osL_at hlt, orb_nr (HO.out j (by omega) hlt) (hw.out.up.rep j (Nat.zero_le _) hlt), hol]
      have e1 : pr (osL N c N) k (j - k) * (on : Int) = pr (osL N c N) k (j + 1 - k) := by
        rw [show j + 1 - k = (j - k) + 1 by omega]
        show _ = pr (osL N c N) k (j - k) * (osL N c N).getD (k + (j - k)) 0
        rw [show k + (j - k) = j by omega, en]
      have b1 := Hos.out.pr_le hg.out h1 h2 k (j + 1 - k) (by omega)
      have b2 := facts_le h2 (k + (j + 1 - k)) (by omega)
      have wr1 : IntKind.i64.wrap (pr (osL N c N) k (j - k) * (on : Int)) = pr (osL N c N) k (j + 1 - k) := by rw [e1, IntKind.wrap_i64]; omega
      simp only [sval] at x2
      clear hol hoe en e1 b1 b2 x0 x1 x3
      go_wp2_with fail
      go_roundg (N - (j + 1))
      case rel => exact ⟨j + 1, by omega, by omega, by omega, rfl, rfl, rfl⟩
      case measure => omega
    · obtain rfl : j = N := by omega
      rw [ptr_end (Nat.le_refl _)]
      go_wp2_with fail
      go_ret
      exact ⟨rfl, rfl⟩

set_option maxHeartbeats 1000000 in
theorem implIsPOf (a : Int) (A : Option Addr) (n c : Nat) (xs : List Int) (ans : Bool) (w : World) (hx : RI w w.heap.size A xs) (lx : Hid (xs.length = n)) (hn : n ≤ 2097152) (ha : Hid ((decide ((n : Int) = a) && isP xs) = ans)) :
    Calls Try.prog 74 #[.int .i64 a, .slice A n c] w fun e w' => e = .returned (.bool ans) ∧ Below w.heap.size w w' := by
  have HX := Lib.hid hx
  clear hx
  by_cases e1 : (n : Int) = a
  · subst e1
    have e0 : ((n : Int) == (n : Int)) = true := by simp
    have h1 : Hid (isP xs = ans) := Lib.hid (by rw [← ha.out]; simp)
    go_enter Try.func74, Try.ntmps74
    go_wp2_with (first | (go_at_call 97; refine (implIsP A c n xs w HX.out lx hn).mono ?_; rintro e w1 ⟨rfl, b1⟩; rw [h1.out]))
    go_ret
    exact ⟨rfl, b1⟩
  · have e0 : ((n : Int) == a) = false := by simpa using e1
    have h1 : Hid (ans = false) := Lib.hid (by rw [← ha.out]; simp [e1])
    go_enter Try.func74, Try.ntmps74
    go_wp2_with fail
    go_ret
    exact ⟨ret_bool h1.out.symm, Below.refl _ _⟩
theorem implIsPOfT (A : Option Addr) (n c : Nat) (xs : List Int) (w : World) (hx : RI w w.heap.size A xs) (lx : Hid (xs.length = n)) (hn : n ≤ 2097152) (ha : Hid (isP xs = true)) :
    Calls Try.prog 74 #[.int .i64 (n : Nat), .slice A n c] w fun e w' => e = .returned (.bool true) ∧ Below w.heap.size w w' :=
  implIsPOf n A n c xs true w hx lx hn (Lib.hid (by simp [ha.out]))

set_option maxHeartbeats 2000000 in
/-- GroupOrder. -/
theorem implGroupOrder : CtImI 17 IsOrd := by
  intro a A n c vs xss w g _
  have HX := Lib.hid g.rr
  have hlx : Hid (xss.length = n) := Lib.hid g.rr.lx
  have hn := g.hn
  have hl := Lib.hid g.hl
  clear g
  go_enter Try.func17, Try.ntmps17
  go_wp2_with fail
  refine (implGS a A n c vs xss w HX.out hn hl).mono ?_
  rintro e w1 ⟨rfl, b1⟩
  have B1 := Lib.hid b1
  have X1 := Lib.hid (HX.out.up b1)
  clear b1
  rcases hs : gB a xss with _ | _
  · have Fin : Hid (IsOrd a xss 0) := Lib.hid (.inr ⟨hs, rfl⟩)
    clear hs
    go_wp2_with fail
    go_ret
    exact ⟨_, rfl, Fin.out, B1.out⟩
  · obtain ⟨N, rfl, hN1, hN2, hg8, hpm, hok⟩ := gB_pm hs
    have Hs := Lib.hid hs
    have Ok := Lib.hid hok
    have hn8 : n ≤ 8 := by rw [← hlx.out]; exact hg8
    clear hs hpm hok hg8
    go_wp2_with fail
    refine (implChainOf N n c A vs xss w1 X1.out hN1 hN2 hn8 Ok).mono ?_
    rintro e w2 ⟨ch, L, M, rfl, hc, ho, hw, b2⟩
    have W2 := Lib.hid hw
    have B2 : Hid (Below w.heap.size w w2) := Lib.hid (btr B1.out b2)
    have K := implOrder w1.heap.size N 0 0 M ch L xss w2 hc ho W2 (Nat.le_refl _) (Nat.zero_le _) hN1 hN2 (Lib.hid Ok.out)
    rw [ptr_at (by omega)] at K
    have Fin : Hid (IsOrd N xss (pr (osL N ch N) 0 (N - 0))) := Lib.hid (.inl ⟨Hs.out, osL N ch N, by rw [Int.toNat_natCast]; exact hw.os hN1 hN2, by rw [prodL_pr, osL_len]; rfl⟩)
    clear hc ho hw b2
    go_wp2_with fail
    refine K.mono ?_
    rintro e w3 ⟨rfl, rfl⟩
    clear K
    go_wp2_with fail
    go_ret
    exact ⟨_, rfl, Fin.out, B2.out⟩

set_option maxHeartbeats 4000000 in
set_option maxRecDepth 100000 in
/-- OrbitSizes. -/
theorem implOrbitSizes : CtImS 18 IsSiz := by
  intro a A n c vs xss w g _
  have HX := Lib.hid g.rr
  have hlx : Hid (xss.length = n) := Lib.hid g.rr.lx
  have hn := g.hn
  have hl := Lib.hid g.hl
  clear g
  go_enter Try.func18, Try.ntmps18
  go_wp2_with fail
  refine (implGS a A n c vs xss w HX.out hn hl).mono ?_
  rintro e w1 ⟨rfl, b1⟩
  have B1 := Lib.hid b1
  have X1 := Lib.hid (HX.out.up b1)
  clear b1
  rcases hs : gB a xss with _ | _
  · have Fin : Hid (IsSiz a xss []) := Lib.hid (.inr ⟨hs, rfl⟩)
    clear hs
    go_wp2_with fail
    go_ret
    exact ⟨_, _, _, _, rfl, Slc.nil_, Fin.out, B1.out⟩
  · obtain ⟨N, rfl, hN1, hN2, hg8, hpm, hok⟩ := gB_pm hs
    have Hs := Lib.hid hs
    have Ok := Lib.hid hok
    have hn8 : n ≤ 8 := by rw [← hlx.out]; exact hg8
    clear hs hpm hok hg8
    go_wp2_with fail
    refine (implChainOf N n c A vs xss w1 X1.out hN1 hN2 hn8 Ok).mono ?_
    rintro e w2 ⟨ch, L, M, rfl, hc, ho, hw, b2⟩
    have W2 := Lib.hid hw
    have C2 := Lib.hid hc
    have O2 := Lib.hid ho
    have B2 : Hid (Below w.heap.size w w2) := Lib.hid (btr B1.out b2)
    have hz2 := B2.out.size
    have Fin : Hid (IsSiz N xss (osL N ch N)) := Lib.hid (.inl ⟨Hs.out, by rw [Int.toNat_natCast]; exact hw.os hN1 hN2⟩)
    have ep : ptr N L 0 = .pointer (some ⟨(L 0).B, 0, none⟩) := ptr_at (by omega)
    have Ep := Lib.hid ep
    clear hc ho hw b2 ep
    go_wp2_with fail
    go_loopg [5, 6] N (fun gg v l wr => ∃ (j cc : Nat) (A' : Option Addr), j ≤ N ∧ N - j ≤ gg ∧ l = ptr N L j ∧ v = .slice A' j cc ∧ Slc wr w2.heap.size A' j cc (osL N ch j) ∧ Below w2.heap.size w2 wr)
    case atStart => exact ⟨0, 0, none, Nat.zero_le _, by omega, Ep.out.symm, rfl, Slc.nil_, Below.refl _ _⟩
    case round =>
      obtain ⟨j, cc, A', hjN, hgg, rfl, rfl, hs, bel⟩ := hrel
      have Ss := Lib.hid hs
      have Be := Lib.hid bel
      have Cj := Lib.hid (C2.out.up bel)
      have hzr := bel.size
      clear hs bel
      by_cases hlt : j < N
      · rw [ptr_at hlt]
        obtain ⟨x0, x1, x2, x3, x4⟩ := Cj.out.cB (Nat.zero_le _) hlt
        have hol := Cj.out.olen (Nat.zero_le _) hlt
        rcases hoe : (L j).o with ⟨oA, on, oc⟩
        rw [hoe] at x2 hol
        have hol : on = (L j).orb.length := hol
        have en : Hid ((nr N ch j N : Int) = (on : Int)) := Lib.hid (by
          rw [orb_nr (O2.out j (Nat.zero_le _) hlt) (W2.out.up.rep j (Nat.zero_le _) hlt), hol])
        have Osk := Lib.hid (osL_succ (N := N) (c := ch) j)
        simp only [sval] at x2
        have PA : Hid (∀ (A3 : Option Addr) (c3 : Nat) (w3 : World), Slc w3 w2.heap.size A3 (j + 1) c3 (osL N ch j ++ [(on : Int)]) → (wr.alloc (.cells #[.int .i64 (on : Nat)] 2)).grownBy w3 (Value.slice A' j cc).ownBlock → Below w2.heap.size w2 w3 ∧ w3.cell? ⟨(L j).B, 4, none⟩ = some (ptr N L (j + 1))) := Lib.hid (by
          intro A3 c3 w3 s3 g3
          have b3 : Below w2.heap.size w2 w3 := (Be.out.alloc hzr _).grown g3 (by simp; omega) (fun j hj => (Ss.out.lt_ j hj).1)
          exact ⟨b3, ((C2.out.up b3).cB (Nat.zero_le _) hlt).2.2.2.2⟩)
        clear hol hoe x0 x1 x3 x4
        go_wp2_with (first | (at_builtin; go_must (refine wpList_appI rfl _ _ rfl w2.heap.size A' j cc (osL N ch j) rfl (Ss.out.alloc _) wr.heap.size (on : Int) rfl (by rw [World.cell?_alloc_at _ _ _ _ rfl]; rfl) (by omega) (by simp; omega) ?_); intro A3 c3 w3 s3 g3 _; obtain ⟨b3, z4⟩ := PA.out A3 c3 w3 s3 g3; have S3 := Lib.hid s3; have B3 := Lib.hid b3; clear s3 g3 b3))
        have S4 : Hid (Slc w3 w2.heap.size A3 (j + 1) c3 (osL N ch (j + 1))) := Lib.hid (by rw [Osk.out, en.out]; exact S3.out)
        go_roundg (N - (j + 1))
        case rel => exact ⟨j + 1, _, _, by omega, by omega, rfl, rfl, S4.out, B3.out⟩
        case measure => omega
      · obtain rfl : j = N := by omega
        rw [ptr_end (Nat.le_refl _)]
        have S5 := Lib.hid (Ss.out.mono hz2)
        have B5 : Hid (Below w.heap.size w wr) := Lib.hid (btr B2.out Be.out)
        go_wp2_with fail
        go_ret
        exact ⟨_, _, _, _, rfl, S5.out, Fin.out, B5.out⟩

set_option maxHeartbeats 4000000 in
set_option maxRecDepth 100000 in
/-- IsMember. -/
theorem implIsMember : CtImsB 32 IsMem := by
  intro a A n c vs xss P np cp p w g s _
  have HX := Lib.hid g.rr
  have hlx : Hid (xss.length = n) := Lib.hid g.rr.lx
  have hn := g.hn
  have hl := Lib.hid g.hl
  have HP := Lib.hid s.ri
  have lp := Lib.hid s.lp
  have hnp := s.hn
  clear g s
  obtain ⟨ip, hip⟩ : ∃ ip, (decide ((np : Int) = a) && isP p) = ip := ⟨_, rfl⟩
  have Hip := Lib.hid hip
  clear hip
  go_enter Try.func32, Try.ntmps32
  rcases hs : gB a xss with _ | _
  · have Fin : Hid (IsMem a xss p false) := Lib.hid ⟨fun h => (by cases h), fun h => by have := h.1; rw [hs] at this; cases this⟩
    have Hs := Lib.hid hs
    clear hs
    go_wp2_with (first
      | (go_at_call 56; refine (implGS a A n c vs xss w HX.out hn hl).mono ?_; rintro e w1 ⟨rfl, b1⟩; rw [Hs.out]; have B1 := Lib.hid b1; clear b1))
    go_ret
    exact ⟨_, rfl, Fin.out, B1.out⟩
  · have Hs := Lib.hid hs
    rcases ip with _ | _
    · have Fin : Hid (IsMem a xss p false) := Lib.hid ⟨fun h => (by cases h), fun h => by
        have h1 := h.2.1
        have h2 := h.2.2.1
        have h3 := Hip.out
        rw [lp.out] at h1
        rw [h2] at h3
        simp [h1] at h3⟩
      clear hs
      go_wp2_with (first
        | (go_at_call 56; refine (implGS a A n c vs xss w HX.out hn hl).mono ?_; rintro e w1 ⟨rfl, b1⟩; rw [Hs.out]; have B1 := Lib.hid b1; clear b1)
        | (go_at_call 74; refine (implIsPOf a P np cp p false w1 (HP.out.up B1.out) lp (by omega) Hip).mono ?_; rintro e w2 ⟨rfl, b2⟩; have B2 := Lib.hid b2; clear b2))
      go_ret
      exact ⟨_, rfl, Fin.out, btr B1.out B2.out⟩
    · obtain ⟨N, rfl, hN1, hN2, hg8, hpm, hok⟩ := gB_pm hs
      have h3 := Hip.out
      rw [Bool.and_eq_true, decide_eq_true_eq] at h3
      obtain rfl : np = N := by omega
      have PP : Hid (Pn np p) := Lib.hid ⟨isP_iff.1 h3.2, lp.out⟩
      have Hq := Lib.hid h3.2
      have Ok := Lib.hid hok
      have hn8 : n ≤ 8 := by rw [← hlx.out]; exact hg8
      obtain ⟨ans, hans⟩ := boolOf (Mb xss np p)
      have Ha := Lib.hid hans
      have Fin : Hid (IsMem np xss p ans) := Lib.hid ⟨fun h => ⟨Hs.out, by rw [lp.out], Hq.out, by rw [Int.toNat_natCast]; exact hans.1 h⟩, fun h => hans.2 (by have := h.2.2.2; rwa [Int.toNat_natCast] at this)⟩
      clear hs hpm hok hg8 h3 hans
      go_wp2_with (first
        | (go_at_call 56; refine (implGS np A n c vs xss w HX.out hn hl).mono ?_; rintro e w1 ⟨rfl, b1⟩; rw [Hs.out]; have B1 := Lib.hid b1; clear b1)
        | (go_at_call 74; refine (implIsPOfT P np cp p w1 (HP.out.up B1.out) lp (by omega) Hq).mono ?_; rintro e w2 ⟨rfl, b2⟩; have B2 : Hid (Below w.heap.size w w2) := Lib.hid (btr B1.out b2); clear b2)
        | (go_at_call 57; refine (implChainOf np n c A vs xss w2 (HX.out.up B2.out) hN1 hN2 hn8 Ok).mono ?_; rintro e w3 ⟨ch, L, M, rfl, hc, ho, hw, b3⟩; have W3 := Lib.hid hw; have C3 := Lib.hid hc; have B3 : Hid (Below w.heap.size w w3) := Lib.hid (btr B2.out b3); clear hc ho hw b3)
        | (go_at_call 66; refine (implContains w2.heap.size np 0 cp M ch L P p w3 C3.out (by omega) (Lib.hid W3.out.up) hN2 (HP.out.up B3.out) PP (Lib.hid Fx.zero) ans (Lib.hid (Ha.out.trans (W3.out.mem p).symm))).mono ?_; rintro e w4 ⟨rfl, b4⟩; have B4 : Hid (Below w.heap.size w w4) := Lib.hid (btr B3.out b4); clear b4))
      go_ret
      exact ⟨_, rfl, Fin.out, B4.out⟩

end Go.Proofs.Ytonanelghnjhpaa

/- The entries that a link of the program's chain allows, in order; which member an entry leads to. No Go in it. Conditions: at most 20 points. -/
namespace Go.Proofs.Ytonanelghnjhpaa
open Go.RowKit

section
variable {N j v y : Nat} {c : Ch} {O : List Nat} {gs : List (List Int)} {m zs : List Int}
theorem orb_perm (h : Orb c j O) (hr : RepOK N c j) : O.Perm ((List.range N).filter fun y => !(c.rep j y).isEmpty) :=
  (List.perm_ext_iff_of_nodup h.1 (List.nodup_range.filter _)).2 fun y => by
    rw [List.mem_filter, List.mem_range, Bool.not_eq_true', List.isEmpty_eq_false_iff, h.2]
    exact ⟨fun e => ⟨h.lt hr ((h.2 y).2 e), e⟩, fun e => e.2⟩
/-- The entries of m at the orbit's points. -/
def vlL (m : List Int) (O : List Nat) : List Int := O.map fun y => (nx m y : Int)
theorem vlL_len : (vlL m O).length = O.length := by simp [vlL]
theorem vlL_take {k : Nat} (hk : k < O.length) : vlL m (O.take (k + 1)) = vlL m (O.take k) ++ [(nx m (O.getD k 0) : Int)] := by
  unfold vlL
  rw [List.take_succ_eq_append_getElem hk, List.map_append, List.getD_eq_getElem?_getD, List.getElem?_eq_getElem hk]; rfl
/-- Sorted, they are the entries there. -/
theorem val_chL (hO : Orb c j O) (hw : Whole N gs c) (h1 : 1 ≤ N) (h2 : N ≤ 20) (hg : ∀ g ∈ gs, Pn N g) (hj : j < N) (hm : Mb gs N m) : ChL N gs m j ((vlL m O).mergeSort fun x y => decide (x ≤ y)) := by
  refine chL_ok hw h1 h2 hg hj hm ((List.mergeSort_perm _ _).trans ((orb_perm hO (hw.up.rep j (Nat.zero_le _) hj)).map _)) ?_
  have := List.pairwise_mergeSort (le := fun a b : Int => decide (a ≤ b)) (fun a b c h1 h2 => by simp at h1 h2 ⊢; omega) (fun a b => by simp; omega) (vlL m O)
  exact this.imp fun h => of_decide_eq_true h
theorem Whole.pick (hw : Whole N gs c) (h1 : 1 ≤ N) (h2 : N ≤ 20) (hg : ∀ g ∈ gs, Pn N g) (hj : j < N) (hm : Mb gs N m) (hz : ChL N gs m j zs) (hv : (v : Int) ∈ zs) : ∃ y, y < N ∧ (nx m y : Int) = v ∧ c.rep j y ≠ [] := by
  obtain ⟨q, hq, hqa, hqv⟩ := (hz.2 _).1 hv
  obtain ⟨y, hy, hry, hmy⟩ := chL_mem.1 ((hw.choice h1 h2 hg hj hm).2 ⟨q, hq, hqa, hqv⟩)
  exact ⟨y, hy, hmy, hry⟩
theorem Whole.picked (hw : Whole N gs c) (h1 : 1 ≤ N) (h2 : N ≤ 20) (hg : ∀ g ∈ gs, Pn N g) (hj : j < N) (hm : Mb gs N m) (hr : c.rep j y ≠ []) : Mb gs N (compL (c.rep j y) m) ∧ Ag j (compL (c.rep j y) m) m ∧ nx (compL (c.rep j y) m) j = nx m y := by
  obtain ⟨a1, a2, a3, _⟩ := hw.rep_mb h1 h2 hj hr
  have hp := a1.pn hg h1 h2
  exact ⟨a1.comp hg h1 h2 hm, fun t ht => by rw [hp.nxc (by omega), a2 t ht], by rw [hp.nxc hj, a3]⟩
/-- The entry of a member there is one of them. -/
theorem ChL.has {q : List Int} (h : ChL N gs m j zs) (hq : Mb gs N q) (ha : Ag j q m) : (nx q j : Int) ∈ zs := (h.2 _).2 ⟨q, hq, ha, rfl⟩
theorem ChL.bnd {x : Int} (h : ChL N gs m j zs) (hg : ∀ g ∈ gs, Pn N g) (h1 : 1 ≤ N) (h2 : N ≤ 20) (hj : j < N) (hx : x ∈ zs) : ∃ v : Nat, x = (v : Int) ∧ v < N := by
  obtain ⟨q, hq, _, rfl⟩ := (h.2 _).1 hx
  exact ⟨nx q j, rfl, (hq.pn hg h1 h2).lt hj⟩
end
end Go.Proofs.Ytonanelghnjhpaa

/- The library's contracts laid at this program: tables of numbers, and facts that the kernel compares. No condition. -/
namespace Go.Proofs.Ytonanelghnjhpaa
open Go.Proofs Go.Shelf
def laySort_ren : Go.Shelf.Ren := ⟨fun | 5 => 118 | 8 => 135 | 7 => 134 | 19 => 146 | 20 => 147 | 10 => 138 | 11 => 139 | 12 => 140 | 13 => 141 | 14 => 142 | 15 => 143 | 16 => 127 | 17 => 144 | 18 => 145 | 30 => 148 | 31 => 149 | 32 => 150 | 33 => 151 | 34 => 152 | 35 => 137 | 40 => 153 | n => n, fun | 23 => 28 | 25 => 2 | 3 => 3 | 32 => 115 | 22 => 28 | 0 => 0 | 44 => 130 | 46 => 132 | 4 => 4 | 36 => 124 | 35 => 123 | 41 => 103 | 5 => 5 | 9 => 9 | 53 => 133 | 57 => 137 | 63 => 139 | 64 => 140 | n => n, fun | n => n⟩
theorem laySort : Go.Proofs.SlLaysM.n5 Try.prog laySort_ren := {
  mixed := by kernel_rfl
  f5 := ⟨Try.f118.name, by decide, Try.func118.trans (congrArg some (by kernel_rfl))⟩
  f7 := ⟨Try.f134.name, by decide, Try.func134.trans (congrArg some (by kernel_rfl))⟩
  f8 := Try.func135.trans (congrArg some (by kernel_rfl))
  f10 := ⟨Try.f138.name, by decide, Try.func138.trans (congrArg some (by kernel_rfl))⟩
  f11 := ⟨Try.f139.name, by decide, Try.func139.trans (congrArg some (by kernel_rfl))⟩
  f12 := ⟨Try.f140.name, by decide, Try.func140.trans (congrArg some (by kernel_rfl))⟩
  f13 := ⟨Try.f141.name, by decide, Try.func141.trans (congrArg some (by kernel_rfl))⟩
  f14 := ⟨Try.f142.name, by decide, Try.func142.trans (congrArg some (by kernel_rfl))⟩
  f15 := ⟨Try.f143.name, by decide, Try.func143.trans (congrArg some (by kernel_rfl))⟩
  f16 := ⟨Try.f127.name, by decide, Try.func127.trans (congrArg some (by kernel_rfl))⟩
  f17 := ⟨Try.f144.name, by decide, Try.func144.trans (congrArg some (by kernel_rfl))⟩
  f18 := ⟨Try.f145.name, by decide, Try.func145.trans (congrArg some (by kernel_rfl))⟩
  f19 := Try.func146.trans (congrArg some (by kernel_rfl))
  f20 := Try.func147.trans (congrArg some (by kernel_rfl))
  f30 := ⟨Try.f148.name, by decide, Try.func148.trans (congrArg some (by kernel_rfl))⟩
  f31 := Try.func149.trans (congrArg some (by kernel_rfl))
  f32 := Try.func150.trans (congrArg some (by kernel_rfl))
  f33 := ⟨Try.f151.name, by decide, Try.func151.trans (congrArg some (by kernel_rfl))⟩
  f34 := ⟨Try.f152.name, by decide, Try.func152.trans (congrArg some (by kernel_rfl))⟩
  f35 := ⟨Try.f137.name, by decide, Try.func137.trans (congrArg some (by kernel_rfl))⟩
  f40 := ⟨Try.f153.name, by decide, Try.func153.trans (congrArg some (by kernel_rfl))⟩
  t0 := Try.underlying0
  a0 := Try.isAgg0
  z0 := Try.sizeOf0
  v0 := Try.zeroValue0
  t3 := Try.underlying3
  a3 := Try.isAgg3
  z3 := Try.sizeOf3
  v3 := Try.zeroValue3
  t4 := Try.underlying4
  a4 := Try.isAgg4
  z4 := Try.sizeOf4
  v4 := Try.zeroValue4
  t5 := Try.underlying5
  a5 := Try.isAgg5
  z5 := Try.sizeOf5
  v5 := Try.zeroValue5
  t9 := Try.underlying9
  a9 := Try.isAgg9
  z9 := Try.sizeOf9
  v9 := Try.zeroValue9
  t22 := Try.underlying28
  a22 := Try.isAgg28
  z22 := Try.sizeOf28
  v22 := Try.zeroValue28
  t23 := Try.underlying28
  a23 := Try.isAgg28
  z23 := Try.sizeOf28
  v23 := Try.zeroValue28
  t25 := Try.underlying2
  a25 := Try.isAgg2
  z25 := Try.sizeOf2
  v25 := Try.zeroValue2
  t32 := Try.underlying115
  a32 := Try.isAgg115
  z32 := Try.sizeOf115
  v32 := Try.zeroValue115
  t35 := Try.underlying123
  a35 := Try.isAgg123
  z35 := Try.sizeOf123
  v35 := Try.zeroValue123
  t36 := Try.underlying124
  a36 := Try.isAgg124
  z36 := Try.sizeOf124
  v36 := Try.zeroValue124
  t41 := Try.underlying103
  a41 := Try.isAgg103
  z41 := Try.sizeOf103
  v41 := Try.zeroValue103
  t44 := Try.underlying130
  a44 := Try.isAgg130
  z44 := Try.sizeOf130
  v44 := Try.zeroValue130
  t46 := Try.underlying132
  a46 := Try.isAgg132
  z46 := Try.sizeOf132
  v46 := Try.zeroValue132
  t53 := Try.underlying133
  a53 := Try.isAgg133
  z53 := Try.sizeOf133
  v53 := Try.zeroValue133
  t57 := Try.underlying137
  a57 := Try.isAgg137
  z57 := Try.sizeOf137
  v57 := Try.zeroValue137
  t63 := Try.underlying139
  a63 := Try.isAgg139
  z63 := Try.sizeOf139
  v63 := Try.zeroValue139
  t64 := Try.underlying140
  a64 := Try.isAgg140
  z64 := Try.sizeOf140
  v64 := Try.zeroValue140 }
def layRev_ren : Go.Shelf.Ren := ⟨fun | 35 => 119 | n => n, fun | 22 => 28 | 23 => 2 | 3 => 3 | 4 => 4 | 0 => 0 | n => n, fun | n => n⟩
theorem layRev : Go.Proofs.SlLaysE.n35 Try.prog layRev_ren := {
  mixed := by kernel_rfl
  f35 := ⟨Try.f119.name, by decide, Try.func119.trans (congrArg some (by kernel_rfl))⟩
  t0 := Try.underlying0
  a0 := Try.isAgg0
  z0 := Try.sizeOf0
  v0 := Try.zeroValue0
  t3 := Try.underlying3
  a3 := Try.isAgg3
  z3 := Try.sizeOf3
  v3 := Try.zeroValue3
  t4 := Try.underlying4
  a4 := Try.isAgg4
  z4 := Try.sizeOf4
  v4 := Try.zeroValue4
  t22 := Try.underlying28
  a22 := Try.isAgg28
  z22 := Try.sizeOf28
  v22 := Try.zeroValue28
  a23 := Try.isAgg2
  z23 := Try.sizeOf2 }
def layEq_ren : Go.Shelf.Ren := ⟨fun | 33 => 86 | n => n, fun | 22 => 28 | 23 => 2 | 4 => 4 | 3 => 3 | 0 => 0 | n => n, fun | n => n⟩
theorem layEq : Go.Proofs.SlLaysE.n33 Try.prog layEq_ren := {
  mixed := by kernel_rfl
  f33 := ⟨Try.f86.name, by decide, Try.func86.trans (congrArg some (by kernel_rfl))⟩
  t0 := Try.underlying0
  a0 := Try.isAgg0
  z0 := Try.sizeOf0
  v0 := Try.zeroValue0
  t3 := Try.underlying3
  a3 := Try.isAgg3
  z3 := Try.sizeOf3
  v3 := Try.zeroValue3
  t4 := Try.underlying4
  a4 := Try.isAgg4
  z4 := Try.sizeOf4
  v4 := Try.zeroValue4
  t22 := Try.underlying28
  a22 := Try.isAgg28
  z22 := Try.sizeOf28
  v22 := Try.zeroValue28
  a23 := Try.isAgg2
  z23 := Try.sizeOf2 }
end Go.Proofs.Ytonanelghnjhpaa

/- Rows of the call's own that the library has written over. No condition. -/
namespace Go.Proofs.Ytonanelghnjhpaa
open Go.RowKit Go.Sort

theorem heap_put {α : Type} [Inhabited α] (enc : α → Value) (w : World) (k g : Nat) (d : Array α) (os : Array Obj) {cur : Array Value} {e : TypeId} {fr : Nat × Nat} (hb : w.heap[g]? = some (.cells cur e fr)) :
    (grow (putRow enc (Sort.ahead w k) g 0 d) os).heap[g]? = some (.cells (putCells enc 0 d cur) e fr) := by
  have hlt : g < w.heap.size := (Array.getElem?_eq_some_iff.1 hb).1
  rw [heap_grow_old _ _ (by simpa using hlt)]
  unfold putRow mapBlock
  simp [Array.getElem?_modify, hb, onCells]
theorem put_take {α : Type} [Inhabited α] (enc : α → Value) (ts : List α) (cur : Array Value) (n : Nat) (hn : n ≤ ts.length) (hc : ts.length ≤ cur.size) : (putCells enc 0 ts.toArray cur).toList.take n = (ts.take n).map enc := by
  apply List.ext_getElem
  · simp [putCells]; omega
  · intro i h1 h2
    simp [putCells] at h1 h2 ⊢
    rw [if_pos (by omega)]
    rw [List.getElem?_eq_getElem (by omega)]; rfl
theorem grown_put {α : Type} [Inhabited α] (enc : α → Value) (w : World) (k g : Nat) (d : Array α) (os : Array Obj) : w.grownBy (grow (putRow enc (Sort.ahead w k) g 0 d) os) (some g) := by
  refine ⟨rfl, rfl, rfl, by simp, fun i hi hne => ?_⟩
  rw [heap_grow_old _ _ (by simpa using hi)]
  unfold putRow mapBlock
  have : ¬ g = i := fun e => hne (by rw [e])
  simp [Array.getElem?_modify, this]
theorem own_put {α : Type} [Inhabited α] (enc : α → Value) {w : World} {base g cap n : Nat} {e : TypeId} {xs : List α} {ts : List α} (h : w.ownsRow base e 1 (.slice (some ⟨g, 0, none⟩) xs.length cap) xs.length (xs.map enc))
    (hl : ts.length = xs.length) (hn : n ≤ xs.length) (k : Nat) (os : Array Obj) :
    (grow (putRow enc (Sort.ahead w k) g 0 ts.toArray) os).ownsRow base e 1 (.slice (some ⟨g, 0, none⟩) n cap) n ((ts.take n).map enc) := by
  refine ⟨by simp; omega, .inr ?_⟩
  rcases h.2 with ⟨e1, _⟩ | ⟨g', cap', cur, e1, hb, hg, h1, h2, h3, h4⟩
  · cases e1
  · injection e1 with e1 e2 e3
    injection e1 with e1
    injection e1 with e1
    subst e1; subst e3
    refine ⟨g, cap, _, rfl, hb, heap_put enc w k g _ os hg, by omega, h2, by simp [putCells]; omega, ?_⟩
    rw [Nat.mul_one]
    exact put_take enc ts cur n (by omega) (by omega)
theorem holds_own {α : Type} [Inhabited α] (enc : α → Value) {w : World} {base g cap : Nat} {e : TypeId} {xs : List α} (h : w.ownsRow base e 1 (.slice (some ⟨g, 0, none⟩) xs.length cap) xs.length (xs.map enc)) :
    Holds enc w g 0 xs.toArray := by
  intro j hj
  simp at hj
  rw [Nat.zero_add]
  refine ⟨?_, h.frozenAt j⟩
  rw [h.cellAt j (by omega), List.getElem?_map, List.getElem?_eq_getElem hj, getElem!_pos _ j (by simpa using hj)]
  simp

/-- slices.Sort at a row of the call's own. -/
theorem sortT (base : Nat) (A : Option Addr) (n c : Nat) (xs : List Int) (w : World) (h : Slc w base A n c xs) (h1 : 1 ≤ n) (hn : n ≤ 2097152) :
    Calls Try.prog 118 #[.slice A n c] w fun e w' => e = .returned (.tuple #[]) ∧ Slc w' base A n c (xs.mergeSort fun x y => decide (x ≤ y)) ∧ w.grownBy w' (Value.slice A n c).ownBlock := by
  obtain ⟨hl, ho⟩ := h
  subst hl
  rcases Slc.at_ ⟨rfl, ho⟩ with ⟨_, _, e0, _⟩ | ⟨g, rfl, hb, hg⟩
  · omega
  have hho : w.ownsRow base 2 1 (.slice (some ⟨g, 0, none⟩) xs.length c) xs.length (xs.map (Value.int .i64)) := ho
  refine (AnyM.slices_Sort_int laySort g 0 c xs w (holds_own _ hho) hg (by omega)).mono ?_
  rintro e w' ⟨rfl, k, os, rfl⟩
  have hlen : (xs.mergeSort fun x y => decide (x ≤ y)).length = xs.length := List.length_mergeSort _
  refine ⟨rfl, ⟨hlen, ?_⟩, grown_put _ _ _ _ _ _⟩
  have := own_put (Value.int .i64) hho hlen (Nat.le_refl _) k os
  rw [List.take_of_length_le (by omega)] at this
  unfold Own
  rw [hlen]
  exact this
/-- slices.Reverse at a row of the call's own. -/
theorem revT (base : Nat) (A : Option Addr) (n c : Nat) (xs : List Int) (w : World) (h : Slc w base A n c xs) (h1 : 1 ≤ n) (hn : n ≤ 2097152) :
    Calls Try.prog 119 #[.slice A n c] w fun e w' => e = .returned (.tuple #[]) ∧ Slc w' base A n c xs.reverse ∧ w.grownBy w' (Value.slice A n c).ownBlock := by
  obtain ⟨hl, ho⟩ := h
  subst hl
  rcases Slc.at_ ⟨rfl, ho⟩ with ⟨_, _, e0, _⟩ | ⟨g, rfl, hb, hg⟩
  · omega
  have hho : w.ownsRow base 2 1 (.slice (some ⟨g, 0, none⟩) xs.length c) xs.length (xs.map (Value.int .i64)) := ho
  refine (AnyE.slices_Reverse layRev (Value.int .i64) (fun _ => rfl) g 0 c xs w (holds_own _ hho) (by omega)).mono ?_
  rintro e w' ⟨rfl, k, rfl⟩
  have hlen : xs.reverse.length = xs.length := List.length_reverse
  have e0 : ∀ v : World, grow v #[] = v := fun v => by simp
  refine ⟨rfl, ⟨hlen, ?_⟩, by rw [← e0 (putRow _ _ _ _ _)]; exact grown_put _ _ _ _ _ _⟩
  have := own_put (Value.int .i64) hho hlen (Nat.le_refl _) k #[]
  rw [List.take_of_length_le (by omega), e0] at this
  unfold Own
  rw [hlen]
  exact this
theorem allEq_eq : ∀ xs ys : List Int, Lib.allEq (fun x y => x == y) xs ys = decide (xs = ys)
  | [], [] => rfl
  | [], y :: ys => by simp [Lib.allEq]
  | x :: xs, [] => by simp [Lib.allEq]
  | x :: xs, y :: ys => by
    rw [Lib.allEq, allEq_eq xs ys]
    by_cases h : x = y
    · subst h; simp
    · simp [h]
/-- slices.Equal. -/
theorem equalT (b1 b2 : Nat) (A B : Option Addr) (n c m d : Nat) (xs ys : List Int) (w : World) (hx : Slc w b1 A n c xs) (hy : Slc w b2 B m d ys) (h1 : 1 ≤ n) (h2 : 1 ≤ m) (hn : n ≤ 2097152) (hm : m ≤ 2097152) :
    Calls Try.prog 86 #[.slice A n c, .slice B m d] w fun e w' => e = .returned (.bool (decide (xs = ys))) ∧ Below w.heap.size w w' := by
  obtain ⟨lx, ox⟩ := hx
  obtain ⟨ly, oy⟩ := hy
  subst lx; subst ly
  rcases Slc.at_ ⟨rfl, ox⟩ with ⟨_, _, e0, _⟩ | ⟨g, rfl, hb, hg⟩
  · omega
  rcases Slc.at_ ⟨rfl, oy⟩ with ⟨_, _, e0, _⟩ | ⟨g2, rfl, hb2, hg2⟩
  · omega
  have c1 := holds_own (Value.int .i64) (show w.ownsRow b1 2 1 (.slice (some ⟨g, 0, none⟩) xs.length c) xs.length (xs.map (Value.int .i64)) from ox)
  have c2 := holds_own (Value.int .i64) (show w.ownsRow b2 2 1 (.slice (some ⟨g2, 0, none⟩) ys.length d) ys.length (ys.map (Value.int .i64)) from oy)
  refine (AnyE.slices_Equal layEq (Value.int .i64) (fun x y => x == y) (NeqAt.int _ _ _) g 0 xs.length c g2 0 ys.length d xs ys w (Nat.le_refl _) (Nat.le_refl _) (by omega) (by omega) (fun j hj => (c1 j (by simpa using hj)).1.trans (by simp)) (fun j hj => (c2 j (by simpa using hj)).1.trans (by simp))).mono ?_
  rintro e w' ⟨rfl, q, rfl⟩
  refine ⟨ret_bool ?_, below_quiet _ _⟩
  rw [List.take_of_length_le (Nat.le_refl _), List.take_of_length_le (Nat.le_refl _)]
  exact allEq_eq xs ys
end Go.Proofs.Ytonanelghnjhpaa

/- The program's values: the entries that a link allows behind a member, in ascending order; slices.BinarySearch. Conditions: at most 20 points; the chain whole. -/
namespace Go.Proofs.Ytonanelghnjhpaa
open Go.RowKit

set_option maxHeartbeats 4000000 in
set_option maxRecDepth 100000 in
/-- values, at link j. -/
theorem implValues (base N k j cp : Nat) (M : Nat → Prop) (c : Ch) (L : Nat → LK) (gs : List (List Int)) (A : Option Addr) (m : List Int) (w : World) (hc : Ck w base N k M c L) (ho : Orbs N k c L) (hw : Hid (Whole N gs c)) (hkj : k ≤ j) (hjN : j < N) (h1 : 1 ≤ N) (h2 : N ≤ 20) (hg : Hid (∀ g ∈ gs, Pn N g))
    (hm : RI w w.heap.size A m) (hmb : Hid (Mb gs N m)) :
    Calls Try.prog 101 #[.pointer (some ⟨(L j).B, 0, none⟩), .slice A N cp] w fun e w' => ∃ (g n' c' : Nat) (zs : List Int), e = .returned (.slice (some ⟨g, 0, none⟩) n' c') ∧ Slc w' w.heap.size (some ⟨g, 0, none⟩) n' c' zs ∧ 1 ≤ n' ∧ n' ≤ 20 ∧ ChL N gs m j zs ∧ Below w.heap.size w w' := by
  have HC := Lib.hid hc
  have HM := Lib.hid hm
  have hOr := ho j hkj hjN
  have hR := hw.out.up.rep j (Nat.zero_le _) hjN
  have MP := Lib.hid (hmb.out.pn hg.out h1 h2)
  have Fin := Lib.hid (val_chL hOr hw.out h1 h2 hg.out hjN hmb.out)
  obtain ⟨on, hon⟩ : ∃ on, (L j).orb.length = on := ⟨_, rfl⟩
  have hjO : j ∈ (L j).orb := (hOr.2 j).2 (by rw [hR.one]; intro e; have := idL_length N; rw [e] at this; simp at this; omega)
  have h0n : 1 ≤ on := by rw [← hon]; exact List.length_pos_of_mem hjO
  have hon20 : on ≤ 20 := by have := hOr.len hR; omega
  obtain ⟨ob, oc, hoe, _⟩ := hc.cO hkj hjN (j := 0) (by omega)
  have x2 := (hc.cB hkj hjN).2.2.1
  rw [hoe, hon] at x2
  simp only [sval] at x2
  have Hon := Lib.hid hon
  have Hoe := Lib.hid hoe
  have Hor := Lib.hid hOr
  have HR := Lib.hid hR
  obtain ⟨b, off, rfl, hb, hcell⟩ := hm (by rw [MP.out.2]; omega)
  have Hb := Lib.hid hb
  have Hcell : Hid (∀ y, y < N → w.cell? ⟨b, off + y, none⟩ = some (.int .i64 ((nx m y : Nat) : Int))) := Lib.hid fun y hy => by
    rw [hcell y (by rw [MP.out.2]; exact hy), nx_val MP.out.1 (by rw [MP.out.2]; exact hy)]
  clear hc hm ho hOr hR hon hjO hoe hb hcell
  go_enter Try.func101, Try.ntmps101
  go_wp2_with fail
  go_loopw [5, 7, 13] (fun v _ i wr => ∃ (t cc : Nat) (A' : Option Addr), t ≤ on ∧ i = .int .i64 (t : Nat) ∧ v = .slice A' t cc ∧ Slc wr w.heap.size A' t cc (vlL m ((L j).orb.take t)) ∧ Below w.heap.size w wr) (fun _ _ i _ => on - (intOf i).toNat)
  case atStart => exact ⟨0, 0, none, Nat.zero_le _, rfl, rfl, Slc.nil_, Below.refl _ _⟩
  case round =>
    obtain ⟨t, cc, A', ht, rfl, rfl, hs, bel⟩ := hrel
    have Ss := Lib.hid hs
    have Be := Lib.hid bel
    have Cj := Lib.hid (HC.out.up bel)
    have hzr := bel.size
    clear hs bel
    by_cases hlt : t < on
    · obtain ⟨ob', oc', hoe', x6⟩ := Cj.out.cO hkj hjN (j := t) (by rw [Hon.out]; exact hlt)
      obtain ⟨rfl, rfl⟩ : ob = ob' ∧ oc = oc' := by
        rw [Hoe.out] at hoe'
        injection hoe' with h1 h2
        injection h1 with h1
        injection h1 with h1
        injection h2 with _ h2
        exact ⟨h1, h2⟩
      obtain ⟨y, ey⟩ : ∃ y, (L j).orb.getD t 0 = y := ⟨_, rfl⟩
      rw [ey] at x6
      have hyO : y ∈ (L j).orb := by rw [← ey, List.getD_eq_getElem?_getD, List.getElem?_eq_getElem (by rw [Hon.out]; exact hlt)]; exact List.getElem_mem _
      have hy : y < N := Hor.out.lt HR.out hyO
      have x7 := (Be.out.cell (p := ⟨b, off + y, none⟩) Hb.out).trans (Hcell.out y hy)
      obtain ⟨u, eu⟩ : ∃ u, nx m y = u := ⟨_, rfl⟩
      rw [eu] at x7
      have Nt : Hid (vlL m ((L j).orb.take (t + 1)) = vlL m ((L j).orb.take t) ++ [(u : Int)]) := Lib.hid (by rw [vlL_take (by rw [Hon.out]; exact hlt), ey, eu])
      have q0 : (0 : Int) ≤ t := by omega
      have q1 : (t : Int) < on := by omega
      have q2 : (0 : Int) ≤ y := by omega
      have q3 : (y : Int) < N := by omega
      clear hoe' ey hyO eu
      go_wp2_with (first | (at_builtin; refine wpList_app1 rfl _ _ rfl w.heap.size A' t cc _ rfl (Ss.out.alloc _) wr.heap.size (u : Int) rfl (by rw [World.cell?_alloc_at _ _ _ _ rfl]; rfl) (by omega) (by simp; omega) ?_; intro A3 c3 w3 s3 g3))
      have S3 : Hid (Slc w3 w.heap.size A3 (t + 1) c3 (vlL m ((L j).orb.take (t + 1)))) := Lib.hid (by rw [Nt.out]; exact s3)
      have B3 : Hid (Below w.heap.size w w3) := Lib.hid ((Be.out.alloc hzr _).grown g3 (by simp; omega) (fun j hj => (Ss.out.lt_ j hj).1))
      clear s3 g3
      go_wp2_with fail
      go_roundw
      case rel => exact ⟨t + 1, c3, A3, by omega, by go_num, rfl, S3.out, B3.out⟩
      case measure => simp [intOf]; omega
    · obtain rfl : t = on := by omega
      have Ta : Hid (vlL m ((L j).orb.take t) = vlL m (L j).orb) := Lib.hid (by rw [List.take_of_length_le (by rw [Hon.out]; exact Nat.le_refl _)])
      go_wp2_with fail
      refine (sortT w.heap.size A' t cc _ wr Ss.out h0n (by omega)).mono ?_
      rintro e w4 ⟨rfl, s4, g4⟩
      have S4 : Hid (Slc w4 w.heap.size A' t cc ((vlL m (L j).orb).mergeSort fun x y => decide (x ≤ y))) := Lib.hid (by rw [← Ta.out]; exact s4)
      have B4 : Hid (Below w.heap.size w w4) := Lib.hid (Be.out.grown g4 Be.out.size (fun j hj => (Ss.out.lt_ j hj).1))
      clear s4 g4
      go_wp2_with fail
      go_ret
      rcases S4.out.at_ with ⟨_, _, e0, _⟩ | ⟨g, rfl, _, _⟩
      · omega
      · exact ⟨g, _, _, _, rfl, S4.out, h0n, hon20, Fin.out, B4.out⟩

theorem isNaNs (x : Int) (w : World) : Calls Try.prog 128 #[.int .i64 x] w fun e w' => e = .returned (.bool false) ∧ w = w' := by
  have d : (x != x) = false := by simp
  go_enter Try.func128, Try.ntmps128
  go_wp2
  go_ret
  exact ⟨rfl, rfl⟩
theorem isNaNc (x : Int) (w : World) : Calls Try.prog 137 #[.int .i64 x] w fun e w' => e = .returned (.bool false) ∧ w = w' := by
  have d : (x != x) = false := by simp
  go_enter Try.func137, Try.ntmps137
  go_wp2
  go_ret
  exact ⟨rfl, rfl⟩
set_option maxHeartbeats 400000 in
theorem lessC (x y : Int) (w : World) (ans : Bool) (ha : Hid (decide (x < y) = ans)) : Calls Try.prog 127 #[.int .i64 x, .int .i64 y] w fun e w' => e = .returned (.bool ans) ∧ w = w' := by
  go_enter Try.func127, Try.ntmps127
  go_wp2_with (first | (go_at_call 137; refine (isNaNc _ _).mono ?_; rintro e w' ⟨rfl, rfl⟩))
  go_ret
  exact ⟨ret_bool ha.out, rfl⟩
theorem bin_end {zs : List Int} {v : Int} {K : Nat} (hs : zs.Pairwise (· < ·)) (h1 : ∀ t, t < K → zs.getD t 0 < v) : v ∈ zs ↔ K < zs.length ∧ zs.getD K 0 = v ∨ (∃ t, K < t ∧ t < zs.length ∧ zs.getD t 0 = v) := by
  rw [List.mem_iff_getElem]
  constructor
  · rintro ⟨t, ht, e⟩
    have e : zs.getD t 0 = v := by rw [gdx' ht]; exact e
    rcases Nat.lt_trichotomy t K with h | h | h
    · have := h1 t h; omega
    · subst h; exact .inl ⟨ht, e⟩
    · exact .inr ⟨t, h, ht, e⟩
  · rintro (⟨ht, e⟩ | ⟨t, _, ht, e⟩)
    · exact ⟨K, ht, by rw [gdx' ht] at e; exact e⟩
    · exact ⟨t, ht, by rw [gdx' ht] at e; exact e⟩
set_option maxHeartbeats 2000000 in
set_option maxRecDepth 100000 in
/-- slices.BinarySearch in ascending numbers. -/
theorem implBin (A : Option Addr) (n c : Nat) (zs : List Int) (v : Int) (w : World) (hx : RI w w.heap.size A zs) (lz : Hid (zs.length = n)) (hs : Hid (zs.Pairwise (· < ·))) (hn : n ≤ 1048576) :
    Calls Try.prog 111 #[.slice A n c, .int .i64 v] w fun e w' => ∃ (K : Nat) (b : Bool), e = .returned (.tuple #[.int .i64 (K : Nat), .bool b]) ∧ K ≤ n ∧ (∀ j, j < K → zs.getD j 0 < v) ∧ (K < n → v ≤ zs.getD K 0) ∧ (b = true ↔ v ∈ zs) ∧ Below w.heap.size w w' := by
  have HX := Lib.hid hx
  have So : Hid (∀ a b, a < b → b < n → zs.getD a 0 < zs.getD b 0) := Lib.hid fun a b hab hb => by
    have := List.pairwise_iff_getElem.1 hs.out a b (by rw [lz.out]; omega) (by rw [lz.out]; exact hb) hab
    rw [gdx' (by rw [lz.out]; omega), gdx' (by rw [lz.out]; exact hb)]; exact this
  clear hx
  go_enter Try.func111, Try.ntmps111
  go_wp2_with fail
  go_loopg [7, 8] n (fun g s7 s8 wr => ∃ lo hi q : Nat, s7 = .int .i64 (lo : Nat) ∧ s8 = .int .i64 (hi : Nat) ∧ lo ≤ hi ∧ hi ≤ n ∧ hi - lo ≤ g ∧ wr = w.drewN q ∧ (∀ t, t < lo → zs.getD t 0 < v) ∧ (∀ t, hi ≤ t → t < n → v ≤ zs.getD t 0))
  case atStart => exact ⟨0, n, 0, rfl, rfl, Nat.zero_le _, Nat.le_refl _, by omega, rfl, fun t ht => absurd ht (Nat.not_lt_zero _), fun t h1 h2 => by omega⟩
  case round =>
    obtain ⟨lo, hi, q, rfl, rfl, hlh, hin, hg, rfl, h1, h2⟩ := hrel
    have H1 := Lib.hid h1
    have H2 := Lib.hid h2
    clear h1 h2
    by_cases hlt : lo < hi
    · obtain ⟨md, hmd⟩ : ∃ md, (lo + hi) / 2 = md := ⟨_, rfl⟩
      have hm1 : lo ≤ md := by omega
      have hm2 : md < hi := by omega
      obtain ⟨b, off, rfl, hb, hc⟩ := HX.out (by rw [lz.out]; omega)
      have cm : w.cell? ⟨b, off + (lo + hi) / 2, none⟩ = some (.int .i64 (zs.getD ((lo + hi) / 2) 0)) := hc _ (by rw [lz.out]; omega)
      obtain ⟨y, hy⟩ : ∃ y, zs.getD ((lo + hi) / 2) 0 = y := ⟨_, rfl⟩
      rw [hy] at cm
      have Y : Hid (zs.getD md 0 = y) := Lib.hid (by rw [← hmd]; exact hy)
      have Md := Lib.hid hmd
      clear hb hc hy hmd
      by_cases hyx : y < v
      · have La : Hid (decide (y < v) = true) := Lib.hid (decide_eq_true hyx)
        have Hy := Lib.hid hyx
        clear hyx
        go_wp2_with (first | (go_at_call 127; refine (lessC _ _ _ true La).mono ?_; rintro e w' ⟨rfl, rfl⟩))
        go_roundg (hi - (md + 1))
        case measure => have := Md.out; omega
        case rel =>
          refine ⟨md + 1, hi, _, by rw [← Md.out, show ((lo : Int) + (hi : Int)) / 2 + 1 = (((lo + hi) / 2 + 1 : Nat) : Int) by omega], rfl, by omega, hin, Nat.le_refl _, rfl, fun t ht => ?_, H2.out⟩
          have hy1 := Y.out
          have hy2 := Hy.out
          by_cases e : t = md
          · subst e; omega
          · have := So.out t md (by omega) (by omega)
            omega
      · have La : Hid (decide (y < v) = false) := Lib.hid (decide_eq_false hyx)
        have Hy := Lib.hid hyx
        clear hyx
        go_wp2_with (first | (go_at_call 127; refine (lessC _ _ _ false La).mono ?_; rintro e w' ⟨rfl, rfl⟩))
        go_roundg (md - lo)
        case measure => have := Md.out; omega
        case rel =>
          refine ⟨lo, md, _, rfl, by rw [← Md.out, show ((lo : Int) + (hi : Int)) / 2 = (((lo + hi) / 2 : Nat) : Int) by omega], by omega, by omega, Nat.le_refl _, rfl, H1.out, fun t ht htn => ?_⟩
          have hy1 := Y.out
          have hy2 := Hy.out
          by_cases e : t = md
          · subst e; omega
          · have := So.out md t (by omega) htn
            omega
    · obtain rfl : hi = lo := by omega
      have Be : Hid (v ∈ zs ↔ hi < zs.length ∧ zs.getD hi 0 = v ∨ (∃ t, hi < t ∧ t < zs.length ∧ zs.getD t 0 = v)) := Lib.hid (bin_end hs.out H1.out)
      by_cases hn' : hi < n
      · obtain ⟨b, off, rfl, hb, hc⟩ := HX.out (by rw [lz.out]; omega)
        have cl : w.cell? ⟨b, off + hi, none⟩ = some (.int .i64 (zs.getD hi 0)) := hc _ (by rw [lz.out]; omega)
        obtain ⟨y, hy⟩ : ∃ y, zs.getD hi 0 = y := ⟨_, rfl⟩
        rw [hy] at cl
        have Y := Lib.hid hy
        clear hb hc hy
        by_cases hyx : y = v
        · have Fin : Hid (v ∈ zs) := Lib.hid (Be.out.2 (.inl ⟨by rw [lz.out]; exact hn', by rw [Y.out]; exact hyx⟩))
          go_wp2_with (first | (go_at_call 128; refine (isNaNs _ _).mono ?_; rintro e w' ⟨rfl, rfl⟩))
          go_ret2
          exact ⟨hi, true, by first | rfl | simp [*], hin, H1.out, fun h => H2.out hi (Nat.le_refl _) h, ⟨fun _ => Fin.out, fun _ => rfl⟩, pcDrewBelow _ _⟩
        · have Fin : Hid (v ∉ zs) := Lib.hid fun h => by
            rcases Be.out.1 h with ⟨_, e⟩ | ⟨t, h3, h4, e⟩
            · rw [Y.out] at e; exact hyx e
            · have := So.out hi t h3 (by rw [← lz.out]; exact h4)
              have := H2.out hi (Nat.le_refl _) hn'
              omega
          go_wp2_with (first | (go_at_call 128; refine (isNaNs _ _).mono ?_; rintro e w' ⟨rfl, rfl⟩))
          go_ret2
          exact ⟨hi, false, by first | rfl | simp [*], hin, H1.out, fun h => H2.out hi (Nat.le_refl _) h, ⟨fun h => (by cases h), fun h => absurd h Fin.out⟩, pcDrewBelow _ _⟩
      · have Fin : Hid (v ∉ zs) := Lib.hid fun h => by
          rcases Be.out.1 h with ⟨h3, _⟩ | ⟨t, h3, h4, e⟩
          · rw [lz.out] at h3; exact hn' h3
          · rw [lz.out] at h4; omega
        go_wp2_with fail
        go_ret2
        exact ⟨hi, false, by first | rfl | simp [*], hin, H1.out, fun h => H2.out hi (Nat.le_refl _) h, ⟨fun h => (by cases h), fun h => absurd h Fin.out⟩, pcDrewBelow _ _⟩
end Go.Proofs.Ytonanelghnjhpaa

/- The program's memberOf: a member chosen entry by entry, by a function that may keep a state of its own. Conditions: at most 20 points; the chain whole. -/
namespace Go.Proofs.Ytonanelghnjhpaa
open Go.RowKit

/-- What is asked of the function that picks: F with its captured cell cp; it writes into the blocks S alone; Inv tells what holds ahead of entry i, behind the choices that m tells. -/
structure PickOK (base N : Nat) (gs : List (List Int)) (F : Nat) (cp : Value) (M : Nat → Prop) (ch : Ch) (L : Nat → LK) (S : Nat → Prop) (Inv : Nat → List Int → World → Prop) : Prop where
  ent : ∀ (args : Array Value) (w : World), (callFunc F args).run Try.prog w = .ok (.enter F args) w
  ck : ∀ i m w, Inv i m w → Ck w base N 0 M ch L
  up : ∀ i m w w', Inv i m w → Below w.heap.size w w' → Inv i m w'
  pick : ∀ (i : Nat) (m zs : List Int) (A : Option Addr) (n c : Nat) (w : World), i < N → Inv i m w → Mb gs N m → ChL N gs m i zs → Rd w S (A, n, c) zs → 1 ≤ n → n ≤ 20 →
    Calls Try.prog F #[.pointer (some ⟨(L i).B, 0, none⟩), .slice A n c, cp] w fun e w' => ∃ v : Nat, e = .returned (.int .i64 (v : Nat)) ∧ (v : Int) ∈ zs ∧ Chg w w' S ∧ ∀ m', Mb gs N m' → Ag i m' m → nx m' i = v → Inv (i + 1) m' w'

/-- The member so far: at first the chain's own identity, then one in a new row. -/
def Cur (w : World) (lo N : Nat) (L : Nat → LK) (j : Nat) (A : Option Addr) (c : Nat) (m : List Int) : Prop := (j = 0 ∧ m = idL N ∧ (L 0).en.getD 0 sd0 = (A, N, c)) ∨ Slc w lo A N c m
section
variable {w w' : World} {base lo N j c : Nat} {L : Nat → LK} {M S : Nat → Prop} {ch : Ch} {A : Option Addr} {m : List Int} {gs : List (List Int)}
theorem rep00 (hw : Whole N gs ch) (h1 : 1 ≤ N) : ch.rep 0 0 = idL N := (hw.up.rep 0 (Nat.le_refl _) (by omega)).one
theorem idL_ne (h1 : 1 ≤ N) : idL N ≠ [] := fun e => by have := idL_length N; rw [e] at this; simp at this; omega
theorem Cur.ri (h : Cur w lo N L j A c m) (hc : Ck w base N 0 M ch L) (hw : Whole N gs ch) (h1 : 1 ≤ N) : RI w w.heap.size A m := by
  rcases h with ⟨_, rfl, e⟩ | h
  · have := (hc.eM (Nat.le_refl _) (by omega) (y := 0) (by omega)).2 (by rw [rep00 hw h1]; exact idL_ne h1)
    rw [e, rep00 hw h1] at this
    exact this.ri
  · exact h.ri_
theorem Cur.chg (h : Cur w lo N L j A c m) (hc : Chg w w' S) (hS : ∀ b, S b → b < lo) : Cur w' lo N L j A c m := by
  rcases h with h | h
  · exact .inl h
  · exact .inr (h.chgS hc fun b e hb => by have := (h.lt_ b e).1; have := hS b hb; omega)
/-- The mover of the base to itself. -/
theorem Ck.mover0 (hc : Ck w base N 0 M ch L) (hw : Whole N gs ch) (h1 : 1 ≤ N) : ∃ b off cc, (L 0).en.getD 0 sd0 = (some ⟨b, off, none⟩, N, cc) ∧ w.cell? ⟨(L 0).mb, 0, none⟩ = some (.slice (some ⟨b, off, none⟩) N cc) ∧ N ≤ cc ∧ RI w w.heap.size (some ⟨b, off, none⟩) (idL N) := by
  have x5 := hc.cM (Nat.le_refl _) (show 0 < N by omega) (y := 0) (by omega)
  have hrd := (hc.eM (Nat.le_refl _) (show 0 < N by omega) (y := 0) (by omega)).2 (by rw [rep00 hw h1]; exact idL_ne h1)
  rw [rep00 hw h1] at hrd
  rcases hd : (L 0).en.getD 0 sd0 with ⟨dA, dn, dc⟩
  rw [hd] at x5 hrd
  obtain ⟨b, off, e⟩ := rd_not0 hrd (idL_ne h1)
  have e : dA = some ⟨b, off, none⟩ := e
  subst e
  obtain rfl : dn = N := by have h3 : (idL N).length = dn := hrd.len; rw [idL_length] at h3; omega
  exact ⟨b, off, dc, rfl, x5, hrd.cap, hrd.ri⟩
end

set_option maxHeartbeats 4000000 in
set_option maxRecDepth 100000 in
theorem implMemberOf (base N F : Nat) (po : Option Addr) (gs : List (List Int)) (M : Nat → Prop) (ch : Ch) (L : Nat → LK) (S : Nat → Prop) (Inv : Nat → List Int → World → Prop) (w : World) (hp : Hid (PickOK base N gs F (.pointer po) M ch L S Inv)) (ho : Orbs N 0 ch L) (hw : Hid (Whole N gs ch)) (h1 : 1 ≤ N) (h2 : N ≤ 20) (hg : Hid (∀ g ∈ gs, Pn N g))
    (hI : Inv 0 (idL N) w) (hS : Hid (∀ b, S b → b < w.heap.size)) :
    Calls Try.prog 80 #[.pointer (some ⟨(L 0).B, 0, none⟩), .func (.func F) #[] #[.pointer po]] w fun e w' => ∃ (A : Option Addr) (c : Nat) (m : List Int), e = .returned (.slice A N c) ∧ Slc w' w.heap.size A N c m ∧ Mb gs N m ∧ Inv N m w' ∧ Chg w w' S := by
  have hent := hp.out.ent
  have HI := Lib.hid hI
  have HO := Lib.hid ho
  have hc := hp.out.ck 0 _ w hI
  obtain ⟨b, off, cc, en, x5, hcc, hri⟩ := hc.mover0 hw.out h1
  obtain ⟨x0, x1, x2, x3, x4⟩ := hc.cB (Nat.le_refl _) (show 0 < N by omega)
  have ep : ptr N L 0 = .pointer (some ⟨(L 0).B, 0, none⟩) := if_pos (by omega)
  have Ep := Lib.hid ep
  have En := Lib.hid en
  clear hI ho hc x1 x2 x4 en ep hri
  go_enter Try.func80, Try.ntmps80
  have p0 : (0 : Int) ≤ (0 : Nat) := by omega
  have p1 : ((0 : Nat) : Int) < N := by omega
  go_wp2_with fail
  go_quiet (fail)
  have B0 : Hid (Below w.heap.size w (w.drewN nq)) := Lib.hid (pcDrewBelow w nq)
  have I0 := Lib.hid (hp.out.up 0 _ w _ HI.out B0.out)
  go_wp2_with fail
  go_loopg [5, 6] N (fun gg mv l wr => ∃ (j c1 : Nat) (A1 : Option Addr) (m1 : List Int), j ≤ N ∧ N - j ≤ gg ∧ l = ptr N L j ∧ mv = .slice A1 N c1 ∧ Cur wr w.heap.size N L j A1 c1 m1 ∧ Mb gs N m1 ∧ Inv j m1 wr ∧ Chg w wr S)
  case atStart => exact ⟨0, cc, _, idL N, Nat.zero_le _, by omega, Ep.out.symm, rfl, .inl ⟨rfl, rfl, En.out⟩, .one, I0.out, .of_below B0.out⟩
  case round =>
    clear x0 x3 x5 p0 p1 I0 B0
    obtain ⟨j, c1, A1, m1, hjN, hgg, rfl, rfl, hcu, hmb, hin, hch⟩ := hrel
    have Cu := Lib.hid hcu
    have Mb1 := Lib.hid hmb
    have In := Lib.hid hin
    have Cg := Lib.hid hch
    have C1 := Lib.hid (hp.out.ck j _ wr hin)
    have hzr := hch.size
    clear hcu hmb hin hch
    by_cases hlt : j < N
    · rw [ptr_at hlt]
      go_wp2_with fail
      refine (implValues base N 0 j c1 M ch L gs A1 m1 wr C1.out HO.out hw (Nat.zero_le _) hlt h1 h2 hg (Cu.out.ri C1.out hw.out h1) Mb1).mono ?_
      rintro e w2 ⟨g, n', c', zs, rfl, s2, hn1, hn20, chl, b2⟩
      have S2 := Lib.hid s2
      have Chl := Lib.hid chl
      have I2 := Lib.hid (hp.out.up j _ wr w2 In.out b2)
      have Cu2 : Hid (Cur w2 w.heap.size N L j A1 c1 m1) := Lib.hid (Cu.out.chg (S := fun _ => False) (.of_below b2) fun _ e => e.elim)
      have Cg2 : Hid (Chg w w2 S) := Lib.hid (Cg.out.trans (.of_below (M := S) b2) fun _ e => .inl e)
      have K := hp.out.pick j m1 zs (some ⟨g, 0, none⟩) n' c' w2 hlt I2.out Mb1.out chl (Rd.of_slc (d := (some ⟨g, 0, none⟩, n', c')) s2 fun b hb => Nat.lt_of_lt_of_le (hS.out b hb) hzr) hn1 hn20
      clear s2 chl b2
      go_wp2_with fail
      refine K.mono ?_
      rintro e w3 ⟨v, rfl, hv, hc3, hnx⟩
      have Hv := Lib.hid hv
      have Nx := Lib.hid hnx
      have Cg3 : Hid (Chg w w3 S) := Lib.hid (Cg2.out.trans hc3 fun _ e => .inl e)
      have Cu3 : Hid (Cur w3 w.heap.size N L j A1 c1 m1) := Lib.hid (Cu2.out.chg hc3 hS.out)
      obtain ⟨y0, hy0, hyv, hry⟩ := hw.out.pick h1 h2 hg.out hlt Mb1.out Chl.out hv
      have Pk := Lib.hid (hw.out.picked h1 h2 hg.out hlt Mb1.out hry)
      have Yv : Hid (nx m1 y0 = v) := Lib.hid (by omega)
      have I3 := Lib.hid (hnx _ Pk.out.1 Pk.out.2.1 (by rw [Pk.out.2.2]; exact Yv.out))
      have C3 := Lib.hid (hp.out.ck _ _ w3 I3.out)
      have Y0 : Hid (y0 < N ∧ ch.rep j y0 ≠ []) := Lib.hid ⟨hy0, hry⟩
      clear K hv hc3 hnx hy0 hyv hry
      go_wp2_with fail
      refine (implWith base N 0 j c1 M ch L A1 m1 (v : Nat) w3 C3.out (Nat.zero_le _) hlt (Lib.hid (hw.out.up.rep j (Nat.zero_le _) hlt)) (Cu3.out.ri C3.out hw.out h1) (Lib.hid (Mb1.out.pn hg.out h1 h2))).mono ?_
      rintro e w4 ⟨A4, n4, c4, rfl, (⟨rfl, rfl, rfl, hno⟩ | ⟨g4, y, rfl, rfl, hy, hyv, hyr, hs⟩), b4⟩
      · exact absurd (hno y0 Y0.out.1 (by rw [Yv.out])) Y0.out.2
      · obtain rfl : y = y0 := (Mb1.out.pn hg.out h1 h2).inj hy Y0.out.1 (by have := Yv.out; omega)
        have I4 := Lib.hid (hp.out.up _ _ w3 w4 I3.out b4)
        have C4 := Lib.hid (hp.out.ck _ _ w4 I4.out)
        have S4 : Hid (Slc w4 w.heap.size (some ⟨g4, 0, none⟩) n4 c4 (compL (ch.rep j y) m1)) := Lib.hid (hs.mono Cg3.out.size)
        have Cg4 : Hid (Chg w w4 S) := Lib.hid (Cg3.out.trans (.of_below (M := S) b4) fun _ e => .inl e)
        have z4 := (C4.out.cB (Nat.zero_le _) hlt).2.2.2.2
        clear hs b4 hyv hyr
        go_wp2_with fail
        go_roundg (n4 - (j + 1))
        case rel => exact ⟨j + 1, c4, _, _, by omega, by omega, rfl, rfl, .inr S4.out, Pk.out.1, I4.out, Cg4.out⟩
        case measure => omega
    · obtain rfl : j = N := by omega
      rw [ptr_end (Nat.le_refl _)]
      have Fin : Hid (Slc wr w.heap.size A1 j c1 m1) := Lib.hid (by
        rcases Cu.out with ⟨e, _⟩ | h
        · omega
        · exact h)
      go_wp2_with fail
      go_ret
      exact ⟨_, _, _, rfl, Fin.out, Mb1.out, In.out, Cg.out⟩
end Go.Proofs.Ytonanelghnjhpaa

/- The program's withRank, MemberAt, FirstNonIdentity. Conditions: at most 1048576 lists of at most 1048576 numbers. -/
namespace Go.Proofs.Ytonanelghnjhpaa
open Go.RowKit

theorem chg_cell (w : World) (b : Nat) (u : Value) : Chg w (w.setCell ⟨b, 0, none⟩ u) (fun x => x = b) := ⟨rfl, rfl, rfl, by simp, fun x hx hn => heap_setCell_other w ⟨b, 0, none⟩ _ _ fun e => hn e⟩

/-- What the box of withRank holds ahead of entry i: what is left of the rank behind those that precede by the entries before. -/
def RkInv (w0 : World) (N bx k0 : Nat) (gs : List (List Int)) (os : List Int) (i : Nat) (m : List Int) (w : World) : Prop :=
  ∃ kk T : Nat, Below w0.heap.size w0 w ∧ Blk w bx 2 #[.int .i64 (kk : Nat)] ∧ Crd (fun q => Mb gs N q ∧ LxI i q m) T ∧ T + kk = k0 ∧ (kk : Int) < pr os i (N - i)

set_option maxHeartbeats 2000000 in
set_option maxRecDepth 100000 in
theorem rankPick (base N bx k0 : Nat) (gs : List (List Int)) (M : Nat → Prop) (ch : Ch) (L : Nat → LK) (w0 : World) (hc0 : Hid (Ck w0 base N 0 M ch L)) (ho : Orbs N 0 ch L) (hw : Hid (Whole N gs ch)) (h1 : 1 ≤ N) (h2 : N ≤ 20) (hg : Hid (∀ g ∈ gs, Pn N g)) (hbx : w0.heap.size ≤ bx) (hk0 : k0 < 2432902008176640000) :
    PickOK base N gs 107 (.pointer (some ⟨bx, 0, none⟩)) M ch L (fun b => b = bx) (RkInv w0 N bx k0 gs (osL N ch N)) := by
  refine ⟨enters_of Try.func107 (by kernel_rfl) rfl, fun i m w h => ?_, fun i m w w' h hb => ?_, ?_⟩
  · obtain ⟨_, _, h, _⟩ := h
    exact hc0.out.up h
  · obtain ⟨kk, T, a, b, c, d⟩ := h
    exact ⟨kk, T, btr a hb, b.below hb b.lt, c, d⟩
  · intro i m zs A n c w hi hinv hmb hz hrd hn1 hn20
    have hrz : RI w w.heap.size A zs := hrd.ri
    have lz : zs.length = n := hrd.len
    obtain ⟨kk, T, bel, blk, hT, hTk, hkp⟩ := hinv
    have Os := hw.out.os h1 h2
    obtain ⟨cn, _, hcn⟩ := agree_card Os hg.out h1 h2 (i := i + 1) (by omega) hmb
    have hbd := (Os.pr_le hg.out h1 h2 (i + 1) (N - (i + 1)) (by omega)).1
    have hbu := (Os.pr_le hg.out h1 h2 (i + 1) (N - (i + 1)) (by omega)).2
    have hbf := facts_le h2 (i + 1 + (N - (i + 1))) (by omega)
    have hlen := hz.len Os hg.out h1 h2 hi hmb
    have hfr : pr (osL N ch N) i (N - i) = (osL N ch N).getD i 0 * pr (osL N ch N) (i + 1) (N - (i + 1)) := by
      rw [show N - i = N - (i + 1) + 1 by omega, pr_front]
    rw [hcn] at hbd hfr hbu
    rw [← hlen, lz] at hfr
    have hkm : kk < n * cn := by
      rw [hfr, ← Int.natCast_mul] at hkp
      omega
    obtain ⟨j, hj⟩ : ∃ j, kk / cn = j := ⟨_, rfl⟩
    obtain ⟨r, hr⟩ : ∃ r, kk % cn = r := ⟨_, rfl⟩
    have hcn1 : 1 ≤ cn := by omega
    have hjm : j < n := by rw [← hj]; exact (Nat.div_lt_iff_lt_mul (by omega)).2 hkm
    have hrc : r < cn := by rw [← hr]; exact Nat.mod_lt _ (by omega)
    have hjr : j * cn + r = kk := by rw [← hj, ← hr, Nat.mul_comm]; exact Nat.div_add_mod kk cn
    have hkb : kk < 2432902008176640000 := by omega
    have hjb : j ≤ kk := by rw [← hj]; exact Nat.div_le_self _ _
    have e1 : (kk : Int).tdiv (cn : Int) = (j : Int) := by rw [← hj]; exact (Int.ofNat_tdiv kk cn).symm
    have e2 : (kk : Int).tmod (cn : Int) = (r : Int) := by rw [← hr]; exact (Int.ofNat_tmod kk cn).symm
    have w1' : IntKind.i64.wrap (j : Int) = (j : Int) := by rw [IntKind.wrap_i64]; omega
    have w2' : IntKind.i64.wrap (r : Int) = (r : Int) := by rw [IntKind.wrap_i64]; omega
    have hc0' : ¬ ((cn : Int) = 0) := by omega
    have hzm : zs.getD j 0 ∈ zs := by rw [gdx' (by rw [lz]; exact hjm)]; exact List.getElem_mem _
    obtain ⟨v, hv, _⟩ := hz.bnd hg.out h1 h2 hi hzm
    obtain ⟨zb, zo, rfl, hzb, hzc⟩ := hrz (by rw [lz]; omega)
    have x9 := hzc j (by rw [lz]; exact hjm)
    rw [hv] at x9
    have Cw := Lib.hid (hc0.out.up bel)
    have x4 := (Cw.out.cB (Nat.zero_le _) hi).2.2.2.2
    have xk : w.cell? ⟨bx, 0, none⟩ = some (.int .i64 (kk : Nat)) := blk.cell 0
    have fk := blk.frozen 0
    have Fin : Hid ((v : Int) ∈ zs ∧ Chg w (w.setCell ⟨bx, 0, none⟩ (.int .i64 (r : Nat))) (fun b => b = bx) ∧ ∀ m', Mb gs N m' → Ag i m' m → nx m' i = v → RkInv w0 N bx k0 gs (osL N ch N) (i + 1) m' (w.setCell ⟨bx, 0, none⟩ (.int .i64 (r : Nat)))) := Lib.hid (by
      refine ⟨by rw [← hv]; exact hzm, chg_cell _ _ _, fun m' hm' ha hv' => ?_⟩
      obtain ⟨cn', hcn', hT2⟩ := rank_step (K := j) (T := T) hz Os hg.out h1 h2 hi hmb ha.symm (by rw [lz]; omega)
        (fun t ht => by rw [hv', ← hv]; exact sorted_lo hz.1 ht (by rw [lz]; exact hjm)) (fun _ => by rw [hv', hv]; exact Int.le_refl _)
        (hT.congr fun q => by rw [lxi_ag ha.symm])
      obtain rfl : cn' = cn := by omega
      refine ⟨r, T + j * cn', bel.setCell (p := ⟨bx, 0, none⟩) hbx _, by simpa using blk.set_ 0 (.int .i64 (r : Nat)), hT2, by omega, by rw [hcn]; omega⟩)
    have K := implOrder base N 0 (i + 1) M ch L gs w Cw.out ho hw (Nat.zero_le _) (by omega) h1 h2 hg
    rw [hcn] at K
    have z0 : (0 : Int) ≤ j := by omega
    have z1 : (j : Int) < n := by omega
    clear hbd hbu hbf hlen hfr hkm hj hr hjr hkb hjb hzb hzc hzm hv hcn hT hTk hkp blk bel hrz hrd
    go_enter Try.func107, Try.ntmps107
    go_wp2_with fail
    refine K.mono ?_
    rintro e w' ⟨rfl, rfl⟩
    clear K
    go_wp2_with fail
    go_ret
    exact ⟨v, rfl, Fin.out⟩

set_option maxHeartbeats 4000000 in
set_option maxRecDepth 100000 in
/-- withRank, of a whole chain. -/
theorem implWithRank (base N : Nat) (gs : List (List Int)) (M : Nat → Prop) (ch : Ch) (L : Nat → LK) (k : Int) (w : World) (hc : Ck w base N 0 M ch L) (ho : Orbs N 0 ch L) (hw : Hid (Whole N gs ch)) (h1 : 1 ≤ N) (h2 : N ≤ 20) (hg : Hid (∀ g ∈ gs, Pn N g)) (hgB : Hid (gB (N : Int) gs = true)) (hk64 : I64 k) :
    Calls Try.prog 68 #[.pointer (some ⟨(L 0).B, 0, none⟩), .int .i64 k] w fun e w' => ∃ (A : Option Addr) (m c : Nat) (zs : List Int) (ok : Bool), e = .returned (.tuple #[.slice A m c, .bool ok]) ∧ Slc w' w.heap.size A m c zs ∧ IsMat (N : Int) gs k zs ok ∧ Below w.heap.size w w' := by
  have hmf : ∀ (fn : Fn) (first cap : Array Value) (w : World), (Instr.makeFunc fn first cap).run Try.prog w = .ok (.func fn first cap) w := fun _ _ _ _ => rfl
  obtain ⟨V, hV, eV, hVb⟩ := (hw.out.os h1 h2).ordB hg.out h1 h2
  have eV' : pr (osL N ch N) 0 (N - 0) = (V : Int) := by rw [prodL_pr, osL_len] at eV; exact eV
  have HV := Lib.hid hV
  have HC := Lib.hid hc
  have HO := Lib.hid ho
  obtain ⟨w0, hw0⟩ : ∃ w0, w.alloc (.cells #[.int .i64 k] 2) = w0 := ⟨_, rfl⟩
  have B0 : Hid (Below w.heap.size w w0) := Lib.hid (by rw [← hw0]; exact (Below.refl _ _).alloc (Nat.le_refl _) _)
  have Bk0 : Hid (Blk w0 w.heap.size 2 #[.int .i64 k]) := Lib.hid (by rw [← hw0]; exact Blk.new w _ _)
  have xk : w0.cell? ⟨w.heap.size, 0, none⟩ = some (.int .i64 k) := Bk0.out.cell 0
  have KQ : Hid (∀ q, Calls Try.prog 58 #[.pointer (some ⟨(L 0).B, 0, none⟩)] (w0.drewN q) fun e w' => e = .returned (.int .i64 (V : Nat)) ∧ w' = w0.drewN q) := Lib.hid fun q => by
    have K := implOrder base N 0 0 M ch L gs (w0.drewN q) (hc.up (btr B0.out (pcDrewBelow w0 q))) ho hw (Nat.le_refl _) (Nat.zero_le _) h1 h2 hg
    rw [ptr_at (by omega), eV'] at K
    exact K.mono fun _ _ ⟨a, b⟩ => ⟨a, b.symm⟩
  have EV := Lib.hid eV'
  clear hc ho hV eV eV'
  go_enter Try.func68, Try.ntmps68
  by_cases hk : 0 ≤ k
  · have d0 : decide (k < 0) = false := by simp; omega
    by_cases hkV : k < (V : Int)
    · obtain ⟨k0, rfl⟩ : ∃ k0 : Nat, k = (k0 : Int) := ⟨k.toNat, by omega⟩
      have hk0 : k0 < V := by omega
      have d1 : decide ((V : Int) ≤ (k0 : Int)) = false := by simp; omega
      have Pk := Lib.hid (rankPick base N w.heap.size k0 gs M ch L w HC HO.out hw h1 h2 hg (Nat.le_refl _) (by omega))
      have I0 : Hid (RkInv w N w.heap.size k0 gs (osL N ch N) 0 (idL N) w0) := Lib.hid ⟨k0, 0, B0.out, Bk0.out, crd_none fun x h => (by obtain ⟨_, t, ht, _⟩ := h; exact absurd ht (Nat.not_lt_zero _)), by omega, by rw [EV.out]; omega⟩
      go_wp2_with fail
      go_quiet ((go_at_call 58; exact Calls.quiet_of_same (KQ.out _)))
      have I1 := Lib.hid (Pk.out.up 0 _ w0 (w0.drewN nq) I0.out (pcDrewBelow w0 nq))
      go_wp2_with fail
      refine (implMemberOf base N _ _ gs M ch L _ _ (w0.drewN nq) Pk HO.out hw h1 h2 hg I1.out (Lib.hid fun b e => by rw [e]; exact Bk0.out.lt)).mono ?_
      rintro e w5 ⟨A5, c5, m5, rfl, s5, mb5, in5, _⟩
      have S5 : Hid (Slc w5 w.heap.size A5 N c5 m5) := Lib.hid (s5.mono (show w.heap.size ≤ (w0.drewN nq).heap.size from B0.out.size))
      have B5 : Hid (Below w.heap.size w w5) := Lib.hid (by obtain ⟨_, _, h, _⟩ := in5; exact h)
      have Fin : Hid (IsMat (N : Int) gs (k0 : Int) m5 true) := Lib.hid (by
        obtain ⟨kk, T, _, _, hT, hTk, hkp⟩ := in5
        rw [Nat.sub_self] at hkp
        have hk' : (kk : Int) < 1 := hkp
        obtain rfl : T = k0 := by omega
        exact .inl ⟨hgB.out, rfl, by rw [Int.toNat_natCast]; exact mb5, T, by rw [Int.toNat_natCast]; exact hT, rfl⟩)
      clear s5 in5 mb5
      go_wp2_with fail
      go_ret2
      exact ⟨_, _, _, _, _, rfl, S5.out, Fin.out, B5.out⟩
    · have d1 : decide ((V : Int) ≤ k) = true := by simp; omega
      have Fin : Hid (IsMat (N : Int) gs k [] false) := Lib.hid (.inr ⟨rfl, rfl, fun _ q hq c hc => by
        rw [Int.toNat_natCast] at hq hc
        have := rk_ord hc HV.out hq
        omega⟩)
      go_wp2_with fail
      go_quiet ((go_at_call 58; exact Calls.quiet_of_same (KQ.out _)))
      go_wp2_with fail
      go_ret2
      exact ⟨_, _, _, _, _, rfl, Slc.nil_, Fin.out, btr B0.out (pcDrewBelow w0 _)⟩
  · have d0 : decide (k < 0) = true := by simp; omega
    have Fin : Hid (IsMat (N : Int) gs k [] false) := Lib.hid (.inr ⟨rfl, rfl, fun _ q hq c hc => by omega⟩)
    go_wp2_with fail
    go_quiet (fail)
    go_wp2_with fail
    go_ret2
    exact ⟨_, _, _, _, _, rfl, Slc.nil_, Fin.out, btr B0.out (pcDrewBelow w0 _)⟩

set_option maxHeartbeats 2000000 in
set_option maxRecDepth 100000 in
/-- MemberAt. -/
theorem implMemberAt : CtImiP 27 IsMat := by
  intro a A n c vs xss k w g _ hk64
  have HX := Lib.hid g.rr
  have hlx : Hid (xss.length = n) := Lib.hid g.rr.lx
  have hn := g.hn
  have hl := Lib.hid g.hl
  clear g
  go_enter Try.func27, Try.ntmps27
  go_wp2_with fail
  refine (implGS a A n c vs xss w HX.out hn hl).mono ?_
  rintro e w1 ⟨rfl, b1⟩
  have B1 := Lib.hid b1
  have X1 := Lib.hid (HX.out.up b1)
  clear b1
  rcases hs : gB a xss with _ | _
  · have Fin : Hid (IsMat a xss k [] false) := Lib.hid (.inr ⟨rfl, rfl, fun h => by rw [hs] at h; cases h⟩)
    clear hs
    go_wp2_with fail
    go_ret2
    exact ⟨_, _, _, _, _, rfl, Slc.nil_, Fin.out, B1.out⟩
  · obtain ⟨N, rfl, hN1, hN2, hg8, hpm, hok⟩ := gB_pm hs
    have Hs := Lib.hid hs
    have Ok := Lib.hid hok
    have hn8 : n ≤ 8 := by rw [← hlx.out]; exact hg8
    clear hs hpm hok hg8
    go_wp2_with fail
    refine (implChainOf N n c A vs xss w1 X1.out hN1 hN2 hn8 Ok).mono ?_
    rintro e w2 ⟨ch, L, M, rfl, hc, ho, hw, b2⟩
    have W2 := Lib.hid hw
    have C2 := Lib.hid hc
    have O2 := Lib.hid ho
    have B2 : Hid (Below w.heap.size w w2) := Lib.hid (btr B1.out b2)
    clear hc ho hw b2
    go_wp2_with fail
    refine (implWithRank w1.heap.size N xss M ch L k w2 C2.out O2.out W2 hN1 hN2 (Lib.hid Ok.out) Hs hk64).mono ?_
    rintro e w3 ⟨A3, m3, c3, zs, ok, rfl, s3, r3, b3⟩
    have S3 : Hid (Slc w3 w.heap.size A3 m3 c3 zs) := Lib.hid (s3.mono B2.out.size)
    have R3 := Lib.hid r3
    have B3 : Hid (Below w.heap.size w w3) := Lib.hid (btr B2.out b3)
    clear s3 r3 b3
    go_wp2_with fail
    go_ret2
    exact ⟨_, _, _, _, _, rfl, S3.out, R3.out, B3.out⟩

set_option maxHeartbeats 1000000 in
/-- FirstNonIdentity. -/
theorem implFirst : CtImP 36 IsFst := by
  intro a A n c vs xss w g ha
  have G := Lib.hid g
  clear g
  go_enter Try.func36, Try.ntmps36
  go_wp2_with fail
  refine (implMemberAt a A n c vs xss 1 w G.out ha (by unfold I64; omega)).mono ?_
  rintro e w3 ⟨A3, m3, c3, zs, ok, rfl, s3, r3, b3⟩
  have S3 := Lib.hid s3
  have R3 : Hid (IsFst a xss zs ok) := Lib.hid r3
  have B3 := Lib.hid b3
  clear s3 r3 b3
  go_wp2_with fail
  go_ret2
  exact ⟨_, _, _, _, _, rfl, S3.out, R3.out, B3.out⟩
end Go.Proofs.Ytonanelghnjhpaa

/- What the frame of a proof knows of a slice of slices of int64 that came in. No condition. -/
namespace Go.Proofs.Ytonanelghnjhpaa
open Go.ChangeShapes Go.WideShapes Go.ChangeAt Go.RowKit

theorem cellsS1 : Try.prog.cellsOf 28 = 1 := by kernel_rfl
theorem one_cell {W : World} {x : Addr} {cs : List Value} (h : W.cells? 0 x 1 = some cs) : ∃ c, cs = [c] ∧ W.cell? x = some c := by
  have e0 : x.add 0 = x := by simp [Addr.add]
  simp [World.cells?, List.range_succ, e0] at h
  cases hc : W.cell? x with
  | none => simp [hc] at h
  | some c =>
    simp [hc] at h
    exact ⟨c, h.symm, rfl⟩

theorem argSS {H : Type} {enc : TypeId × Value → H} {W : World} {a : Option Addr} {len cap : Nat} {d : DataW H} {ps : List MemPlace}
    (h : ∃ fuel, DataW.trod enc Try.prog W 0 (fun _ => true) true fuel 24 (Value.slice a len cap).cells.toList = some (d, ps)) :
    len ≤ maxLen ∧ ∃ vs xss, RR W W.heap.size a len vs xss ∧ ∀ i, i < len → (vs.getD i sd0).2.1 ≤ maxLen := by
  obtain ⟨fuel, hf⟩ := h
  rcases DataW.trod_slice Try.underlying24 hf with ⟨hcs, hx⟩ | ⟨a', len', cap', elems, rest, n, rfl, hcs, hx, _, hl, hm, hlen, hel, _, _⟩
  · simp [Value.cells] at hcs
    obtain ⟨rfl, rfl, rfl⟩ := hcs
    exact ⟨Nat.zero_le _, [], [], RR.nil_, fun i h => absurd h (by omega)⟩
  · simp [Value.cells] at hcs
    obtain ⟨rfl, rfl, rfl⟩ := hcs
    obtain ⟨b, off, spot⟩ := a'
    -- each element
    have key : ∀ i, i < len → ∃ (A : Option Addr) (l c : Nat) (xs : List Int), W.cell? (Addr.add ⟨b, off, spot⟩ i) = some (.slice A l c) ∧ xs.length = l ∧ l ≤ c ∧ c ≤ maxLen ∧ RI W W.heap.size A xs := by
      intro i hi
      have hE := hel i hi
      rw [cellsS1, Nat.mul_one, List.getElem?_eq_getElem (by omega)] at hE
      simp only [Option.bind_eq_some_iff] at hE
      obtain ⟨cs1, hc1, hy1⟩ := hE
      obtain ⟨c, rfl, hcc⟩ := one_cell hc1
      rcases open_ints Try.underlying28 Try.underlying2 (by kernel_rfl) hy1 with ⟨hcs, _⟩ | ⟨ia, il, ic, zs, hcs, _, hil, him, hiz, _, hicell, hiw⟩
      · injection hcs with hcs _
        subst hcs
        exact ⟨none, 0, 0, [], hcc, rfl, Nat.le_refl _, Nat.zero_le _, RI.nil_⟩
      · injection hcs with hcs _
        subst hcs
        have hiz' : zs.length = ic := by simpa using hiz
        obtain ⟨xs, hxl, hR⟩ := RI.of_row (w := W) (a := some ia) (len := il) (cap := ic) (zs := zs) (.inr ⟨ia, rfl, hil, him, hiz', hicell, hiw⟩)
        exact ⟨some ia, il, ic, xs, hcc, hxl.out, hil, him, hR⟩
    refine ⟨Nat.le_trans hl hm, ?_⟩
    have hch : ∃ f : Nat → SV × List Int, ∀ i, i < len → W.cell? (Addr.add ⟨b, off, spot⟩ i) = some (.slice (f i).1.1 (f i).1.2.1 (f i).1.2.2) ∧ (f i).2.length = (f i).1.2.1 ∧ (f i).1.2.1 ≤ (f i).1.2.2 ∧ (f i).1.2.2 ≤ maxLen ∧ RI W W.heap.size (f i).1.1 (f i).2 := by
      refine ⟨fun i => if hi : i < len then (((Classical.choose (key i hi)), Classical.choose (Classical.choose_spec (key i hi)), Classical.choose (Classical.choose_spec (Classical.choose_spec (key i hi)))), Classical.choose (Classical.choose_spec (Classical.choose_spec (Classical.choose_spec (key i hi))))) else (sd0, []), fun i hi => ?_⟩
      have := Classical.choose_spec (Classical.choose_spec (Classical.choose_spec (Classical.choose_spec (key i hi))))
      simp only [hi, dif_pos]
      exact this
    obtain ⟨f, hf⟩ := hch
    have g1 : ∀ j, j < len → ((List.range len).map fun i => (f i).1).getD j sd0 = (f j).1 := fun j hj => by
      rw [List.getD_eq_getElem?_getD, List.getElem?_map, List.getElem?_range hj]; rfl
    have g2 : ∀ j, j < len → ((List.range len).map fun i => (f i).2).getD j [] = (f j).2 := fun j hj => by
      rw [List.getD_eq_getElem?_getD, List.getElem?_map, List.getElem?_range hj]; rfl
    refine ⟨(List.range len).map fun i => (f i).1, (List.range len).map fun i => (f i).2, ⟨by simp, by simp, fun hp => ?_, fun j hj => ?_, fun j hj => ?_, fun j hj => ?_⟩, fun i hi => ?_⟩
    · have h0 := (hf 0 hp).1
      have hs : spot = none := by simpa [Addr.add] using World.cell?_spot h0
      subst hs
      refine ⟨b, off, rfl, ?_, fun j hj => ?_⟩
      · have := World.block_lt_of_cell? W _ h0
        simpa [Addr.add] using this
      · rw [g1 j hj, ← (hf j hj).1]
        unfold Addr.add
        split <;> simp_all
    · rw [g1 j hj, g2 j hj]; exact (hf j hj).2.2.2.2
    · rw [g1 j hj, g2 j hj]; exact (hf j hj).2.1
    · rw [g1 j hj]; exact (hf j hj).2.2.1
    · rw [g1 i hi]; exact Nat.le_trans (hf i hi).2.2.1 (hf i hi).2.2.2.1
end Go.Proofs.Ytonanelghnjhpaa

/- The walk of the law FnExactFirstNonIdentity: it returns true at every input, and writes nothing that was there. No condition but the program's own contract. -/
namespace Go.Proofs.Ytonanelghnjhpaa
open Go.RowKit

set_option maxHeartbeats 4000000 in
set_option maxRecDepth 100000 in
/-- The law FnExactFirstNonIdentity. -/
theorem lawFirstNonIdentity (IM : CtImP 36 IsFst) (i0 : Int) (g1A : Option Addr) (g1n g1c : Nat) (g1v : List SV) (g1x : List (List Int)) (w : World) (wfi0 : I64 i0) (hg1 : RR w w.heap.size g1A g1n g1v g1x) (hmg1 : g1n ≤ maxLen) (hkg1 : Hid (∀ i, i < g1n → (g1v.getD i sd0).2.1 ≤ maxLen)) :
    Calls Try.prog 13 #[.int .i64 i0, .slice g1A g1n g1c] w fun e w' => e = .returned (.bool true) ∧ Below w.heap.size w w' := by
  have Hg1 := Lib.hid hg1
  have hlxg1 := Lib.hid hg1.lx
  have hllg1 := Lib.hid hg1.lens
  clear hg1
  by_cases hT0 : ((g1n + tot g1v g1n : Nat) : Int) ≤ (1048576 : Int)
  · skip
    have HT0 := Lib.hid hT0
    obtain ⟨LE, eLE⟩ : ∃ L : Int, (1048576 : Int) - ((g1n + tot g1v g1n : Nat) : Int) = L := ⟨_, rfl⟩
    have hLE : ¬ LE < 0 := by omega
    have dLE : decide (LE < 0) = false := by simp; omega
    have ELE := Lib.hid eLE
    clear eLE
    have hng1 : g1n ≤ 1048576 := by omega
    have KTg1 : Hid (tot g1v g1n ≤ 1048576) := Lib.hid (by omega)
    have hlg1 : Hid (∀ i, i < g1n → (g1v.getD i sd0).2.1 ≤ 1048576) := Lib.hid fun i hi => by have := tot_row (vs := g1v) hi; have := KTg1.out; omega
    have hylg1 : Hid (∀ i, i < g1n → (g1x.getD i []).length ≤ 1048576) := Lib.hid fun i hi => by rw [hllg1.out i hi]; exact hlg1.out i hi
    clear hT0 
    go_enter Try.func13, Try.ntmps13
    go_wp2_with fail
    have K0 := szSS2 g1A g1n g1c 1048576 g1v g1x w Hg1.out hmg1 hkg1 (by decide) (by decide)
    refine K0.mono ?_
    rintro e w0 ⟨rfl, rfl⟩
    clear K0
    rw [if_pos HT0.out]
    rw [ELE.out]
    go_wp2_with fail
    refine (toSS g1A g1n g1c g1v g1x w Hg1.out hng1 hlg1).mono ?_
    rintro e w1 ⟨A1, c1, us1, rfl, s1, q1, b1⟩
    have Z1 : Hid (w.heap.size ≤ w1.heap.size) := Lib.hid b1.size
    have B1 : Hid (Below w.heap.size w w1) := Lib.hid b1
    have Ftg1_1 := Lib.hid s1
    have Ltg1 : Hid (Lies A1 g1n c1 w.heap.size w1.heap.size) := Lib.hid s1.lt_
    have Itg1 : Hid (∀ t, t < g1n → ∀ k, (sval (us1.getD t sd0)).ownBlock = some k → w.heap.size ≤ k ∧ k < w1.heap.size) := Lib.hid fun t ht => (s1.row t ht).lt_
    have Qtg1 := Lib.hid q1
    have hltg1 : Hid (∀ i, i < g1n → (us1.getD i sd0).2.1 ≤ 1048576) := Lib.hid fun i hi => by rw [q1 i hi]; exact hlg1.out i hi
    clear s1 b1 q1
    go_wp2_with fail
    have K2 := ctFst i0 A1 g1n c1 us1 g1x w1 ⟨Ftg1_1.out.rr, hng1, hltg1.out⟩ wfi0
    refine K2.mono ?_
    clear K2
    rintro e w2 ⟨A2, n2, c2, z2, ok2, rfl, s2, r2, b2⟩
    have m2 : n2 ≤ 1048576 := by have := IsFst.len r2; have := s2.1; omega
    have Z2 : Hid (w1.heap.size ≤ w2.heap.size) := Lib.hid b2.size
    have B2 : Hid (Below w.heap.size w w2) := Lib.hid (btr B1.out b2)
    have Ftg1_2 := Lib.hid (Ftg1_1.out.up b2)
    clear Ftg1_1
    have HR := Lib.hid r2
    clear r2
    have FW_2 := Lib.hid s2
    have LW : Hid (Lies A2 n2 c2 w1.heap.size w2.heap.size) := Lib.hid s2.lies
    clear s2 b2
    clear Ftg1_2
    go_wp2_with fail
    refine (toSS g1A g1n g1c g1v g1x w2 (Hg1.out.up B2.out) hng1 hlg1).mono ?_
    rintro e w3 ⟨A3, c3, us3, rfl, s3, q3, b3⟩
    have Z3 : Hid (w2.heap.size ≤ w3.heap.size) := Lib.hid b3.size
    have B3 : Hid (Below w.heap.size w w3) := Lib.hid (btr B2.out b3)
    have FW_3 := Lib.hid (FW_2.out.up b3)
    clear FW_2
    have Fxg1_3 := Lib.hid s3
    have Lxg1 : Hid (Lies A3 g1n c3 w2.heap.size w3.heap.size) := Lib.hid s3.lt_
    have Ixg1 : Hid (∀ t, t < g1n → ∀ k, (sval (us3.getD t sd0)).ownBlock = some k → w2.heap.size ≤ k ∧ k < w3.heap.size) := Lib.hid fun t ht => (s3.row t ht).lt_
    have Qxg1 := Lib.hid q3
    have hlxg1 : Hid (∀ i, i < g1n → (us3.getD i sd0).2.1 ≤ 1048576) := Lib.hid fun i hi => by rw [q3 i hi]; exact hlg1.out i hi
    clear s3 b3 q3
    go_wp2_with fail
    have K4 := IM i0 A3 g1n c3 us3 g1x w3 ⟨Fxg1_3.out.rr, hng1, hlxg1.out⟩ wfi0
    refine K4.mono ?_
    clear K4
    rintro e w4 ⟨A4, n4, c4, z4, ok4, rfl, s4, r4, b4⟩
    have m4 : n4 ≤ 1048576 := by have := IsFst.len r4; have := s4.1; omega
    have Z4 : Hid (w3.heap.size ≤ w4.heap.size) := Lib.hid b4.size
    have B4 : Hid (Below w.heap.size w w4) := Lib.hid (btr B3.out b4)
    have FW_4 := Lib.hid (FW_3.out.up b4)
    clear FW_3
    have Fxg1_4 := Lib.hid (Fxg1_3.out.up b4)
    clear Fxg1_3
    obtain ⟨e4, f4⟩ := HR.out.uniq r4
    subst e4 f4
    clear r4
    have FG_4 := Lib.hid s4
    have LG : Hid (Lies A4 n4 c4 w3.heap.size w4.heap.size) := Lib.hid s4.lies
    clear s4 b4
    go_wp2_with fail
    refine (eqS_same _ _ A4 A2 n4 c4 n2 c2 w4 FG_4.out FW_4.out (by omega)).mono ?_
    rintro e w5 ⟨rfl, b5⟩
    have Z5 : Hid (w4.heap.size ≤ w5.heap.size) := Lib.hid b5.size
    have B5 : Hid (Below w.heap.size w w5) := Lib.hid (btr B4.out b5)
    have FW_5 := Lib.hid (FW_4.out.up b5)
    clear FW_4
    have Fxg1_5 := Lib.hid (Fxg1_4.out.up b5)
    clear Fxg1_4
    have FG_5 := Lib.hid (FG_4.out.up b5)
    clear FG_4
    clear b5
    go_wp2_with fail
    refine (toSS g1A g1n g1c g1v g1x w5 (Hg1.out.up B5.out) hng1 hlg1).mono ?_
    rintro e w6 ⟨A6, c6, us6, rfl, s6, q6, b6⟩
    have Z6 : Hid (w5.heap.size ≤ w6.heap.size) := Lib.hid b6.size
    have B6 : Hid (Below w.heap.size w w6) := Lib.hid (btr B5.out b6)
    have FW_6 := Lib.hid (FW_5.out.up b6)
    clear FW_5
    have Fxg1_6 := Lib.hid (Fxg1_5.out.up b6)
    clear Fxg1_5
    have FG_6 := Lib.hid (FG_5.out.up b6)
    clear FG_5
    have Fyg1_6 := Lib.hid s6
    have Lyg1 : Hid (Lies A6 g1n c6 w5.heap.size w6.heap.size) := Lib.hid s6.lt_
    have Iyg1 : Hid (∀ t, t < g1n → ∀ k, (sval (us6.getD t sd0)).ownBlock = some k → w5.heap.size ≤ k ∧ k < w6.heap.size) := Lib.hid fun t ht => (s6.row t ht).lt_
    have Qyg1 := Lib.hid q6
    have hlyg1 : Hid (∀ i, i < g1n → (us6.getD i sd0).2.1 ≤ 1048576) := Lib.hid fun i hi => by rw [q6 i hi]; exact hlg1.out i hi
    clear s6 b6 q6
    go_wp2_with fail
    refine (eqRR_same A3 A6 g1n c3 g1n c6 us3 us6 _ w6 Fxg1_6.out.rr Fyg1_6.out.rr (by omega) hylg1).mono ?_
    rintro e w7 ⟨rfl, b7⟩
    have Z7 : Hid (w6.heap.size ≤ w7.heap.size) := Lib.hid b7.size
    have B7 : Hid (Below w.heap.size w w7) := Lib.hid (btr B6.out b7)
    have FW_7 := Lib.hid (FW_6.out.up b7)
    clear FW_6
    have Fxg1_7 := Lib.hid (Fxg1_6.out.up b7)
    clear Fxg1_6
    have FG_7 := Lib.hid (FG_6.out.up b7)
    clear FG_6
    have Fyg1_7 := Lib.hid (Fyg1_6.out.up b7)
    clear Fyg1_6
    clear b7
    clear Fyg1_7
    have KTx : Hid (tot us3 g1n ≤ 1048576) := Lib.hid (by rw [tot_eq g1n Qxg1.out]; exact KTg1.out)
    go_wp2_with fail
    refine (markSS A3 g1n c3 _ _ us3 _ w7 Fxg1_7.out (by omega) KTx).mono ?_
    rintro e w8 ⟨rfl, s8, o8⟩
    have Z8 : Hid (w7.heap.size ≤ w8.heap.size) := Lib.hid o8.size
    have B8 : Hid (Below w.heap.size w w8) := Lib.hid (B7.out.trans (o8.below B7.out.size (fun t ht k e => by have h2 := Ixg1.out t ht k e; have := Z1.out; have := Z2.out; have := Z3.out; have := Z4.out; have := Z5.out; have := Z6.out; have := Z7.out; have := Z8.out; omega)))
    have FW_8 := Lib.hid (FW_7.out.only o8 (fun k hk t ht e => by have h1 := LW.out k hk; have h2 := Ixg1.out t ht k e; have := Z1.out; have := Z2.out; have := Z3.out; have := Z4.out; have := Z5.out; have := Z6.out; have := Z7.out; have := Z8.out; omega))
    clear FW_7
    have Fxg1_8 := Lib.hid s8
    clear Fxg1_7
    have FG_8 := Lib.hid (FG_7.out.only o8 (fun k hk t ht e => by have h1 := LG.out k hk; have h2 := Ixg1.out t ht k e; have := Z1.out; have := Z2.out; have := Z3.out; have := Z4.out; have := Z5.out; have := Z6.out; have := Z7.out; have := Z8.out; omega))
    clear FG_7
    clear s8 o8
    obtain ⟨T, eT⟩ : ∃ T, tot us3 g1n = T := ⟨_, rfl⟩
    have hT9 : T ≤ 1048576 := by rw [← eT]; exact KTx.out
    rw [eT]
    clear eT
    go_wp2_with fail
    refine (eqS_same _ _ A4 A2 n4 c4 n2 c2 w8 FG_8.out FW_8.out (by omega)).mono ?_
    rintro e w9 ⟨rfl, b9⟩
    have Z9 : Hid (w8.heap.size ≤ w9.heap.size) := Lib.hid b9.size
    have B9 : Hid (Below w.heap.size w w9) := Lib.hid (btr B8.out b9)
    have FW_9 := Lib.hid (FW_8.out.up b9)
    clear FW_8
    have Fxg1_9 := Lib.hid (Fxg1_8.out.up b9)
    clear Fxg1_8
    have FG_9 := Lib.hid (FG_8.out.up b9)
    clear FG_8
    clear b9
    clear Fxg1_9
    go_wp2_with fail
    refine (mark1 _ A4 n4 c4 _ w9 FG_9.out (by omega)).mono ?_
    rintro e w10 ⟨rfl, s10, g10⟩
    have Z10 : Hid (w9.heap.size ≤ w10.heap.size) := Lib.hid g10.size
    have B10 : Hid (Below w.heap.size w w10) := Lib.hid (B9.out.trans (below_mark g10 LG.out (by have := Z1.out; have := Z2.out; have := Z3.out; have := Z4.out; have := Z5.out; have := Z6.out; have := Z7.out; have := Z8.out; have := Z9.out; have := Z10.out; omega) B9.out.size))
    have FW_10 := Lib.hid (FW_9.out.far g10 LW.out LG.out (.inl (by have := Z1.out; have := Z2.out; have := Z3.out; have := Z4.out; have := Z5.out; have := Z6.out; have := Z7.out; have := Z8.out; have := Z9.out; have := Z10.out; omega)))
    clear FW_9
    have FG_10 := Lib.hid s10
    clear FG_9
    clear s10 g10
    go_wp2_with fail
    refine (held1 _ A4 n4 c4 w10 FG_10.out (by omega)).mono ?_
    rintro e w' ⟨rfl, rfl⟩
    go_wp2_with fail
    refine (toSS g1A g1n g1c g1v g1x w10 (Hg1.out.up B10.out) hng1 hlg1).mono ?_
    rintro e w11 ⟨A11, c11, us11, rfl, s11, q11, b11⟩
    have Z11 : Hid (w10.heap.size ≤ w11.heap.size) := Lib.hid b11.size
    have B11 : Hid (Below w.heap.size w w11) := Lib.hid (btr B10.out b11)
    have FW_11 := Lib.hid (FW_10.out.up b11)
    clear FW_10
    have FG_11 := Lib.hid (FG_10.out.up b11)
    clear FG_10
    have Fzg1_11 := Lib.hid s11
    have Lzg1 : Hid (Lies A11 g1n c11 w10.heap.size w11.heap.size) := Lib.hid s11.lt_
    have Izg1 : Hid (∀ t, t < g1n → ∀ k, (sval (us11.getD t sd0)).ownBlock = some k → w10.heap.size ≤ k ∧ k < w11.heap.size) := Lib.hid fun t ht => (s11.row t ht).lt_
    have Qzg1 := Lib.hid q11
    have hlzg1 : Hid (∀ i, i < g1n → (us11.getD i sd0).2.1 ≤ 1048576) := Lib.hid fun i hi => by rw [q11 i hi]; exact hlg1.out i hi
    clear s11 b11 q11
    go_wp2_with fail
    have K12 := IM i0 A11 g1n c11 us11 g1x w11 ⟨Fzg1_11.out.rr, hng1, hlzg1.out⟩ wfi0
    refine K12.mono ?_
    clear K12
    rintro e w12 ⟨A12, n12, c12, z12, ok12, rfl, s12, r12, b12⟩
    have m12 : n12 ≤ 1048576 := by have := IsFst.len r12; have := s12.1; omega
    have Z12 : Hid (w11.heap.size ≤ w12.heap.size) := Lib.hid b12.size
    have B12 : Hid (Below w.heap.size w w12) := Lib.hid (btr B11.out b12)
    have FW_12 := Lib.hid (FW_11.out.up b12)
    clear FW_11
    have FG_12 := Lib.hid (FG_11.out.up b12)
    clear FG_11
    have Fzg1_12 := Lib.hid (Fzg1_11.out.up b12)
    clear Fzg1_11
    obtain ⟨e12, f12⟩ := HR.out.uniq r12
    subst e12 f12
    clear r12
    have FH_12 := Lib.hid s12
    have LH : Hid (Lies A12 n12 c12 w11.heap.size w12.heap.size) := Lib.hid s12.lies
    clear s12 b12
    clear Fzg1_12
    go_wp2_with fail
    refine (eqS_same _ _ A12 A2 n12 c12 n2 c2 w12 FH_12.out FW_12.out (by omega)).mono ?_
    rintro e w13 ⟨rfl, b13⟩
    have Z13 : Hid (w12.heap.size ≤ w13.heap.size) := Lib.hid b13.size
    have B13 : Hid (Below w.heap.size w w13) := Lib.hid (btr B12.out b13)
    have FW_13 := Lib.hid (FW_12.out.up b13)
    clear FW_12
    have FG_13 := Lib.hid (FG_12.out.up b13)
    clear FG_12
    have FH_13 := Lib.hid (FH_12.out.up b13)
    clear FH_12
    clear b13
    go_wp2_with fail
    refine (held1 _ A4 n4 c4 w13 FG_13.out (by omega)).mono ?_
    rintro e w' ⟨rfl, rfl⟩
    go_wp2_with fail
    go_ret
    exact ⟨rfl, B13.out⟩
  · skip
    have HT0 := Lib.hid hT0
    clear hT0
    go_enter Try.func13, Try.ntmps13
    go_wp2_with fail
    have K0 := szSS2 g1A g1n g1c 1048576 g1v g1x w Hg1.out hmg1 hkg1 (by decide) (by decide)
    refine K0.mono ?_
    rintro e w0 ⟨rfl, rfl⟩
    clear K0
    rw [if_neg (Int.not_le.2 HT0.out)]
    go_wp2
    go_ret
    exact ⟨rfl, Below.refl _ _⟩
end Go.Proofs.Ytonanelghnjhpaa

/- The walk of the law FnExactRank: it returns true at every input, and writes nothing that was there. No condition but the program's own contract. -/
namespace Go.Proofs.Ytonanelghnjhpaa
open Go.RowKit

set_option maxHeartbeats 4000000 in
set_option maxRecDepth 100000 in
/-- The law FnExactRank. -/
theorem lawRank (IM : CtImsI 30 IsRnk) (i0 : Int) (g1A : Option Addr) (g1n g1c : Nat) (g1v : List SV) (g1x : List (List Int)) (s2A : Option Addr) (s2n s2c : Nat) (s2x : List Int) (w : World) (wfi0 : I64 i0) (hg1 : RR w w.heap.size g1A g1n g1v g1x) (hmg1 : g1n ≤ maxLen) (hkg1 : Hid (∀ i, i < g1n → (g1v.getD i sd0).2.1 ≤ maxLen)) (hs2 : RI w w.heap.size s2A s2x) (ls2 : Hid (s2x.length = s2n)) :
    Calls Try.prog 8 #[.int .i64 i0, .slice g1A g1n g1c, .slice s2A s2n s2c] w fun e w' => e = .returned (.bool true) ∧ Below w.heap.size w w' := by
  have Hg1 := Lib.hid hg1
  have hlxg1 := Lib.hid hg1.lx
  have hllg1 := Lib.hid hg1.lens
  have Hs2 := Lib.hid hs2
  clear hg1 hs2
  by_cases hns2 : s2n ≤ 1048576
  · skip
    by_cases hT0 : ((g1n + tot g1v g1n : Nat) : Int) ≤ (1048576 : Int)
    · skip
      have HT0 := Lib.hid hT0
      obtain ⟨LE, eLE⟩ : ∃ L : Int, (1048576 : Int) - ((g1n + tot g1v g1n : Nat) : Int) = L := ⟨_, rfl⟩
      have hLE : ¬ LE < 0 := by omega
      have dLE : decide (LE < 0) = false := by simp; omega
      have ELE := Lib.hid eLE
      clear eLE
      have hng1 : g1n ≤ 1048576 := by omega
      have KTg1 : Hid (tot g1v g1n ≤ 1048576) := Lib.hid (by omega)
      have hlg1 : Hid (∀ i, i < g1n → (g1v.getD i sd0).2.1 ≤ 1048576) := Lib.hid fun i hi => by have := tot_row (vs := g1v) hi; have := KTg1.out; omega
      have hylg1 : Hid (∀ i, i < g1n → (g1x.getD i []).length ≤ 1048576) := Lib.hid fun i hi => by rw [hllg1.out i hi]; exact hlg1.out i hi
      clear hT0 
      go_enter Try.func8, Try.ntmps8
      go_wp2_with fail
      have K0 := szSS2 g1A g1n g1c 1048576 g1v g1x w Hg1.out hmg1 hkg1 (by decide) (by decide)
      refine K0.mono ?_
      rintro e w0 ⟨rfl, rfl⟩
      clear K0
      rw [if_pos HT0.out]
      rw [ELE.out]
      go_wp2_with fail
      refine (toSS g1A g1n g1c g1v g1x w Hg1.out hng1 hlg1).mono ?_
      rintro e w1 ⟨A1, c1, us1, rfl, s1, q1, b1⟩
      have Z1 : Hid (w.heap.size ≤ w1.heap.size) := Lib.hid b1.size
      have B1 : Hid (Below w.heap.size w w1) := Lib.hid b1
      have Ftg1_1 := Lib.hid s1
      have Ltg1 : Hid (Lies A1 g1n c1 w.heap.size w1.heap.size) := Lib.hid s1.lt_
      have Itg1 : Hid (∀ t, t < g1n → ∀ k, (sval (us1.getD t sd0)).ownBlock = some k → w.heap.size ≤ k ∧ k < w1.heap.size) := Lib.hid fun t ht => (s1.row t ht).lt_
      have Qtg1 := Lib.hid q1
      have hltg1 : Hid (∀ i, i < g1n → (us1.getD i sd0).2.1 ≤ 1048576) := Lib.hid fun i hi => by rw [q1 i hi]; exact hlg1.out i hi
      clear s1 b1 q1
      go_wp2_with fail
      refine (toS_any s2A s2c s2n s2x w1 (Hs2.out.up B1.out) ls2 (by omega)).mono ?_
      rintro e w2 ⟨A2, c2, rfl, s2, b2⟩
      have Z2 : Hid (w1.heap.size ≤ w2.heap.size) := Lib.hid b2.size
      have B2 : Hid (Below w.heap.size w w2) := Lib.hid (btr B1.out b2)
      have Ftg1_2 := Lib.hid (Ftg1_1.out.up b2)
      clear Ftg1_1
      have Fts2_2 := Lib.hid s2
      have Lts2 : Hid (Lies A2 s2n c2 w1.heap.size w2.heap.size) := Lib.hid s2.lies
      have lets2 := s2.le.1
      clear s2 b2
      go_wp2_with fail
      have K3 := ctRnk i0 A1 g1n c1 us1 g1x A2 s2n c2 s2x w2 ⟨Ftg1_2.out.rr, hng1, hltg1.out⟩ ⟨Fts2_2.out.ri_, ls2.out, hns2, lets2⟩ wfi0
      refine K3.mono ?_
      clear K3
      rintro e w3 ⟨v3, rfl, r3, b3⟩
      have Z3 : Hid (w2.heap.size ≤ w3.heap.size) := Lib.hid b3.size
      have B3 : Hid (Below w.heap.size w w3) := Lib.hid (btr B2.out b3)
      have Ftg1_3 := Lib.hid (Ftg1_2.out.up b3)
      clear Ftg1_2
      have Fts2_3 := Lib.hid (Fts2_2.out.up b3)
      clear Fts2_2
      have HR := Lib.hid r3
      clear r3
      clear b3
      clear Ftg1_3
      clear Fts2_3
      go_wp2_with fail
      refine (toSS g1A g1n g1c g1v g1x w3 (Hg1.out.up B3.out) hng1 hlg1).mono ?_
      rintro e w4 ⟨A4, c4, us4, rfl, s4, q4, b4⟩
      have Z4 : Hid (w3.heap.size ≤ w4.heap.size) := Lib.hid b4.size
      have B4 : Hid (Below w.heap.size w w4) := Lib.hid (btr B3.out b4)
      have Fxg1_4 := Lib.hid s4
      have Lxg1 : Hid (Lies A4 g1n c4 w3.heap.size w4.heap.size) := Lib.hid s4.lt_
      have Ixg1 : Hid (∀ t, t < g1n → ∀ k, (sval (us4.getD t sd0)).ownBlock = some k → w3.heap.size ≤ k ∧ k < w4.heap.size) := Lib.hid fun t ht => (s4.row t ht).lt_
      have Qxg1 := Lib.hid q4
      have hlxg1 : Hid (∀ i, i < g1n → (us4.getD i sd0).2.1 ≤ 1048576) := Lib.hid fun i hi => by rw [q4 i hi]; exact hlg1.out i hi
      clear s4 b4 q4
      go_wp2_with fail
      refine (toS_any s2A s2c s2n s2x w4 (Hs2.out.up B4.out) ls2 (by omega)).mono ?_
      rintro e w5 ⟨A5, c5, rfl, s5, b5⟩
      have Z5 : Hid (w4.heap.size ≤ w5.heap.size) := Lib.hid b5.size
      have B5 : Hid (Below w.heap.size w w5) := Lib.hid (btr B4.out b5)
      have Fxg1_5 := Lib.hid (Fxg1_4.out.up b5)
      clear Fxg1_4
      have Fxs2_5 := Lib.hid s5
      have Lxs2 : Hid (Lies A5 s2n c5 w4.heap.size w5.heap.size) := Lib.hid s5.lies
      have lexs2 := s5.le.1
      clear s5 b5
      go_wp2_with fail
      have K6 := IM i0 A4 g1n c4 us4 g1x A5 s2n c5 s2x w5 ⟨Fxg1_5.out.rr, hng1, hlxg1.out⟩ ⟨Fxs2_5.out.ri_, ls2.out, hns2, lexs2⟩ wfi0
      refine K6.mono ?_
      clear K6
      rintro e w6 ⟨v6, rfl, r6, b6⟩
      have Z6 : Hid (w5.heap.size ≤ w6.heap.size) := Lib.hid b6.size
      have B6 : Hid (Below w.heap.size w w6) := Lib.hid (btr B5.out b6)
      have Fxg1_6 := Lib.hid (Fxg1_5.out.up b6)
      clear Fxg1_5
      have Fxs2_6 := Lib.hid (Fxs2_5.out.up b6)
      clear Fxs2_5
      have e6 := HR.out.uniq r6
      subst e6
      clear r6
      clear b6
      go_wp2_with fail
      refine (toSS g1A g1n g1c g1v g1x w6 (Hg1.out.up B6.out) hng1 hlg1).mono ?_
      rintro e w7 ⟨A7, c7, us7, rfl, s7, q7, b7⟩
      have Z7 : Hid (w6.heap.size ≤ w7.heap.size) := Lib.hid b7.size
      have B7 : Hid (Below w.heap.size w w7) := Lib.hid (btr B6.out b7)
      have Fxg1_7 := Lib.hid (Fxg1_6.out.up b7)
      clear Fxg1_6
      have Fxs2_7 := Lib.hid (Fxs2_6.out.up b7)
      clear Fxs2_6
      have Fyg1_7 := Lib.hid s7
      have Lyg1 : Hid (Lies A7 g1n c7 w6.heap.size w7.heap.size) := Lib.hid s7.lt_
      have Iyg1 : Hid (∀ t, t < g1n → ∀ k, (sval (us7.getD t sd0)).ownBlock = some k → w6.heap.size ≤ k ∧ k < w7.heap.size) := Lib.hid fun t ht => (s7.row t ht).lt_
      have Qyg1 := Lib.hid q7
      have hlyg1 : Hid (∀ i, i < g1n → (us7.getD i sd0).2.1 ≤ 1048576) := Lib.hid fun i hi => by rw [q7 i hi]; exact hlg1.out i hi
      clear s7 b7 q7
      go_wp2_with fail
      refine (eqRR_same A4 A7 g1n c4 g1n c7 us4 us7 _ w7 Fxg1_7.out.rr Fyg1_7.out.rr (by omega) hylg1).mono ?_
      rintro e w8 ⟨rfl, b8⟩
      have Z8 : Hid (w7.heap.size ≤ w8.heap.size) := Lib.hid b8.size
      have B8 : Hid (Below w.heap.size w w8) := Lib.hid (btr B7.out b8)
      have Fxg1_8 := Lib.hid (Fxg1_7.out.up b8)
      clear Fxg1_7
      have Fxs2_8 := Lib.hid (Fxs2_7.out.up b8)
      clear Fxs2_7
      have Fyg1_8 := Lib.hid (Fyg1_7.out.up b8)
      clear Fyg1_7
      clear b8
      clear Fyg1_8
      go_wp2_with fail
      refine (toS_any s2A s2c s2n s2x w8 (Hs2.out.up B8.out) ls2 (by omega)).mono ?_
      rintro e w9 ⟨A9, c9, rfl, s9, b9⟩
      have Z9 : Hid (w8.heap.size ≤ w9.heap.size) := Lib.hid b9.size
      have B9 : Hid (Below w.heap.size w w9) := Lib.hid (btr B8.out b9)
      have Fxg1_9 := Lib.hid (Fxg1_8.out.up b9)
      clear Fxg1_8
      have Fxs2_9 := Lib.hid (Fxs2_8.out.up b9)
      clear Fxs2_8
      have Fys2_9 := Lib.hid s9
      have Lys2 : Hid (Lies A9 s2n c9 w8.heap.size w9.heap.size) := Lib.hid s9.lies
      have leys2 := s9.le.1
      clear s9 b9
      go_wp2_with fail
      refine (eqS_same _ _ A5 A9 s2n c5 s2n c9 w9 Fxs2_9.out Fys2_9.out (by omega)).mono ?_
      rintro e w10 ⟨rfl, b10⟩
      have Z10 : Hid (w9.heap.size ≤ w10.heap.size) := Lib.hid b10.size
      have B10 : Hid (Below w.heap.size w w10) := Lib.hid (btr B9.out b10)
      have Fxg1_10 := Lib.hid (Fxg1_9.out.up b10)
      clear Fxg1_9
      have Fxs2_10 := Lib.hid (Fxs2_9.out.up b10)
      clear Fxs2_9
      have Fys2_10 := Lib.hid (Fys2_9.out.up b10)
      clear Fys2_9
      clear b10
      clear Fys2_10
      go_wp2_with fail
      go_ret
      exact ⟨rfl, B10.out⟩
    · skip
      have HT0 := Lib.hid hT0
      clear hT0
      go_enter Try.func8, Try.ntmps8
      go_wp2_with fail
      have K0 := szSS2 g1A g1n g1c 1048576 g1v g1x w Hg1.out hmg1 hkg1 (by decide) (by decide)
      refine K0.mono ?_
      rintro e w0 ⟨rfl, rfl⟩
      clear K0
      rw [if_neg (Int.not_le.2 HT0.out)]
      go_wp2
      go_ret
      exact ⟨rfl, Below.refl _ _⟩
  · skip
    have d1 : decide ((1048576 : Int) < s2n) = true := by simp; omega
    go_enter Try.func8, Try.ntmps8
    go_wp2
    go_ret
    exact ⟨rfl, Below.refl _ _⟩
end Go.Proofs.Ytonanelghnjhpaa

/- The program's countBelow, Rank, CountMembersBelow, NextMember. Conditions: at most 1048576 lists of at most 1048576 numbers. -/
namespace Go.Proofs.Ytonanelghnjhpaa
open Go.RowKit

set_option maxHeartbeats 8000000 in
set_option maxRecDepth 100000 in
/-- countBelow, of a whole chain. -/
theorem implCountBelow (base N cp : Nat) (gs : List (List Int)) (M : Nat → Prop) (ch : Ch) (L : Nat → LK) (P : Option Addr) (p : List Int) (w : World) (hc : Ck w base N 0 M ch L) (ho : Orbs N 0 ch L) (hw : Hid (Whole N gs ch)) (h1 : 1 ≤ N) (h2 : N ≤ 20) (hg : Hid (∀ g ∈ gs, Pn N g))
    (hp : RI w w.heap.size P p) (hP : Hid (Pn N p)) :
    Calls Try.prog 75 #[.pointer (some ⟨(L 0).B, 0, none⟩), .slice P N cp] w fun e w' => ∃ (T : Nat) (ok : Bool), e = .returned (.tuple #[.int .i64 (T : Nat), .bool ok]) ∧ Rk N gs p T ∧ (ok = true ↔ Mb gs N p) ∧ Below w.heap.size w w' := by
  have HC := Lib.hid hc
  have HO := Lib.hid ho
  have HP := Lib.hid hp
  have Os := Lib.hid (hw.out.os h1 h2)
  obtain ⟨V, hV, _, hVb⟩ := (hw.out.os h1 h2).ordB hg.out h1 h2
  rename_i hVe
  clear hVe
  have HV := Lib.hid hV
  obtain ⟨b, off, cc, en, x5, hcc, hri⟩ := hc.mover0 hw.out h1
  obtain ⟨x0, x1, x2, x3, x4⟩ := hc.cB (Nat.le_refl _) (show 0 < N by omega)
  have ep : ptr N L 0 = .pointer (some ⟨(L 0).B, 0, none⟩) := if_pos (by omega)
  have Ep := Lib.hid ep
  have R0 := Lib.hid hri
  clear ho hc x1 x2 x4 en ep hri hp hV
  go_enter Try.func75, Try.ntmps75
  have p0 : (0 : Int) ≤ (0 : Nat) := by omega
  have p1 : ((0 : Nat) : Int) < N := by omega
  go_wp2_with fail
  go_quiet (fail)
  have B1 : Hid (Below w.heap.size w (w.drewN nq)) := Lib.hid (pcDrewBelow w nq)
  have R1 := Lib.hid (R0.out.up B1.out)
  go_wp2_with fail
  go_loopg [6, 7, 8] N (fun gg tv mv l wr => ∃ (j c1 T : Nat) (A1 : Option Addr) (m1 : List Int), j ≤ N ∧ N - j ≤ gg ∧ l = ptr N L j ∧ mv = .slice A1 N c1 ∧ tv = .int .i64 (T : Nat) ∧ RI wr wr.heap.size A1 m1 ∧ Mb gs N m1 ∧ Ag j m1 p ∧ Crd (fun q => Mb gs N q ∧ LxI j q p) T ∧ Below w.heap.size w wr)
  case atStart => exact ⟨0, cc, 0, _, idL N, Nat.zero_le _, by omega, Ep.out.symm, rfl, rfl, R1.out, .one, fun t ht => absurd ht (by omega), crd_none fun x h => (by obtain ⟨_, t, ht, _⟩ := h; exact absurd ht (Nat.not_lt_zero _)), B1.out⟩
  case round =>
    clear x0 x3 x5 p0 p1 R0 R1 B1
    obtain ⟨j, c1, T, A1, m1, hjN, hgg, rfl, rfl, rfl, hm, hmb, hag, hT, bel⟩ := hrel
    have Hm := Lib.hid hm
    have Mb1 := Lib.hid hmb
    have Ag1 := Lib.hid hag
    have HT := Lib.hid hT
    have Be := Lib.hid bel
    have C1 := Lib.hid (HC.out.up bel)
    have P1 := Lib.hid (HP.out.up bel)
    clear hm hmb hag hT bel
    by_cases hlt : j < N
    · rw [ptr_at hlt]
      obtain ⟨y0, y1, y2, y3, y4⟩ := C1.out.cB (Nat.zero_le _) hlt
      obtain ⟨pb, po, rfl, hpb, hpc⟩ := P1.out (by rw [hP.out.2]; omega)
      have x6 := hpc j (by rw [hP.out.2]; exact hlt)
      rw [nx_val hP.out.1 (by rw [hP.out.2]; exact hlt)] at x6
      obtain ⟨v, ev⟩ : ∃ v, nx p j = v := ⟨_, rfl⟩
      rw [ev] at x6
      have Ev := Lib.hid ev
      have q1 : (0 : Int) ≤ j := by omega
      have q2 : (j : Int) < N := by omega
      clear hpb hpc ev y1 y2 y3 y4
      go_wp2_with fail
      refine (implValues base N 0 j c1 M ch L gs A1 m1 wr C1.out HO.out hw (Nat.zero_le _) hlt h1 h2 hg Hm.out Mb1).mono ?_
      rintro e w2 ⟨g, n', c', zs, rfl, s2, hn1, hn20, chl, b2⟩
      have S2 := Lib.hid s2
      have Chl := Lib.hid chl
      have Hm2 := Lib.hid (Hm.out.up b2)
      have C2 := Lib.hid (C1.out.up b2)
      have Be2 : Hid (Below w.heap.size w w2) := Lib.hid (btr Be.out b2)
      have Lz : Hid (zs.length = n') := Lib.hid s2.1
      clear s2 b2 y0
      go_wp2_with fail
      refine (implBin _ n' c' zs (v : Nat) w2 S2.out.ri_ Lz (Lib.hid chl.1) (by omega)).mono ?_
      rintro e w3 ⟨K, ok, rfl, hK1, hK2, hK3, hok, b3⟩
      obtain ⟨cn, hcn, hT2⟩ := rank_step Chl.out Os.out hg.out h1 h2 hlt Mb1.out Ag1.out (by rw [Lz.out]; exact hK1) (by rw [Ev.out]; exact hK2) (by rw [Ev.out, Lz.out]; exact hK3) HT.out
      have hTV : T + K * cn ≤ V := crd_sub hT2 HV.out fun x hx => hx.1
      have HT2 := Lib.hid hT2
      have Hok := Lib.hid hok
      have Hm3 := Lib.hid (Hm2.out.up b3)
      have C3 := Lib.hid (C2.out.up b3)
      have Be3 : Hid (Below w.heap.size w w3) := Lib.hid (btr Be2.out b3)
      have z4 := (C3.out.cB (Nat.zero_le _) hlt).2.2.2.2
      have KO := implOrder base N 0 (j + 1) M ch L gs w3 C3.out HO.out hw (Nat.zero_le _) (by omega) h1 h2 hg
      rw [hcn] at KO
      have KOh := Lib.hid KO
      have wK : IntKind.i64.wrap (K : Int) = (K : Int) := by rw [IntKind.wrap_i64]; omega
      obtain ⟨u, hu⟩ : ∃ u, K * cn = u := ⟨_, rfl⟩
      have hu2 : (K : Int) * (cn : Int) = (u : Int) := by rw [← hu, Int.natCast_mul]
      rw [hu] at hTV HT2
      have wu : IntKind.i64.wrap ((K : Int) * (cn : Int)) = (u : Int) := by rw [hu2, IntKind.wrap_i64]; omega
      have wt : IntKind.i64.wrap ((T : Int) + (u : Int)) = ((T + u : Nat) : Int) := by rw [IntKind.wrap_i64]; omega
      clear hK2 hK3 hok hT2 hcn KO chl b3 hu hu2
      rcases ok with _ | _
      · have hno : ¬ (v : Int) ∈ zs := fun h => by have := Hok.out.2 h; cases this
        have Fin : Hid (Rk N gs p (T + u)) := Lib.hid (rank_stop Chl.out hlt Ag1.out (by rw [Ev.out]; exact hno) HT2.out)
        have Nm : Hid (¬ Mb gs N p) := Lib.hid fun hm => hno ((Chl.out.2 _).2 ⟨p, hm, Ag1.out.symm, by rw [Ev.out]⟩)
        clear hno
        go_wp2_with fail
        refine KOh.out.mono ?_
        rintro e w' ⟨rfl, rfl⟩
        go_wp2_with fail
        go_ret2
        exact ⟨_, false, rfl, Fin.out, ⟨fun h => (by cases h), fun h => absurd h Nm.out⟩, Be3.out⟩
      · have hin : (v : Int) ∈ zs := Hok.out.1 rfl
        obtain ⟨y0, hy0, hyv, hry⟩ := hw.out.pick h1 h2 hg.out hlt Mb1.out Chl.out hin
        have Y0 : Hid (y0 < N ∧ ch.rep j y0 ≠ [] ∧ nx m1 y0 = v) := Lib.hid ⟨hy0, hry, by omega⟩
        clear hin hy0 hyv hry
        go_wp2_with fail
        refine KOh.out.mono ?_
        rintro e w' ⟨rfl, rfl⟩
        go_wp2_with fail
        refine (implWith base N 0 j c1 M ch L A1 m1 (v : Nat) w3 C3.out (Nat.zero_le _) hlt (Lib.hid (hw.out.up.rep j (Nat.zero_le _) hlt)) Hm3.out (Lib.hid (Mb1.out.pn hg.out h1 h2))).mono ?_
        rintro e w4 ⟨A4, n4, c4, rfl, (⟨rfl, rfl, rfl, hno⟩ | ⟨g4, y, rfl, rfl, hy, hyv, hyr, hs⟩), b4⟩
        · exact absurd (hno y0 Y0.out.1 (by rw [Y0.out.2.2])) Y0.out.2.1
        · have Pk := hw.out.picked h1 h2 hg.out hlt Mb1.out hyr
          have Mb4 : Hid (Mb gs n4 (compL (ch.rep j y) m1)) := Lib.hid Pk.1
          have Ag4 : Hid (Ag (j + 1) (compL (ch.rep j y) m1) p) := Lib.hid (ag_succ.2 ⟨Pk.2.1.trans Ag1.out, by rw [Pk.2.2, Ev.out]; omega⟩)
          have C4 := Lib.hid (C3.out.up b4)
          have R4 := Lib.hid hs.ri_
          have Be4 : Hid (Below w.heap.size w w4) := Lib.hid (btr Be3.out b4)
          have z5 := (C4.out.cB (Nat.zero_le _) hlt).2.2.2.2
          clear hs b4 hyv hyr Pk z4
          go_wp2_with fail
          go_roundg (n4 - (j + 1))
          case rel => exact ⟨j + 1, c4, T + u, _, _, by omega, by omega, rfl, rfl, rfl, R4.out, Mb4.out, Ag4.out, HT2.out, Be4.out⟩
          case measure => omega
    · obtain rfl : j = N := by omega
      rw [ptr_end (Nat.le_refl _)]
      have Ep2 : Hid (m1 = p) := Lib.hid ((Mb1.out.pn hg.out h1 h2).ext hP.out fun x hx => Ag1.out x hx)
      go_wp2_with fail
      go_ret2
      exact ⟨T, true, rfl, HT.out, ⟨fun _ => Ep2.out ▸ Mb1.out, fun _ => rfl⟩, Be.out⟩

set_option maxHeartbeats 4000000 in
set_option maxRecDepth 100000 in
/-- CountMembersBelow. -/
theorem implCountMembersBelow : CtImsI 31 IsCmb := by
  intro a A n c vs xss P np cp p w g s _
  have HX := Lib.hid g.rr
  have hlx : Hid (xss.length = n) := Lib.hid g.rr.lx
  have hn := g.hn
  have hl := Lib.hid g.hl
  have HP := Lib.hid s.ri
  have lp := Lib.hid s.lp
  have hnp := s.hn
  clear g s
  obtain ⟨ip, hip⟩ : ∃ ip, (decide ((np : Int) = a) && isP p) = ip := ⟨_, rfl⟩
  have Hip := Lib.hid hip
  clear hip
  go_enter Try.func31, Try.ntmps31
  rcases hs : gB a xss with _ | _
  · have Fin : Hid (IsCmb a xss p (-1)) := Lib.hid (.inr ⟨fun h => (by have := h.1; rw [hs] at this; cases this), rfl⟩)
    have Hs := Lib.hid hs
    clear hs
    go_wp2_with (first
      | (go_at_call 56; refine (implGS a A n c vs xss w HX.out hn hl).mono ?_; rintro e w1 ⟨rfl, b1⟩; rw [Hs.out]; have B1 := Lib.hid b1; clear b1))
    go_ret
    exact ⟨_, rfl, Fin.out, B1.out⟩
  · have Hs := Lib.hid hs
    rcases ip with _ | _
    · have Fin : Hid (IsCmb a xss p (-1)) := Lib.hid (.inr ⟨fun h => (by
        have h1 := h.2.1
        have h2 := h.2.2
        have h3 := Hip.out
        rw [lp.out] at h1
        rw [h2] at h3
        simp [h1] at h3), rfl⟩)
      clear hs
      go_wp2_with (first
        | (go_at_call 56; refine (implGS a A n c vs xss w HX.out hn hl).mono ?_; rintro e w1 ⟨rfl, b1⟩; rw [Hs.out]; have B1 := Lib.hid b1; clear b1)
        | (go_at_call 74; refine (implIsPOf a P np cp p false w1 (HP.out.up B1.out) lp (by omega) Hip).mono ?_; rintro e w2 ⟨rfl, b2⟩; have B2 := Lib.hid b2; clear b2))
      go_ret
      exact ⟨_, rfl, Fin.out, btr B1.out B2.out⟩
    · obtain ⟨N, rfl, hN1, hN2, hg8, hpm, hok⟩ := gB_pm hs
      have h3 := Hip.out
      rw [Bool.and_eq_true, decide_eq_true_eq] at h3
      obtain rfl : np = N := by omega
      have PP : Hid (Pn np p) := Lib.hid ⟨isP_iff.1 h3.2, lp.out⟩
      have Hq := Lib.hid h3.2
      have Ok := Lib.hid hok
      have hn8 : n ≤ 8 := by rw [← hlx.out]; exact hg8
      have Vl : Hid (Vld (np : Int) xss p) := Lib.hid ⟨Hs.out, by rw [lp.out], h3.2⟩
      clear hs hpm hok hg8 h3
      go_wp2_with (first
        | (go_at_call 56; refine (implGS np A n c vs xss w HX.out hn hl).mono ?_; rintro e w1 ⟨rfl, b1⟩; rw [Hs.out]; have B1 := Lib.hid b1; clear b1)
        | (go_at_call 74; refine (implIsPOfT P np cp p w1 (HP.out.up B1.out) lp (by omega) Hq).mono ?_; rintro e w2 ⟨rfl, b2⟩; have B2 : Hid (Below w.heap.size w w2) := Lib.hid (btr B1.out b2); clear b2)
        | (go_at_call 57; refine (implChainOf np n c A vs xss w2 (HX.out.up B2.out) hN1 hN2 hn8 Ok).mono ?_; rintro e w3 ⟨ch, L, M, rfl, hc, ho, hw, b3⟩; have W3 := Lib.hid hw; have C3 := Lib.hid hc; have O3 := Lib.hid ho; have B3 : Hid (Below w.heap.size w w3) := Lib.hid (btr B2.out b3); clear hc ho hw b3)
        | (go_at_call 75; fail))
      refine (implCountBelow w2.heap.size np cp xss M ch L P p w3 C3.out O3.out W3 hN1 hN2 (Lib.hid Ok.out) (HP.out.up B3.out) PP).mono ?_
      rintro e w4 ⟨T, ok, rfl, hT, hk, b4⟩
      have HT := Lib.hid hT
      have Hk : Hid (ok = true ↔ Memb (np : Int) xss p) := Lib.hid (hk.trans ⟨fun h => ⟨Hs.out, by rw [lp.out], Hq.out, by rw [Int.toNat_natCast]; exact h⟩, fun h => by have := h.2.2.2; rwa [Int.toNat_natCast] at this⟩)
      have C4 := Lib.hid (C3.out.up b4)
      have B4 : Hid (Below w.heap.size w w4) := Lib.hid (btr B3.out b4)
      have Fin : Hid (IsCmb (np : Int) xss p (T : Nat)) := Lib.hid (.inl ⟨Vl.out, T, by rw [Int.toNat_natCast]; exact hT, rfl⟩)
      clear hT hk b4
      go_wp2_with fail
      go_ret
      exact ⟨_, rfl, Fin.out, B4.out⟩

set_option maxHeartbeats 4000000 in
set_option maxRecDepth 100000 in
/-- Rank. -/
theorem implRank : CtImsI 30 IsRnk := by
  intro a A n c vs xss P np cp p w g s _
  have HX := Lib.hid g.rr
  have hlx : Hid (xss.length = n) := Lib.hid g.rr.lx
  have hn := g.hn
  have hl := Lib.hid g.hl
  have HP := Lib.hid s.ri
  have lp := Lib.hid s.lp
  have hnp := s.hn
  clear g s
  obtain ⟨ip, hip⟩ : ∃ ip, (decide ((np : Int) = a) && isP p) = ip := ⟨_, rfl⟩
  have Hip := Lib.hid hip
  clear hip
  go_enter Try.func30, Try.ntmps30
  rcases hs : gB a xss with _ | _
  · have Fin : Hid (IsRnk a xss p (-1)) := Lib.hid (.inr ⟨fun h => (by have := h.1; rw [hs] at this; cases this), rfl⟩)
    have Hs := Lib.hid hs
    clear hs
    go_wp2_with (first
      | (go_at_call 56; refine (implGS a A n c vs xss w HX.out hn hl).mono ?_; rintro e w1 ⟨rfl, b1⟩; rw [Hs.out]; have B1 := Lib.hid b1; clear b1))
    go_ret
    exact ⟨_, rfl, Fin.out, B1.out⟩
  · have Hs := Lib.hid hs
    rcases ip with _ | _
    · have Fin : Hid (IsRnk a xss p (-1)) := Lib.hid (.inr ⟨fun h => (by
        have h1 := h.2.1
        have h2 := h.2.2.1
        have h3 := Hip.out
        rw [lp.out] at h1
        rw [h2] at h3
        simp [h1] at h3), rfl⟩)
      clear hs
      go_wp2_with (first
        | (go_at_call 56; refine (implGS a A n c vs xss w HX.out hn hl).mono ?_; rintro e w1 ⟨rfl, b1⟩; rw [Hs.out]; have B1 := Lib.hid b1; clear b1)
        | (go_at_call 74; refine (implIsPOf a P np cp p false w1 (HP.out.up B1.out) lp (by omega) Hip).mono ?_; rintro e w2 ⟨rfl, b2⟩; have B2 := Lib.hid b2; clear b2))
      go_ret
      exact ⟨_, rfl, Fin.out, btr B1.out B2.out⟩
    · obtain ⟨N, rfl, hN1, hN2, hg8, hpm, hok⟩ := gB_pm hs
      have h3 := Hip.out
      rw [Bool.and_eq_true, decide_eq_true_eq] at h3
      obtain rfl : np = N := by omega
      have PP : Hid (Pn np p) := Lib.hid ⟨isP_iff.1 h3.2, lp.out⟩
      have Hq := Lib.hid h3.2
      have Ok := Lib.hid hok
      have hn8 : n ≤ 8 := by rw [← hlx.out]; exact hg8
      have Vl : Hid (Vld (np : Int) xss p) := Lib.hid ⟨Hs.out, by rw [lp.out], h3.2⟩
      clear hs hpm hok hg8 h3
      go_wp2_with (first
        | (go_at_call 56; refine (implGS np A n c vs xss w HX.out hn hl).mono ?_; rintro e w1 ⟨rfl, b1⟩; rw [Hs.out]; have B1 := Lib.hid b1; clear b1)
        | (go_at_call 74; refine (implIsPOfT P np cp p w1 (HP.out.up B1.out) lp (by omega) Hq).mono ?_; rintro e w2 ⟨rfl, b2⟩; have B2 : Hid (Below w.heap.size w w2) := Lib.hid (btr B1.out b2); clear b2)
        | (go_at_call 57; refine (implChainOf np n c A vs xss w2 (HX.out.up B2.out) hN1 hN2 hn8 Ok).mono ?_; rintro e w3 ⟨ch, L, M, rfl, hc, ho, hw, b3⟩; have W3 := Lib.hid hw; have C3 := Lib.hid hc; have O3 := Lib.hid ho; have B3 : Hid (Below w.heap.size w w3) := Lib.hid (btr B2.out b3); clear hc ho hw b3)
        | (go_at_call 75; fail))
      refine (implCountBelow w2.heap.size np cp xss M ch L P p w3 C3.out O3.out W3 hN1 hN2 (Lib.hid Ok.out) (HP.out.up B3.out) PP).mono ?_
      rintro e w4 ⟨T, ok, rfl, hT, hk, b4⟩
      have HT := Lib.hid hT
      have Hk : Hid (ok = true ↔ Memb (np : Int) xss p) := Lib.hid (hk.trans ⟨fun h => ⟨Hs.out, by rw [lp.out], Hq.out, by rw [Int.toNat_natCast]; exact h⟩, fun h => by have := h.2.2.2; rwa [Int.toNat_natCast] at this⟩)
      have C4 := Lib.hid (C3.out.up b4)
      have B4 : Hid (Below w.heap.size w w4) := Lib.hid (btr B3.out b4)
      clear hT hk b4
      rcases ok with _ | _
      · have Fin : Hid (IsRnk (np : Int) xss p (-1)) := Lib.hid (.inr ⟨fun h => (by have := Hk.out.2 h; cases this), rfl⟩)
        go_wp2_with fail
        go_ret
        exact ⟨_, rfl, Fin.out, B4.out⟩
      · have Fin : Hid (IsRnk (np : Int) xss p (T : Nat)) := Lib.hid (.inl ⟨Hk.out.1 rfl, T, by rw [Int.toNat_natCast]; exact HT.out, rfl⟩)
        go_wp2_with fail
        go_ret
        exact ⟨_, rfl, Fin.out, B4.out⟩

set_option maxHeartbeats 4000000 in
set_option maxRecDepth 100000 in
/-- NextMember. -/
theorem implNextMember : CtImsP 29 IsNxt := by
  intro a A n c vs xss P np cp p w g s _
  have HX := Lib.hid g.rr
  have hlx : Hid (xss.length = n) := Lib.hid g.rr.lx
  have hn := g.hn
  have hl := Lib.hid g.hl
  have HP := Lib.hid s.ri
  have lp := Lib.hid s.lp
  have hnp := s.hn
  clear g s
  obtain ⟨ip, hip⟩ : ∃ ip, (decide ((np : Int) = a) && isP p) = ip := ⟨_, rfl⟩
  have Hip := Lib.hid hip
  clear hip
  go_enter Try.func29, Try.ntmps29
  rcases hs : gB a xss with _ | _
  · have Fin : Hid (IsNxt a xss p [] false) := Lib.hid (.inr ⟨fun h => (by have := h.1; rw [hs] at this; cases this), rfl, rfl⟩)
    have Hs := Lib.hid hs
    clear hs
    go_wp2_with (first
      | (go_at_call 56; refine (implGS a A n c vs xss w HX.out hn hl).mono ?_; rintro e w1 ⟨rfl, b1⟩; rw [Hs.out]; have B1 := Lib.hid b1; clear b1))
    go_ret2
    exact ⟨_, _, _, _, _, rfl, Slc.nil_, Fin.out, B1.out⟩
  · have Hs := Lib.hid hs
    rcases ip with _ | _
    · have Fin : Hid (IsNxt a xss p [] false) := Lib.hid (.inr ⟨fun h => (by
        have h1 := h.2.1
        have h2 := h.2.2
        have h3 := Hip.out
        rw [lp.out] at h1
        rw [h2] at h3
        simp [h1] at h3), rfl, rfl⟩)
      clear hs
      go_wp2_with (first
        | (go_at_call 56; refine (implGS a A n c vs xss w HX.out hn hl).mono ?_; rintro e w1 ⟨rfl, b1⟩; rw [Hs.out]; have B1 := Lib.hid b1; clear b1)
        | (go_at_call 74; refine (implIsPOf a P np cp p false w1 (HP.out.up B1.out) lp (by omega) Hip).mono ?_; rintro e w2 ⟨rfl, b2⟩; have B2 := Lib.hid b2; clear b2))
      go_ret2
      exact ⟨_, _, _, _, _, rfl, Slc.nil_, Fin.out, btr B1.out B2.out⟩
    · obtain ⟨N, rfl, hN1, hN2, hg8, hpm, hok⟩ := gB_pm hs
      have h3 := Hip.out
      rw [Bool.and_eq_true, decide_eq_true_eq] at h3
      obtain rfl : np = N := by omega
      have PP : Hid (Pn np p) := Lib.hid ⟨isP_iff.1 h3.2, lp.out⟩
      have Hq := Lib.hid h3.2
      have Ok := Lib.hid hok
      have hn8 : n ≤ 8 := by rw [← hlx.out]; exact hg8
      have Vl : Hid (Vld (np : Int) xss p) := Lib.hid ⟨Hs.out, by rw [lp.out], h3.2⟩
      clear hs hpm hok hg8 h3
      go_wp2_with (first
        | (go_at_call 56; refine (implGS np A n c vs xss w HX.out hn hl).mono ?_; rintro e w1 ⟨rfl, b1⟩; rw [Hs.out]; have B1 := Lib.hid b1; clear b1)
        | (go_at_call 74; refine (implIsPOfT P np cp p w1 (HP.out.up B1.out) lp (by omega) Hq).mono ?_; rintro e w2 ⟨rfl, b2⟩; have B2 : Hid (Below w.heap.size w w2) := Lib.hid (btr B1.out b2); clear b2)
        | (go_at_call 57; refine (implChainOf np n c A vs xss w2 (HX.out.up B2.out) hN1 hN2 hn8 Ok).mono ?_; rintro e w3 ⟨ch, L, M, rfl, hc, ho, hw, b3⟩; have W3 := Lib.hid hw; have C3 := Lib.hid hc; have O3 := Lib.hid ho; have B3 : Hid (Below w.heap.size w w3) := Lib.hid (btr B2.out b3); clear hc ho hw b3)
        | (go_at_call 75; fail))
      refine (implCountBelow w2.heap.size np cp xss M ch L P p w3 C3.out O3.out W3 hN1 hN2 (Lib.hid Ok.out) (HP.out.up B3.out) PP).mono ?_
      rintro e w4 ⟨T, ok, rfl, hT, hk, b4⟩
      have HT := Lib.hid hT
      have Hk : Hid (ok = true ↔ Memb (np : Int) xss p) := Lib.hid (hk.trans ⟨fun h => ⟨Hs.out, by rw [lp.out], Hq.out, by rw [Int.toNat_natCast]; exact h⟩, fun h => by have := h.2.2.2; rwa [Int.toNat_natCast] at this⟩)
      have C4 := Lib.hid (C3.out.up b4)
      have B4 : Hid (Below w.heap.size w w4) := Lib.hid (btr B3.out b4)
      obtain ⟨V, hV, _, hVb⟩ := (W3.out.os hN1 hN2).ordB Ok.out hN1 hN2
      rename_i hVe
      have hTV : T ≤ V := crd_sub hT hV fun x hx => hx.1
      clear hT hk b4 hV hVe
      rcases ok with _ | _
      · go_wp2_with fail
        refine (implWithRank w2.heap.size np xss M ch L (T : Nat) w4 C4.out O3.out W3 hN1 hN2 (Lib.hid Ok.out) Hs (by unfold I64; omega)).mono ?_
        rintro e w5 ⟨A5, m5, c5, zs, ok5, rfl, s5, r5, b5⟩
        have S5 : Hid (Slc w5 w.heap.size A5 m5 c5 zs) := Lib.hid (s5.mono B4.out.size)
        have Fin : Hid (IsNxt (np : Int) xss p zs ok5) := Lib.hid (.inl ⟨Vl.out, T, false, by rw [Int.toNat_natCast]; exact HT.out, Hk.out, by simpa using r5⟩)
        have B5 : Hid (Below w.heap.size w w5) := Lib.hid (btr B4.out b5)
        clear s5 r5 b5
        go_wp2_with fail
        go_ret2
        exact ⟨_, _, _, _, _, rfl, S5.out, Fin.out, B5.out⟩
      · have wT : IntKind.i64.wrap ((T : Int) + 1) = ((T + 1 : Nat) : Int) := by rw [IntKind.wrap_i64]; omega
        go_wp2_with fail
        refine (implWithRank w2.heap.size np xss M ch L ((T + 1 : Nat) : Int) w4 C4.out O3.out W3 hN1 hN2 (Lib.hid Ok.out) Hs (by unfold I64; omega)).mono ?_
        rintro e w5 ⟨A5, m5, c5, zs, ok5, rfl, s5, r5, b5⟩
        have S5 : Hid (Slc w5 w.heap.size A5 m5 c5 zs) := Lib.hid (s5.mono B4.out.size)
        have Fin : Hid (IsNxt (np : Int) xss p zs ok5) := Lib.hid (.inl ⟨Vl.out, T, true, by rw [Int.toNat_natCast]; exact HT.out, by simpa using Hk.out, by simpa using r5⟩)
        have B5 : Hid (Below w.heap.size w w5) := Lib.hid (btr B4.out b5)
        clear s5 r5 b5
        go_wp2_with fail
        go_ret2
        exact ⟨_, _, _, _, _, rfl, S5.out, Fin.out, B5.out⟩
end Go.Proofs.Ytonanelghnjhpaa

/- The walk of the law FnExactCountMembersBelow: it returns true at every input, and writes nothing that was there. No condition but the program's own contract. -/
namespace Go.Proofs.Ytonanelghnjhpaa
open Go.RowKit

set_option maxHeartbeats 4000000 in
set_option maxRecDepth 100000 in
/-- The law FnExactCountMembersBelow. -/
theorem lawCountMembersBelow (IM : CtImsI 31 IsCmb) (i0 : Int) (g1A : Option Addr) (g1n g1c : Nat) (g1v : List SV) (g1x : List (List Int)) (s2A : Option Addr) (s2n s2c : Nat) (s2x : List Int) (w : World) (wfi0 : I64 i0) (hg1 : RR w w.heap.size g1A g1n g1v g1x) (hmg1 : g1n ≤ maxLen) (hkg1 : Hid (∀ i, i < g1n → (g1v.getD i sd0).2.1 ≤ maxLen)) (hs2 : RI w w.heap.size s2A s2x) (ls2 : Hid (s2x.length = s2n)) :
    Calls Try.prog 12 #[.int .i64 i0, .slice g1A g1n g1c, .slice s2A s2n s2c] w fun e w' => e = .returned (.bool true) ∧ Below w.heap.size w w' := by
  have Hg1 := Lib.hid hg1
  have hlxg1 := Lib.hid hg1.lx
  have hllg1 := Lib.hid hg1.lens
  have Hs2 := Lib.hid hs2
  clear hg1 hs2
  by_cases hns2 : s2n ≤ 1048576
  · skip
    by_cases hT0 : ((g1n + tot g1v g1n : Nat) : Int) ≤ (1048576 : Int)
    · skip
      have HT0 := Lib.hid hT0
      obtain ⟨LE, eLE⟩ : ∃ L : Int, (1048576 : Int) - ((g1n + tot g1v g1n : Nat) : Int) = L := ⟨_, rfl⟩
      have hLE : ¬ LE < 0 := by omega
      have dLE : decide (LE < 0) = false := by simp; omega
      have ELE := Lib.hid eLE
      clear eLE
      have hng1 : g1n ≤ 1048576 := by omega
      have KTg1 : Hid (tot g1v g1n ≤ 1048576) := Lib.hid (by omega)
      have hlg1 : Hid (∀ i, i < g1n → (g1v.getD i sd0).2.1 ≤ 1048576) := Lib.hid fun i hi => by have := tot_row (vs := g1v) hi; have := KTg1.out; omega
      have hylg1 : Hid (∀ i, i < g1n → (g1x.getD i []).length ≤ 1048576) := Lib.hid fun i hi => by rw [hllg1.out i hi]; exact hlg1.out i hi
      clear hT0 
      go_enter Try.func12, Try.ntmps12
      go_wp2_with fail
      have K0 := szSS2 g1A g1n g1c 1048576 g1v g1x w Hg1.out hmg1 hkg1 (by decide) (by decide)
      refine K0.mono ?_
      rintro e w0 ⟨rfl, rfl⟩
      clear K0
      rw [if_pos HT0.out]
      rw [ELE.out]
      go_wp2_with fail
      refine (toSS g1A g1n g1c g1v g1x w Hg1.out hng1 hlg1).mono ?_
      rintro e w1 ⟨A1, c1, us1, rfl, s1, q1, b1⟩
      have Z1 : Hid (w.heap.size ≤ w1.heap.size) := Lib.hid b1.size
      have B1 : Hid (Below w.heap.size w w1) := Lib.hid b1
      have Ftg1_1 := Lib.hid s1
      have Ltg1 : Hid (Lies A1 g1n c1 w.heap.size w1.heap.size) := Lib.hid s1.lt_
      have Itg1 : Hid (∀ t, t < g1n → ∀ k, (sval (us1.getD t sd0)).ownBlock = some k → w.heap.size ≤ k ∧ k < w1.heap.size) := Lib.hid fun t ht => (s1.row t ht).lt_
      have Qtg1 := Lib.hid q1
      have hltg1 : Hid (∀ i, i < g1n → (us1.getD i sd0).2.1 ≤ 1048576) := Lib.hid fun i hi => by rw [q1 i hi]; exact hlg1.out i hi
      clear s1 b1 q1
      go_wp2_with fail
      refine (toS_any s2A s2c s2n s2x w1 (Hs2.out.up B1.out) ls2 (by omega)).mono ?_
      rintro e w2 ⟨A2, c2, rfl, s2, b2⟩
      have Z2 : Hid (w1.heap.size ≤ w2.heap.size) := Lib.hid b2.size
      have B2 : Hid (Below w.heap.size w w2) := Lib.hid (btr B1.out b2)
      have Ftg1_2 := Lib.hid (Ftg1_1.out.up b2)
      clear Ftg1_1
      have Fts2_2 := Lib.hid s2
      have Lts2 : Hid (Lies A2 s2n c2 w1.heap.size w2.heap.size) := Lib.hid s2.lies
      have lets2 := s2.le.1
      clear s2 b2
      go_wp2_with fail
      have K3 := ctCmb i0 A1 g1n c1 us1 g1x A2 s2n c2 s2x w2 ⟨Ftg1_2.out.rr, hng1, hltg1.out⟩ ⟨Fts2_2.out.ri_, ls2.out, hns2, lets2⟩ wfi0
      refine K3.mono ?_
      clear K3
      rintro e w3 ⟨v3, rfl, r3, b3⟩
      have Z3 : Hid (w2.heap.size ≤ w3.heap.size) := Lib.hid b3.size
      have B3 : Hid (Below w.heap.size w w3) := Lib.hid (btr B2.out b3)
      have Ftg1_3 := Lib.hid (Ftg1_2.out.up b3)
      clear Ftg1_2
      have Fts2_3 := Lib.hid (Fts2_2.out.up b3)
      clear Fts2_2
      have HR := Lib.hid r3
      clear r3
      clear b3
      clear Ftg1_3
      clear Fts2_3
      go_wp2_with fail
      refine (toSS g1A g1n g1c g1v g1x w3 (Hg1.out.up B3.out) hng1 hlg1).mono ?_
      rintro e w4 ⟨A4, c4, us4, rfl, s4, q4, b4⟩
      have Z4 : Hid (w3.heap.size ≤ w4.heap.size) := Lib.hid b4.size
      have B4 : Hid (Below w.heap.size w w4) := Lib.hid (btr B3.out b4)
      have Fxg1_4 := Lib.hid s4
      have Lxg1 : Hid (Lies A4 g1n c4 w3.heap.size w4.heap.size) := Lib.hid s4.lt_
      have Ixg1 : Hid (∀ t, t < g1n → ∀ k, (sval (us4.getD t sd0)).ownBlock = some k → w3.heap.size ≤ k ∧ k < w4.heap.size) := Lib.hid fun t ht => (s4.row t ht).lt_
      have Qxg1 := Lib.hid q4
      have hlxg1 : Hid (∀ i, i < g1n → (us4.getD i sd0).2.1 ≤ 1048576) := Lib.hid fun i hi => by rw [q4 i hi]; exact hlg1.out i hi
      clear s4 b4 q4
      go_wp2_with fail
      refine (toS_any s2A s2c s2n s2x w4 (Hs2.out.up B4.out) ls2 (by omega)).mono ?_
      rintro e w5 ⟨A5, c5, rfl, s5, b5⟩
      have Z5 : Hid (w4.heap.size ≤ w5.heap.size) := Lib.hid b5.size
      have B5 : Hid (Below w.heap.size w w5) := Lib.hid (btr B4.out b5)
      have Fxg1_5 := Lib.hid (Fxg1_4.out.up b5)
      clear Fxg1_4
      have Fxs2_5 := Lib.hid s5
      have Lxs2 : Hid (Lies A5 s2n c5 w4.heap.size w5.heap.size) := Lib.hid s5.lies
      have lexs2 := s5.le.1
      clear s5 b5
      go_wp2_with fail
      have K6 := IM i0 A4 g1n c4 us4 g1x A5 s2n c5 s2x w5 ⟨Fxg1_5.out.rr, hng1, hlxg1.out⟩ ⟨Fxs2_5.out.ri_, ls2.out, hns2, lexs2⟩ wfi0
      refine K6.mono ?_
      clear K6
      rintro e w6 ⟨v6, rfl, r6, b6⟩
      have Z6 : Hid (w5.heap.size ≤ w6.heap.size) := Lib.hid b6.size
      have B6 : Hid (Below w.heap.size w w6) := Lib.hid (btr B5.out b6)
      have Fxg1_6 := Lib.hid (Fxg1_5.out.up b6)
      clear Fxg1_5
      have Fxs2_6 := Lib.hid (Fxs2_5.out.up b6)
      clear Fxs2_5
      have e6 := HR.out.uniq r6
      subst e6
      clear r6
      clear b6
      go_wp2_with fail
      refine (toSS g1A g1n g1c g1v g1x w6 (Hg1.out.up B6.out) hng1 hlg1).mono ?_
      rintro e w7 ⟨A7, c7, us7, rfl, s7, q7, b7⟩
      have Z7 : Hid (w6.heap.size ≤ w7.heap.size) := Lib.hid b7.size
      have B7 : Hid (Below w.heap.size w w7) := Lib.hid (btr B6.out b7)
      have Fxg1_7 := Lib.hid (Fxg1_6.out.up b7)
      clear Fxg1_6
      have Fxs2_7 := Lib.hid (Fxs2_6.out.up b7)
      clear Fxs2_6
      have Fyg1_7 := Lib.hid s7
      have Lyg1 : Hid (Lies A7 g1n c7 w6.heap.size w7.heap.size) := Lib.hid s7.lt_
      have Iyg1 : Hid (∀ t, t < g1n → ∀ k, (sval (us7.getD t sd0)).ownBlock = some k → w6.heap.size ≤ k ∧ k < w7.heap.size) := Lib.hid fun t ht => (s7.row t ht).lt_
      have Qyg1 := Lib.hid q7
      have hlyg1 : Hid (∀ i, i < g1n → (us7.getD i sd0).2.1 ≤ 1048576) := Lib.hid fun i hi => by rw [q7 i hi]; exact hlg1.out i hi
      clear s7 b7 q7
      go_wp2_with fail
      refine (eqRR_same A4 A7 g1n c4 g1n c7 us4 us7 _ w7 Fxg1_7.out.rr Fyg1_7.out.rr (by omega) hylg1).mono ?_
      rintro e w8 ⟨rfl, b8⟩
      have Z8 : Hid (w7.heap.size ≤ w8.heap.size) := Lib.hid b8.size
      have B8 : Hid (Below w.heap.size w w8) := Lib.hid (btr B7.out b8)
      have Fxg1_8 := Lib.hid (Fxg1_7.out.up b8)
      clear Fxg1_7
      have Fxs2_8 := Lib.hid (Fxs2_7.out.up b8)
      clear Fxs2_7
      have Fyg1_8 := Lib.hid (Fyg1_7.out.up b8)
      clear Fyg1_7
      clear b8
      clear Fyg1_8
      go_wp2_with fail
      refine (toS_any s2A s2c s2n s2x w8 (Hs2.out.up B8.out) ls2 (by omega)).mono ?_
      rintro e w9 ⟨A9, c9, rfl, s9, b9⟩
      have Z9 : Hid (w8.heap.size ≤ w9.heap.size) := Lib.hid b9.size
      have B9 : Hid (Below w.heap.size w w9) := Lib.hid (btr B8.out b9)
      have Fxg1_9 := Lib.hid (Fxg1_8.out.up b9)
      clear Fxg1_8
      have Fxs2_9 := Lib.hid (Fxs2_8.out.up b9)
      clear Fxs2_8
      have Fys2_9 := Lib.hid s9
      have Lys2 : Hid (Lies A9 s2n c9 w8.heap.size w9.heap.size) := Lib.hid s9.lies
      have leys2 := s9.le.1
      clear s9 b9
      go_wp2_with fail
      refine (eqS_same _ _ A5 A9 s2n c5 s2n c9 w9 Fxs2_9.out Fys2_9.out (by omega)).mono ?_
      rintro e w10 ⟨rfl, b10⟩
      have Z10 : Hid (w9.heap.size ≤ w10.heap.size) := Lib.hid b10.size
      have B10 : Hid (Below w.heap.size w w10) := Lib.hid (btr B9.out b10)
      have Fxg1_10 := Lib.hid (Fxg1_9.out.up b10)
      clear Fxg1_9
      have Fxs2_10 := Lib.hid (Fxs2_9.out.up b10)
      clear Fxs2_9
      have Fys2_10 := Lib.hid (Fys2_9.out.up b10)
      clear Fys2_9
      clear b10
      clear Fys2_10
      go_wp2_with fail
      go_ret
      exact ⟨rfl, B10.out⟩
    · skip
      have HT0 := Lib.hid hT0
      clear hT0
      go_enter Try.func12, Try.ntmps12
      go_wp2_with fail
      have K0 := szSS2 g1A g1n g1c 1048576 g1v g1x w Hg1.out hmg1 hkg1 (by decide) (by decide)
      refine K0.mono ?_
      rintro e w0 ⟨rfl, rfl⟩
      clear K0
      rw [if_neg (Int.not_le.2 HT0.out)]
      go_wp2
      go_ret
      exact ⟨rfl, Below.refl _ _⟩
  · skip
    have d1 : decide ((1048576 : Int) < s2n) = true := by simp; omega
    go_enter Try.func12, Try.ntmps12
    go_wp2
    go_ret
    exact ⟨rfl, Below.refl _ _⟩
end Go.Proofs.Ytonanelghnjhpaa

/- The walk of the law FnExactNextMember: it returns true at every input, and writes nothing that was there. No condition but the program's own contract. -/
namespace Go.Proofs.Ytonanelghnjhpaa
open Go.RowKit

set_option maxHeartbeats 4000000 in
set_option maxRecDepth 100000 in
/-- The law FnExactNextMember. -/
theorem lawNextMember (IM : CtImsP 29 IsNxt) (i0 : Int) (g1A : Option Addr) (g1n g1c : Nat) (g1v : List SV) (g1x : List (List Int)) (s2A : Option Addr) (s2n s2c : Nat) (s2x : List Int) (w : World) (wfi0 : I64 i0) (hg1 : RR w w.heap.size g1A g1n g1v g1x) (hmg1 : g1n ≤ maxLen) (hkg1 : Hid (∀ i, i < g1n → (g1v.getD i sd0).2.1 ≤ maxLen)) (hs2 : RI w w.heap.size s2A s2x) (ls2 : Hid (s2x.length = s2n)) :
    Calls Try.prog 9 #[.int .i64 i0, .slice g1A g1n g1c, .slice s2A s2n s2c] w fun e w' => e = .returned (.bool true) ∧ Below w.heap.size w w' := by
  have Hg1 := Lib.hid hg1
  have hlxg1 := Lib.hid hg1.lx
  have hllg1 := Lib.hid hg1.lens
  have Hs2 := Lib.hid hs2
  clear hg1 hs2
  by_cases hns2 : s2n ≤ 1048576
  · skip
    by_cases hT0 : ((g1n + tot g1v g1n : Nat) : Int) ≤ (1048576 : Int)
    · skip
      have HT0 := Lib.hid hT0
      obtain ⟨LE, eLE⟩ : ∃ L : Int, (1048576 : Int) - ((g1n + tot g1v g1n : Nat) : Int) = L := ⟨_, rfl⟩
      have hLE : ¬ LE < 0 := by omega
      have dLE : decide (LE < 0) = false := by simp; omega
      have ELE := Lib.hid eLE
      clear eLE
      have hng1 : g1n ≤ 1048576 := by omega
      have KTg1 : Hid (tot g1v g1n ≤ 1048576) := Lib.hid (by omega)
      have hlg1 : Hid (∀ i, i < g1n → (g1v.getD i sd0).2.1 ≤ 1048576) := Lib.hid fun i hi => by have := tot_row (vs := g1v) hi; have := KTg1.out; omega
      have hylg1 : Hid (∀ i, i < g1n → (g1x.getD i []).length ≤ 1048576) := Lib.hid fun i hi => by rw [hllg1.out i hi]; exact hlg1.out i hi
      clear hT0 
      go_enter Try.func9, Try.ntmps9
      go_wp2_with fail
      have K0 := szSS2 g1A g1n g1c 1048576 g1v g1x w Hg1.out hmg1 hkg1 (by decide) (by decide)
      refine K0.mono ?_
      rintro e w0 ⟨rfl, rfl⟩
      clear K0
      rw [if_pos HT0.out]
      rw [ELE.out]
      go_wp2_with fail
      refine (toSS g1A g1n g1c g1v g1x w Hg1.out hng1 hlg1).mono ?_
      rintro e w1 ⟨A1, c1, us1, rfl, s1, q1, b1⟩
      have Z1 : Hid (w.heap.size ≤ w1.heap.size) := Lib.hid b1.size
      have B1 : Hid (Below w.heap.size w w1) := Lib.hid b1
      have Ftg1_1 := Lib.hid s1
      have Ltg1 : Hid (Lies A1 g1n c1 w.heap.size w1.heap.size) := Lib.hid s1.lt_
      have Itg1 : Hid (∀ t, t < g1n → ∀ k, (sval (us1.getD t sd0)).ownBlock = some k → w.heap.size ≤ k ∧ k < w1.heap.size) := Lib.hid fun t ht => (s1.row t ht).lt_
      have Qtg1 := Lib.hid q1
      have hltg1 : Hid (∀ i, i < g1n → (us1.getD i sd0).2.1 ≤ 1048576) := Lib.hid fun i hi => by rw [q1 i hi]; exact hlg1.out i hi
      clear s1 b1 q1
      go_wp2_with fail
      refine (toS_any s2A s2c s2n s2x w1 (Hs2.out.up B1.out) ls2 (by omega)).mono ?_
      rintro e w2 ⟨A2, c2, rfl, s2, b2⟩
      have Z2 : Hid (w1.heap.size ≤ w2.heap.size) := Lib.hid b2.size
      have B2 : Hid (Below w.heap.size w w2) := Lib.hid (btr B1.out b2)
      have Ftg1_2 := Lib.hid (Ftg1_1.out.up b2)
      clear Ftg1_1
      have Fts2_2 := Lib.hid s2
      have Lts2 : Hid (Lies A2 s2n c2 w1.heap.size w2.heap.size) := Lib.hid s2.lies
      have lets2 := s2.le.1
      clear s2 b2
      go_wp2_with fail
      have K3 := ctNxt i0 A1 g1n c1 us1 g1x A2 s2n c2 s2x w2 ⟨Ftg1_2.out.rr, hng1, hltg1.out⟩ ⟨Fts2_2.out.ri_, ls2.out, hns2, lets2⟩ wfi0
      refine K3.mono ?_
      clear K3
      rintro e w3 ⟨A3, n3, c3, z3, ok3, rfl, s3, r3, b3⟩
      have m3 : n3 ≤ 1048576 := by have := IsNxt.len r3; have := s3.1; omega
      have Z3 : Hid (w2.heap.size ≤ w3.heap.size) := Lib.hid b3.size
      have B3 : Hid (Below w.heap.size w w3) := Lib.hid (btr B2.out b3)
      have Ftg1_3 := Lib.hid (Ftg1_2.out.up b3)
      clear Ftg1_2
      have Fts2_3 := Lib.hid (Fts2_2.out.up b3)
      clear Fts2_2
      have HR := Lib.hid r3
      clear r3
      have FW_3 := Lib.hid s3
      have LW : Hid (Lies A3 n3 c3 w2.heap.size w3.heap.size) := Lib.hid s3.lies
      clear s3 b3
      clear Ftg1_3
      clear Fts2_3
      go_wp2_with fail
      refine (toSS g1A g1n g1c g1v g1x w3 (Hg1.out.up B3.out) hng1 hlg1).mono ?_
      rintro e w4 ⟨A4, c4, us4, rfl, s4, q4, b4⟩
      have Z4 : Hid (w3.heap.size ≤ w4.heap.size) := Lib.hid b4.size
      have B4 : Hid (Below w.heap.size w w4) := Lib.hid (btr B3.out b4)
      have FW_4 := Lib.hid (FW_3.out.up b4)
      clear FW_3
      have Fxg1_4 := Lib.hid s4
      have Lxg1 : Hid (Lies A4 g1n c4 w3.heap.size w4.heap.size) := Lib.hid s4.lt_
      have Ixg1 : Hid (∀ t, t < g1n → ∀ k, (sval (us4.getD t sd0)).ownBlock = some k → w3.heap.size ≤ k ∧ k < w4.heap.size) := Lib.hid fun t ht => (s4.row t ht).lt_
      have Qxg1 := Lib.hid q4
      have hlxg1 : Hid (∀ i, i < g1n → (us4.getD i sd0).2.1 ≤ 1048576) := Lib.hid fun i hi => by rw [q4 i hi]; exact hlg1.out i hi
      clear s4 b4 q4
      go_wp2_with fail
      refine (toS_any s2A s2c s2n s2x w4 (Hs2.out.up B4.out) ls2 (by omega)).mono ?_
      rintro e w5 ⟨A5, c5, rfl, s5, b5⟩
      have Z5 : Hid (w4.heap.size ≤ w5.heap.size) := Lib.hid b5.size
      have B5 : Hid (Below w.heap.size w w5) := Lib.hid (btr B4.out b5)
      have FW_5 := Lib.hid (FW_4.out.up b5)
      clear FW_4
      have Fxg1_5 := Lib.hid (Fxg1_4.out.up b5)
      clear Fxg1_4
      have Fxs2_5 := Lib.hid s5
      have Lxs2 : Hid (Lies A5 s2n c5 w4.heap.size w5.heap.size) := Lib.hid s5.lies
      have lexs2 := s5.le.1
      clear s5 b5
      go_wp2_with fail
      have K6 := IM i0 A4 g1n c4 us4 g1x A5 s2n c5 s2x w5 ⟨Fxg1_5.out.rr, hng1, hlxg1.out⟩ ⟨Fxs2_5.out.ri_, ls2.out, hns2, lexs2⟩ wfi0
      refine K6.mono ?_
      clear K6
      rintro e w6 ⟨A6, n6, c6, z6, ok6, rfl, s6, r6, b6⟩
      have m6 : n6 ≤ 1048576 := by have := IsNxt.len r6; have := s6.1; omega
      have Z6 : Hid (w5.heap.size ≤ w6.heap.size) := Lib.hid b6.size
      have B6 : Hid (Below w.heap.size w w6) := Lib.hid (btr B5.out b6)
      have FW_6 := Lib.hid (FW_5.out.up b6)
      clear FW_5
      have Fxg1_6 := Lib.hid (Fxg1_5.out.up b6)
      clear Fxg1_5
      have Fxs2_6 := Lib.hid (Fxs2_5.out.up b6)
      clear Fxs2_5
      obtain ⟨e6, f6⟩ := HR.out.uniq r6
      subst e6 f6
      clear r6
      have FG_6 := Lib.hid s6
      have LG : Hid (Lies A6 n6 c6 w5.heap.size w6.heap.size) := Lib.hid s6.lies
      clear s6 b6
      go_wp2_with fail
      refine (eqS_same _ _ A6 A3 n6 c6 n3 c3 w6 FG_6.out FW_6.out (by omega)).mono ?_
      rintro e w7 ⟨rfl, b7⟩
      have Z7 : Hid (w6.heap.size ≤ w7.heap.size) := Lib.hid b7.size
      have B7 : Hid (Below w.heap.size w w7) := Lib.hid (btr B6.out b7)
      have FW_7 := Lib.hid (FW_6.out.up b7)
      clear FW_6
      have Fxg1_7 := Lib.hid (Fxg1_6.out.up b7)
      clear Fxg1_6
      have Fxs2_7 := Lib.hid (Fxs2_6.out.up b7)
      clear Fxs2_6
      have FG_7 := Lib.hid (FG_6.out.up b7)
      clear FG_6
      clear b7
      go_wp2_with fail
      refine (toSS g1A g1n g1c g1v g1x w7 (Hg1.out.up B7.out) hng1 hlg1).mono ?_
      rintro e w8 ⟨A8, c8, us8, rfl, s8, q8, b8⟩
      have Z8 : Hid (w7.heap.size ≤ w8.heap.size) := Lib.hid b8.size
      have B8 : Hid (Below w.heap.size w w8) := Lib.hid (btr B7.out b8)
      have FW_8 := Lib.hid (FW_7.out.up b8)
      clear FW_7
      have Fxg1_8 := Lib.hid (Fxg1_7.out.up b8)
      clear Fxg1_7
      have Fxs2_8 := Lib.hid (Fxs2_7.out.up b8)
      clear Fxs2_7
      have FG_8 := Lib.hid (FG_7.out.up b8)
      clear FG_7
      have Fyg1_8 := Lib.hid s8
      have Lyg1 : Hid (Lies A8 g1n c8 w7.heap.size w8.heap.size) := Lib.hid s8.lt_
      have Iyg1 : Hid (∀ t, t < g1n → ∀ k, (sval (us8.getD t sd0)).ownBlock = some k → w7.heap.size ≤ k ∧ k < w8.heap.size) := Lib.hid fun t ht => (s8.row t ht).lt_
      have Qyg1 := Lib.hid q8
      have hlyg1 : Hid (∀ i, i < g1n → (us8.getD i sd0).2.1 ≤ 1048576) := Lib.hid fun i hi => by rw [q8 i hi]; exact hlg1.out i hi
      clear s8 b8 q8
      go_wp2_with fail
      refine (eqRR_same A4 A8 g1n c4 g1n c8 us4 us8 _ w8 Fxg1_8.out.rr Fyg1_8.out.rr (by omega) hylg1).mono ?_
      rintro e w9 ⟨rfl, b9⟩
      have Z9 : Hid (w8.heap.size ≤ w9.heap.size) := Lib.hid b9.size
      have B9 : Hid (Below w.heap.size w w9) := Lib.hid (btr B8.out b9)
      have FW_9 := Lib.hid (FW_8.out.up b9)
      clear FW_8
      have Fxg1_9 := Lib.hid (Fxg1_8.out.up b9)
      clear Fxg1_8
      have Fxs2_9 := Lib.hid (Fxs2_8.out.up b9)
      clear Fxs2_8
      have FG_9 := Lib.hid (FG_8.out.up b9)
      clear FG_8
      have Fyg1_9 := Lib.hid (Fyg1_8.out.up b9)
      clear Fyg1_8
      clear b9
      clear Fyg1_9
      go_wp2_with fail
      refine (toS_any s2A s2c s2n s2x w9 (Hs2.out.up B9.out) ls2 (by omega)).mono ?_
      rintro e w10 ⟨A10, c10, rfl, s10, b10⟩
      have Z10 : Hid (w9.heap.size ≤ w10.heap.size) := Lib.hid b10.size
      have B10 : Hid (Below w.heap.size w w10) := Lib.hid (btr B9.out b10)
      have FW_10 := Lib.hid (FW_9.out.up b10)
      clear FW_9
      have Fxg1_10 := Lib.hid (Fxg1_9.out.up b10)
      clear Fxg1_9
      have Fxs2_10 := Lib.hid (Fxs2_9.out.up b10)
      clear Fxs2_9
      have FG_10 := Lib.hid (FG_9.out.up b10)
      clear FG_9
      have Fys2_10 := Lib.hid s10
      have Lys2 : Hid (Lies A10 s2n c10 w9.heap.size w10.heap.size) := Lib.hid s10.lies
      have leys2 := s10.le.1
      clear s10 b10
      go_wp2_with fail
      refine (eqS_same _ _ A5 A10 s2n c5 s2n c10 w10 Fxs2_10.out Fys2_10.out (by omega)).mono ?_
      rintro e w11 ⟨rfl, b11⟩
      have Z11 : Hid (w10.heap.size ≤ w11.heap.size) := Lib.hid b11.size
      have B11 : Hid (Below w.heap.size w w11) := Lib.hid (btr B10.out b11)
      have FW_11 := Lib.hid (FW_10.out.up b11)
      clear FW_10
      have Fxg1_11 := Lib.hid (Fxg1_10.out.up b11)
      clear Fxg1_10
      have Fxs2_11 := Lib.hid (Fxs2_10.out.up b11)
      clear Fxs2_10
      have FG_11 := Lib.hid (FG_10.out.up b11)
      clear FG_10
      have Fys2_11 := Lib.hid (Fys2_10.out.up b11)
      clear Fys2_10
      clear b11
      clear Fys2_11
      have KTx : Hid (tot us4 g1n ≤ 1048576) := Lib.hid (by rw [tot_eq g1n Qxg1.out]; exact KTg1.out)
      go_wp2_with fail
      refine (markSS A4 g1n c4 _ _ us4 _ w11 Fxg1_11.out (by omega) KTx).mono ?_
      rintro e w12 ⟨rfl, s12, o12⟩
      have Z12 : Hid (w11.heap.size ≤ w12.heap.size) := Lib.hid o12.size
      have B12 : Hid (Below w.heap.size w w12) := Lib.hid (B11.out.trans (o12.below B11.out.size (fun t ht k e => by have h2 := Ixg1.out t ht k e; have := Z1.out; have := Z2.out; have := Z3.out; have := Z4.out; have := Z5.out; have := Z6.out; have := Z7.out; have := Z8.out; have := Z9.out; have := Z10.out; have := Z11.out; have := Z12.out; omega)))
      have FW_12 := Lib.hid (FW_11.out.only o12 (fun k hk t ht e => by have h1 := LW.out k hk; have h2 := Ixg1.out t ht k e; have := Z1.out; have := Z2.out; have := Z3.out; have := Z4.out; have := Z5.out; have := Z6.out; have := Z7.out; have := Z8.out; have := Z9.out; have := Z10.out; have := Z11.out; have := Z12.out; omega))
      clear FW_11
      have Fxg1_12 := Lib.hid s12
      clear Fxg1_11
      have Fxs2_12 := Lib.hid (Fxs2_11.out.only o12 (fun k hk t ht e => by have h1 := Lxs2.out k hk; have h2 := Ixg1.out t ht k e; have := Z1.out; have := Z2.out; have := Z3.out; have := Z4.out; have := Z5.out; have := Z6.out; have := Z7.out; have := Z8.out; have := Z9.out; have := Z10.out; have := Z11.out; have := Z12.out; omega))
      clear Fxs2_11
      have FG_12 := Lib.hid (FG_11.out.only o12 (fun k hk t ht e => by have h1 := LG.out k hk; have h2 := Ixg1.out t ht k e; have := Z1.out; have := Z2.out; have := Z3.out; have := Z4.out; have := Z5.out; have := Z6.out; have := Z7.out; have := Z8.out; have := Z9.out; have := Z10.out; have := Z11.out; have := Z12.out; omega))
      clear FG_11
      clear s12 o12
      obtain ⟨T, eT⟩ : ∃ T, tot us4 g1n = T := ⟨_, rfl⟩
      have hT9 : T ≤ 1048576 := by rw [← eT]; exact KTx.out
      rw [eT]
      clear eT
      go_wp2_with fail
      refine (markK _ (1 + T) _ A5 s2n c5 _ w12 Fxs2_12.out (by omega) (by omega) (by omega)).mono ?_
      rintro e w13 ⟨rfl, s13, g13⟩
      have Z13 : Hid (w12.heap.size ≤ w13.heap.size) := Lib.hid g13.size
      have B13 : Hid (Below w.heap.size w w13) := Lib.hid (B12.out.trans (below_mark g13 Lxs2.out (by have := Z1.out; have := Z2.out; have := Z3.out; have := Z4.out; have := Z5.out; have := Z6.out; have := Z7.out; have := Z8.out; have := Z9.out; have := Z10.out; have := Z11.out; have := Z12.out; have := Z13.out; omega) B12.out.size))
      have FW_13 := Lib.hid (FW_12.out.far g13 LW.out Lxs2.out (.inl (by have := Z1.out; have := Z2.out; have := Z3.out; have := Z4.out; have := Z5.out; have := Z6.out; have := Z7.out; have := Z8.out; have := Z9.out; have := Z10.out; have := Z11.out; have := Z12.out; have := Z13.out; omega)))
      clear FW_12
      have Fxg1_13 := Lib.hid (Fxg1_12.out.farM g13 (fun k hk e => by have h1 := Lxg1.out k hk; have h2 := Lxs2.out k e; have := Z1.out; have := Z2.out; have := Z3.out; have := Z4.out; have := Z5.out; have := Z6.out; have := Z7.out; have := Z8.out; have := Z9.out; have := Z10.out; have := Z11.out; have := Z12.out; have := Z13.out; omega) (fun s hs k hk e => by have h1 := Ixg1.out s hs k hk; have h2 := Lxs2.out k e; have := Z1.out; have := Z2.out; have := Z3.out; have := Z4.out; have := Z5.out; have := Z6.out; have := Z7.out; have := Z8.out; have := Z9.out; have := Z10.out; have := Z11.out; have := Z12.out; have := Z13.out; omega))
      clear Fxg1_12
      have Fxs2_13 := Lib.hid s13
      clear Fxs2_12
      have FG_13 := Lib.hid (FG_12.out.far g13 LG.out Lxs2.out (.inr (by have := Z1.out; have := Z2.out; have := Z3.out; have := Z4.out; have := Z5.out; have := Z6.out; have := Z7.out; have := Z8.out; have := Z9.out; have := Z10.out; have := Z11.out; have := Z12.out; have := Z13.out; omega)))
      clear FG_12
      clear s13 g13
      go_wp2_with fail
      refine (eqS_same _ _ A6 A3 n6 c6 n3 c3 w13 FG_13.out FW_13.out (by omega)).mono ?_
      rintro e w14 ⟨rfl, b14⟩
      have Z14 : Hid (w13.heap.size ≤ w14.heap.size) := Lib.hid b14.size
      have B14 : Hid (Below w.heap.size w w14) := Lib.hid (btr B13.out b14)
      have FW_14 := Lib.hid (FW_13.out.up b14)
      clear FW_13
      have Fxg1_14 := Lib.hid (Fxg1_13.out.up b14)
      clear Fxg1_13
      have Fxs2_14 := Lib.hid (Fxs2_13.out.up b14)
      clear Fxs2_13
      have FG_14 := Lib.hid (FG_13.out.up b14)
      clear FG_13
      clear b14
      clear Fxg1_14
      clear Fxs2_14
      go_wp2_with fail
      refine (mark1 _ A6 n6 c6 _ w14 FG_14.out (by omega)).mono ?_
      rintro e w15 ⟨rfl, s15, g15⟩
      have Z15 : Hid (w14.heap.size ≤ w15.heap.size) := Lib.hid g15.size
      have B15 : Hid (Below w.heap.size w w15) := Lib.hid (B14.out.trans (below_mark g15 LG.out (by have := Z1.out; have := Z2.out; have := Z3.out; have := Z4.out; have := Z5.out; have := Z6.out; have := Z7.out; have := Z8.out; have := Z9.out; have := Z10.out; have := Z11.out; have := Z12.out; have := Z13.out; have := Z14.out; have := Z15.out; omega) B14.out.size))
      have FW_15 := Lib.hid (FW_14.out.far g15 LW.out LG.out (.inl (by have := Z1.out; have := Z2.out; have := Z3.out; have := Z4.out; have := Z5.out; have := Z6.out; have := Z7.out; have := Z8.out; have := Z9.out; have := Z10.out; have := Z11.out; have := Z12.out; have := Z13.out; have := Z14.out; have := Z15.out; omega)))
      clear FW_14
      have FG_15 := Lib.hid s15
      clear FG_14
      clear s15 g15
      go_wp2_with fail
      refine (held1 _ A6 n6 c6 w15 FG_15.out (by omega)).mono ?_
      rintro e w' ⟨rfl, rfl⟩
      go_wp2_with fail
      refine (toSS g1A g1n g1c g1v g1x w15 (Hg1.out.up B15.out) hng1 hlg1).mono ?_
      rintro e w16 ⟨A16, c16, us16, rfl, s16, q16, b16⟩
      have Z16 : Hid (w15.heap.size ≤ w16.heap.size) := Lib.hid b16.size
      have B16 : Hid (Below w.heap.size w w16) := Lib.hid (btr B15.out b16)
      have FW_16 := Lib.hid (FW_15.out.up b16)
      clear FW_15
      have FG_16 := Lib.hid (FG_15.out.up b16)
      clear FG_15
      have Fzg1_16 := Lib.hid s16
      have Lzg1 : Hid (Lies A16 g1n c16 w15.heap.size w16.heap.size) := Lib.hid s16.lt_
      have Izg1 : Hid (∀ t, t < g1n → ∀ k, (sval (us16.getD t sd0)).ownBlock = some k → w15.heap.size ≤ k ∧ k < w16.heap.size) := Lib.hid fun t ht => (s16.row t ht).lt_
      have Qzg1 := Lib.hid q16
      have hlzg1 : Hid (∀ i, i < g1n → (us16.getD i sd0).2.1 ≤ 1048576) := Lib.hid fun i hi => by rw [q16 i hi]; exact hlg1.out i hi
      clear s16 b16 q16
      go_wp2_with fail
      refine (toS_any s2A s2c s2n s2x w16 (Hs2.out.up B16.out) ls2 (by omega)).mono ?_
      rintro e w17 ⟨A17, c17, rfl, s17, b17⟩
      have Z17 : Hid (w16.heap.size ≤ w17.heap.size) := Lib.hid b17.size
      have B17 : Hid (Below w.heap.size w w17) := Lib.hid (btr B16.out b17)
      have FW_17 := Lib.hid (FW_16.out.up b17)
      clear FW_16
      have FG_17 := Lib.hid (FG_16.out.up b17)
      clear FG_16
      have Fzg1_17 := Lib.hid (Fzg1_16.out.up b17)
      clear Fzg1_16
      have Fzs2_17 := Lib.hid s17
      have Lzs2 : Hid (Lies A17 s2n c17 w16.heap.size w17.heap.size) := Lib.hid s17.lies
      have lezs2 := s17.le.1
      clear s17 b17
      go_wp2_with fail
      have K18 := IM i0 A16 g1n c16 us16 g1x A17 s2n c17 s2x w17 ⟨Fzg1_17.out.rr, hng1, hlzg1.out⟩ ⟨Fzs2_17.out.ri_, ls2.out, hns2, lezs2⟩ wfi0
      refine K18.mono ?_
      clear K18
      rintro e w18 ⟨A18, n18, c18, z18, ok18, rfl, s18, r18, b18⟩
      have m18 : n18 ≤ 1048576 := by have := IsNxt.len r18; have := s18.1; omega
      have Z18 : Hid (w17.heap.size ≤ w18.heap.size) := Lib.hid b18.size
      have B18 : Hid (Below w.heap.size w w18) := Lib.hid (btr B17.out b18)
      have FW_18 := Lib.hid (FW_17.out.up b18)
      clear FW_17
      have FG_18 := Lib.hid (FG_17.out.up b18)
      clear FG_17
      have Fzg1_18 := Lib.hid (Fzg1_17.out.up b18)
      clear Fzg1_17
      have Fzs2_18 := Lib.hid (Fzs2_17.out.up b18)
      clear Fzs2_17
      obtain ⟨e18, f18⟩ := HR.out.uniq r18
      subst e18 f18
      clear r18
      have FH_18 := Lib.hid s18
      have LH : Hid (Lies A18 n18 c18 w17.heap.size w18.heap.size) := Lib.hid s18.lies
      clear s18 b18
      clear Fzg1_18
      clear Fzs2_18
      go_wp2_with fail
      refine (eqS_same _ _ A18 A3 n18 c18 n3 c3 w18 FH_18.out FW_18.out (by omega)).mono ?_
      rintro e w19 ⟨rfl, b19⟩
      have Z19 : Hid (w18.heap.size ≤ w19.heap.size) := Lib.hid b19.size
      have B19 : Hid (Below w.heap.size w w19) := Lib.hid (btr B18.out b19)
      have FW_19 := Lib.hid (FW_18.out.up b19)
      clear FW_18
      have FG_19 := Lib.hid (FG_18.out.up b19)
      clear FG_18
      have FH_19 := Lib.hid (FH_18.out.up b19)
      clear FH_18
      clear b19
      go_wp2_with fail
      refine (held1 _ A6 n6 c6 w19 FG_19.out (by omega)).mono ?_
      rintro e w' ⟨rfl, rfl⟩
      go_wp2_with fail
      go_ret
      exact ⟨rfl, B19.out⟩
    · skip
      have HT0 := Lib.hid hT0
      clear hT0
      go_enter Try.func9, Try.ntmps9
      go_wp2_with fail
      have K0 := szSS2 g1A g1n g1c 1048576 g1v g1x w Hg1.out hmg1 hkg1 (by decide) (by decide)
      refine K0.mono ?_
      rintro e w0 ⟨rfl, rfl⟩
      clear K0
      rw [if_neg (Int.not_le.2 HT0.out)]
      go_wp2
      go_ret
      exact ⟨rfl, Below.refl _ _⟩
  · skip
    have d1 : decide ((1048576 : Int) < s2n) = true := by simp; omega
    go_enter Try.func9, Try.ntmps9
    go_wp2
    go_ret
    exact ⟨rfl, Below.refl _ _⟩
end Go.Proofs.Ytonanelghnjhpaa
