/- Part 7 of the texts: PsN, PsM, WalkG6, WalkH6. No condition of its own: each text tells its own. -/
import Derived.Test.YtcjcmhoalomjfaaMg5
import Derived.Test.YtcjcmhoalomjfaaMg6
import Derived.Test.YtcjcmhoalomjfaaMg4
import Derived.Test.YtcjcmhoalomjfaaMg2
set_option linter.unusedVariables false
set_option linter.unusedSimpArgs false

/- The program's commutesWithAll, IsNormalSubgroup, IsAbelian, CenterOrder. Conditions: at most 1048576 lists of at most 1048576 numbers. -/
namespace Go.Proofs.Ytcjcmhoalomjfaa
open Go.RowKit

set_option maxHeartbeats 400000 in
/-- slices.Equal of two lists that can be read. -/
theorem sEqP_core (A B : Option Addr) (c d n : Nat) (xs ys : List Int) (w : World) (hx : RI w w.heap.size A xs) (hy : RI w w.heap.size B ys) (lx : Hid (xs.length = n)) (ly : Hid (ys.length = n)) (hn : n ≤ 2097152) :
    Calls Try.prog 116 #[.slice A n c, .slice B n d] w fun e w' => e = .returned (.bool (decide (xs = ys))) ∧ ∃ m, w' = w.drewN m := by
  go_enter Try.func116, Try.ntmps116
  go_wp2
  go_loopw [5, 13] (fun _ i wr => ∃ k : Nat, k ≤ n ∧ i = .int .i64 k ∧ (∀ j, j < k → xs.getD j 0 = ys.getD j 0) ∧ ∃ m, wr = w.drewN m) (fun _ i _ => n - (intOf i).toNat)
  case atStart => exact ⟨0, Nat.zero_le _, rfl, fun j h => absurd h (by omega), 0, rfl⟩
  case round =>
    obtain ⟨k, hk, rfl, heq, m, rfl⟩ := hrel
    have Heq := Lib.hid heq
    clear heq
    by_cases hlt : k < n
    · obtain ⟨b, off, rfl, hb, hc⟩ := hx (by rw [lx.out]; omega)
      obtain ⟨b', off', rfl, hb', hc'⟩ := hy (by rw [ly.out]; omega)
      have c1 := hc k (by rw [lx.out]; omega)
      have c2 := hc' k (by rw [ly.out]; omega)
      obtain ⟨x, ex⟩ : ∃ x, xs.getD k 0 = x := ⟨_, rfl⟩
      obtain ⟨y, ey⟩ : ∃ y, ys.getD k 0 = y := ⟨_, rfl⟩
      rw [ex] at c1
      rw [ey] at c2
      have Ex := Lib.hid ex
      have Ey := Lib.hid ey
      clear ex ey hc hc' hx hy
      have p1 : (0 : Int) ≤ k := by omega
      have p2 : (k : Int) < n := by omega
      by_cases hxy : x = y
      · subst hxy
        go_wp2
        go_quiet (fail)
        go_wp2
        go_roundw
        case rel => exact ⟨k + 1, by omega, by go_num, fun j hj => by
          by_cases e : j = k
          · subst e; rw [Ex.out, Ey.out]
          · exact Heq.out j (by omega), _, rfl⟩
        case measure => simp [intOf]; omega
      · have hd : (x != y) = true := by simpa using hxy
        have hd' : (x == y) = false := by simpa using hxy
        go_wp2
        go_quiet (fail)
        go_wp2
        go_ret
        refine ⟨ret_bool (Eq.symm (decide_eq_false fun e => hxy ?_)), _, World.drewN_drewN _ _ _⟩
        rw [← Ex.out, ← Ey.out, e]
    · go_wp2
      go_ret
      have : k = n := by omega
      subst this
      exact ⟨ret_bool (Eq.symm (decide_eq_true (ext_getD lx.out ly.out Heq.out))), _, rfl⟩
theorem sEqP (A B : Option Addr) (c d n m : Nat) (xs ys : List Int) (w : World) (hx : RI w w.heap.size A xs) (hy : RI w w.heap.size B ys) (lx : Hid (xs.length = n)) (ly : Hid (ys.length = m)) (hn : n ≤ 2097152) (hm : m ≤ 2097152) :
    Calls Try.prog 116 #[.slice A n c, .slice B m d] w fun e w' => e = .returned (.bool (decide (xs = ys))) ∧ ∃ m, w' = w.drewN m := by
  by_cases hl : n = m
  · subst hl
    exact sEqP_core A B c d n xs ys w hx hy lx ly hn
  · have hd : ((n : Int) != (m : Int)) = true := by rw [bne_iff_ne]; omega
    have hd' : ((n : Int) == (m : Int)) = false := by rw [beq_eq_false_iff_ne]; omega
    go_enter Try.func116, Try.ntmps116
    go_wp2
    go_ret
    refine ⟨ret_bool (Eq.symm (decide_eq_false fun e => hl ?_)), 0, rfl⟩
    rw [← lx.out, ← ly.out, e]
theorem implCj (A B : Option Addr) (c d N : Nat) (p q : List Int) (w : World) (hp : RI w w.heap.size A p) (hq : RI w w.heap.size B q) (hP : Hid (Pn N p)) (hQ : Hid (Pn N q)) :
    Calls Try.prog 81 #[.slice A N c, .slice B N d] w fun e w' => ∃ A' c', e = .returned (.slice A' N c') ∧ Slc w' w.heap.size A' N c' (cj q p) ∧ Below w.heap.size w w' :=
  implConjBy A B c d N p q w hp hq (Lib.hid hP.out.2) (Lib.hid hQ.out.2) (Lib.hid hP.out.1) (Lib.hid hQ.out.1) hP.out.pos.2

set_option maxHeartbeats 4000000 in
set_option maxRecDepth 100000 in
/-- commutesWithAll. -/
theorem implCwa (N n c cp : Nat) (P A : Option Addr) (vs : List SV) (gs : List (List Int)) (p : List Int) (w : World) (hx : RR w w.heap.size A n vs gs) (hp : RI w w.heap.size P p) (hP : Hid (Pn N p)) (hn8 : n ≤ 8) (ok : Hid (∀ g ∈ gs, Pn N g)) (ans : Bool) (ha : Hid (cwB gs p = ans)) :
    Calls Try.prog 85 #[.slice P N cp, .slice A n c] w fun e w' => e = .returned (.bool ans) ∧ Below w.heap.size w w' := by
  have HX := Lib.hid hx
  have HP := Lib.hid hp
  have hlx : Hid (gs.length = n) := Lib.hid hx.lx
  have lp : Hid (p.length = N) := Lib.hid hP.out.2
  have hN := hP.out.pos.2
  clear hx hp
  go_enter Try.func85, Try.ntmps85
  go_wp2_with fail
  go_loopg [6, 9] n (fun gg _ jv wr => ∃ j : Nat, j ≤ n ∧ n - j ≤ gg ∧ jv = .int .i64 (j : Nat) ∧ (∀ x ∈ gs.take j, compL p x = compL x p) ∧ Below w.heap.size w wr)
  case atStart => exact ⟨0, Nat.zero_le _, by omega, rfl, fun x hx => by simp at hx, Below.refl _ _⟩
  case round =>
    obtain ⟨k, hk, hgg, rfl, hall, bel⟩ := hrel
    have Al := Lib.hid hall
    have Be := Lib.hid bel
    have P1 := Lib.hid (HP.out.up bel)
    clear hall bel
    by_cases hlt : k < n
    · obtain ⟨b, off, A5, l, c5, y, rfl, hb, hv, ey, x1, ri, ly, hl5⟩ := (HX.out.up Be.out).at_ hlt
      have hym : y ∈ gs := by rw [← ey]; exact getD_memL (by rw [hlx.out]; exact hlt)
      have hyP := ok.out y hym
      obtain rfl : l = N := by have := hyP.2; omega
      have Ri := Lib.hid ri
      have YP := Lib.hid hyP
      have ly' : Hid (y.length = l) := Lib.hid hyP.2
      have Ym := Lib.hid hym
      have Ey := Lib.hid ey
      have q0 : (0 : Int) ≤ k := by omega
      have q1 : (k : Int) < n := by omega
      obtain ⟨r, hr⟩ : ∃ r, decide (compL p y = compL y p) = r := ⟨_, rfl⟩
      have Hr := Lib.hid hr
      clear hv ey hb ri hyP hym hr
      go_wp2_with fail
      refine (implThen P A5 cp c5 l p y wr P1.out Ri.out lp ly' (Lib.hid hP.out.1) hN).mono ?_
      rintro e w1 ⟨A1, c1, rfl, s1, b1⟩
      have S1 := Lib.hid s1
      have B1 := Lib.hid b1
      clear s1 b1
      go_wp2_with fail
      refine (implThen A5 P c5 cp l y p w1 (Ri.out.up B1.out) (P1.out.up B1.out) ly' lp (Lib.hid YP.out.1) hN).mono ?_
      rintro e w2 ⟨A2, c2, rfl, s2, b2⟩
      have S2 := Lib.hid s2
      have S1b := Lib.hid (S1.out.up b2)
      have B2 : Hid (Below w.heap.size w w2) := Lib.hid (btr (btr Be.out B1.out) b2)
      clear s2 b2
      go_wp2_with fail
      refine (quiet_below (sEqP A1 A2 c1 c2 l l (compL p y) (compL y p) w2 S1b.out.ri_ S2.out.ri_ S1b.out.hid S2.out.hid (by omega) (by omega))).mono ?_
      rintro e w3 ⟨rfl, b3⟩
      have Be2 : Hid (Below w.heap.size w w3) := Lib.hid (btr B2.out b3)
      clear b3
      rw [Hr.out]
      rcases r with _ | _
      · have Fin : Hid (ans = false) := Lib.hid (by
          rcases hq : ans with _ | _
          · rfl
          · exact absurd (cwB_iff.1 (ha.out.trans hq) y Ym.out) (of_decide_eq_false Hr.out))
        go_wp2_with fail
        go_ret
        exact ⟨ret_bool Fin.out.symm, Be2.out⟩
      · have Al2 : Hid (∀ x ∈ gs.take (k + 1), compL p x = compL x p) := Lib.hid fun x hx => by
          rw [List.take_succ_eq_append_getElem (by rw [hlx.out]; exact hlt)] at hx
          rcases List.mem_append.1 hx with hx | hx
          · exact Al.out x hx
          · have e1 : gs[k]'(by rw [hlx.out]; exact hlt) = y := by rw [← Ey.out, List.getD_eq_getElem?_getD, List.getElem?_eq_getElem (by rw [hlx.out]; exact hlt)]; rfl
            rw [List.mem_singleton.1 hx, e1]; exact of_decide_eq_true Hr.out
        go_wp2_with fail
        go_roundg (n - (k + 1))
        case rel => exact ⟨k + 1, by omega, by omega, by go_num, Al2.out, Be2.out⟩
        case measure => omega
    · obtain rfl : k = n := by omega
      have Fin : Hid (ans = true) := Lib.hid (ha.out.symm.trans (cwB_iff.2 fun x hx => Al.out x (by rw [List.take_of_length_le (by rw [hlx.out]; exact Nat.le_refl _)]; exact hx)))
      go_wp2_with fail
      go_ret
      exact ⟨ret_bool Fin.out.symm, Be.out⟩

set_option maxHeartbeats 4000000 in
set_option maxRecDepth 100000 in
/-- IsAbelian. -/
theorem implIsAbelian : CtImB 39 IsAbl := by
  intro a A n c vs xss w g _
  have HX := Lib.hid g.rr
  have hlx : Hid (xss.length = n) := Lib.hid g.rr.lx
  have hn := g.hn
  have hl := Lib.hid g.hl
  clear g
  go_enter Try.func39, Try.ntmps39
  go_wp2_with fail
  refine (implGS a A n c vs xss w HX.out hn hl).mono ?_
  rintro e w1 ⟨rfl, b1⟩
  have B1 := Lib.hid b1
  clear b1
  rcases hs : gB a xss with _ | _
  · have Fin : Hid (IsAbl a xss false) := Lib.hid ⟨fun h => (by cases h), fun h => (by have := h.1; rw [hs] at this; cases this)⟩
    clear hs
    go_wp2_with fail
    go_ret
    exact ⟨_, rfl, Fin.out, B1.out⟩
  · obtain ⟨N, rfl, hN1, hN2, hg8, hpm, hok⟩ := gB_pm hs
    have Hs := Lib.hid hs
    have Ok : Hid (∀ g ∈ xss, Pn N g) := Lib.hid hok
    have hn8 : n ≤ 8 := by rw [← hlx.out]; exact hg8
    have Abi := Lib.hid (abl_iff Ok.out hN1 hN2)
    clear hs hpm hok hg8
    go_wp2_with fail
    go_loopg [6, 13] n (fun gg _ jv wr => ∃ j : Nat, j ≤ n ∧ n - j ≤ gg ∧ jv = .int .i64 (j : Nat) ∧ (∀ x ∈ xss.take j, cwB xss x = true) ∧ Below w.heap.size w wr)
    case atStart => exact ⟨0, Nat.zero_le _, by omega, rfl, fun x hx => by simp at hx, B1.out⟩
    case round =>
      obtain ⟨k, hk, hgg, rfl, hall, bel⟩ := hrel
      have Al := Lib.hid hall
      have Be := Lib.hid bel
      clear hall bel
      by_cases hlt : k < n
      · have Xr := Lib.hid (HX.out.up Be.out)
        obtain ⟨b, off, A5, l, c5, y, eA, hb, hv, ey, x1, ri, ly, hl5⟩ := Xr.out.at_ hlt
        subst eA
        have hym : y ∈ xss := by rw [← ey]; exact getD_memL (by rw [hlx.out]; exact hlt)
        have hyP := Ok.out y hym
        obtain rfl : l = N := by have := hyP.2; omega
        have Ri := Lib.hid ri
        have YP := Lib.hid hyP
        have Ym := Lib.hid hym
        have Ey := Lib.hid ey
        have q0 : (0 : Int) ≤ k := by omega
        have q1 : (k : Int) < n := by omega
        obtain ⟨r, hr⟩ : ∃ r, cwB xss y = r := ⟨_, rfl⟩
        have Hr := Lib.hid hr
        clear hv ey hb ri hyP hym hr
        go_wp2_with fail
        refine (implCwa l n c c5 A5 (some ⟨b, off, none⟩) vs xss y wr Xr.out Ri.out YP hn8 Ok r Hr).mono ?_
        rintro e w2 ⟨rfl, b2⟩
        have Be2 : Hid (Below w.heap.size w w2) := Lib.hid (btr Be.out b2)
        clear b2
        rcases r with _ | _
        · have Fin : Hid (IsAbl l xss false) := Lib.hid ⟨fun h => (by cases h), fun h => (by
            have h3 := h.2
            rw [Int.toNat_natCast] at h3
            have h4 := cwB_iff.2 (Abi.out.1 h3 y Ym.out)
            rw [Hr.out] at h4; cases h4)⟩
          go_wp2_with fail
          go_ret
          exact ⟨_, rfl, Fin.out, Be2.out⟩
        · have Al2 : Hid (∀ x ∈ xss.take (k + 1), cwB xss x = true) := Lib.hid fun x hx => by
            rw [List.take_succ_eq_append_getElem (by rw [hlx.out]; exact hlt)] at hx
            rcases List.mem_append.1 hx with hx | hx
            · exact Al.out x hx
            · have e1 : xss[k]'(by rw [hlx.out]; exact hlt) = y := by rw [← Ey.out, List.getD_eq_getElem?_getD, List.getElem?_eq_getElem (by rw [hlx.out]; exact hlt)]; rfl
              rw [List.mem_singleton.1 hx, e1]; exact Hr.out
          go_wp2_with fail
          go_roundg (n - (k + 1))
          case rel => exact ⟨k + 1, by omega, by omega, by go_num, Al2.out, Be2.out⟩
          case measure => omega
      · obtain rfl : k = n := by omega
        have Fin : Hid (IsAbl N xss true) := Lib.hid ⟨fun _ => ⟨Hs.out, by
          rw [Int.toNat_natCast]
          exact Abi.out.2 fun p hp => cwB_iff.1 (Al.out p (by rw [List.take_of_length_le (by rw [hlx.out]; exact Nat.le_refl _)]; exact hp))⟩, fun _ => rfl⟩
        go_wp2_with fail
        go_ret
        exact ⟨_, rfl, Fin.out, Be.out⟩

set_option maxHeartbeats 4000000 in
set_option maxRecDepth 100000 in
/-- CenterOrder. -/
theorem implCenterOrder : CtImI 36 IsCtr := by
  intro a A n c vs xss w g ha
  have G := Lib.hid g
  have HX := Lib.hid g.rr
  have hlx : Hid (xss.length = n) := Lib.hid g.rr.lx
  clear g
  go_enter Try.func36, Try.ntmps36
  go_wp2_with fail
  refine (implMembers a A n c vs xss w G.out ha).mono ?_
  rintro e w2 ⟨A2, m2, c2, us, l, rfl, s2, r2, b2⟩
  have R2 := Lib.hid r2
  have L2 : Hid (l.length = m2) := Lib.hid s2.lx
  have hm3 : m2 ≤ 3000 := by rw [← s2.lx]; exact r2.len.1
  have S2 := Lib.hid s2.rr
  have B2 := Lib.hid b2
  clear s2 r2 b2
  have Mem : Hid (∀ y ∈ l, gB a xss = true ∧ Mb xss a.toNat y) := Lib.hid fun y hy => by
    rcases R2.out with ⟨hf, _, hm⟩ | ⟨_, e⟩
    · exact ⟨hf.1, (hm y).1 hy⟩
    · rw [e] at hy; cases hy
  have Fin : Hid (IsCtr a xss (cnP (cwB xss) l l.length : Nat)) := Lib.hid (by
    rcases Classical.em (Few a xss) with hf | hf
    · obtain ⟨N, rfl, hN1, hN2, _, _, hok⟩ := gB_pm hf.1
      refine R2.out.ctr hf fun p hp => ?_
      rw [Int.toNat_natCast] at hp ⊢
      rw [cwB_iff, ctr_gens hok hN1 hN2]; exact ⟨fun h => ⟨hp, h⟩, fun h => h.2⟩
    · rcases R2.out with ⟨h, _⟩ | ⟨_, e⟩
      · exact absurd h hf
      · rw [e]; exact .inr ⟨hf, rfl⟩)
  go_wp2_with fail
  go_loopg [5, 7, 12] m2 (fun gg v _ jv wr => ∃ j : Nat, j ≤ m2 ∧ m2 - j ≤ gg ∧ jv = .int .i64 (j : Nat) ∧ v = .int .i64 (cnP (cwB xss) l j : Nat) ∧ Below w2.heap.size w2 wr)
  case atStart => exact ⟨0, Nat.zero_le _, by omega, rfl, rfl, Below.refl _ _⟩
  case round =>
    obtain ⟨k, hk, hgg, rfl, rfl, bel⟩ := hrel
    have Be := Lib.hid bel
    have Xr := Lib.hid (HX.out.up (btr B2.out bel))
    clear bel
    by_cases hlt : k < m2
    · obtain ⟨b, off, A5, lz, c5, y, eA, hb, ev, ey, hc0, hr0, hy, hlc⟩ := S2.out.at_ hlt
      subst eA
      obtain ⟨hs, hyM⟩ := Mem.out y (getD_of (by rw [L2.out]; exact hlt) ey)
      obtain ⟨N, rfl, hN1, hN2, hg8, _, hok⟩ := gB_pm hs
      have Ok : Hid (∀ g ∈ xss, Pn N g) := Lib.hid hok
      have hn8 : n ≤ 8 := by rw [← hlx.out]; exact hg8
      rw [Int.toNat_natCast] at hyM
      have hyl := hyM.pn hok hN1 hN2
      obtain rfl : lz = N := by have := hyl.2; omega
      have YP := Lib.hid hyl
      have Cs := Lib.hid (cnP_succ (f := cwB xss) (by rw [L2.out]; exact hlt) ey)
      have x1 := (Be.out.cell (p := ⟨b, off + k, none⟩) hb).trans hc0
      have Ry := Lib.hid (hr0.up Be.out)
      have z0 : (0 : Int) ≤ k := by omega
      have z1 : (k : Int) < m2 := by omega
      have hcl := cnP_le (cwB xss) l k
      rw [L2.out] at hcl
      obtain ⟨r, hr⟩ : ∃ r, cwB xss y = r := ⟨_, rfl⟩
      have Hr := Lib.hid hr
      have Cs2 : Hid (cnP (cwB xss) l (k + 1) = cnP (cwB xss) l k + if r = true then 1 else 0) := Lib.hid (by rw [← Hr.out]; exact Cs.out)
      obtain ⟨cv, ecv⟩ : ∃ cv, cnP (cwB xss) l k = cv := ⟨_, rfl⟩
      have Ec := Lib.hid ecv
      rw [ecv] at hcl ⊢
      clear ev ey hr0 hb hc0 hr hyl hyM hs hok hg8 ecv
      go_wp2_with fail
      refine (implCwa lz n c c5 A5 A vs xss y wr Xr.out Ry.out YP hn8 Ok r Hr).mono ?_
      rintro e w3 ⟨rfl, b3⟩
      have B3 : Hid (Below w2.heap.size w2 w3) := Lib.hid (btr Be.out b3)
      clear b3
      rcases r with _ | _
      · have E3 : Hid (cnP (cwB xss) l (k + 1) = cv) := Lib.hid (by rw [Cs2.out, Ec.out]; rfl)
        go_wp2_with fail
        go_roundg (m2 - (k + 1))
        case rel => exact ⟨k + 1, by omega, by omega, by go_num, by rw [E3.out], B3.out⟩
        case measure => omega
      · have E3 : Hid (cnP (cwB xss) l (k + 1) = cv + 1) := Lib.hid (by rw [Cs2.out, Ec.out]; rfl)
        go_wp2_with fail
        go_roundg (m2 - (k + 1))
        case rel => exact ⟨k + 1, by omega, by omega, by go_num, by rw [E3.out]; go_num, B3.out⟩
        case measure => omega
    · obtain rfl : k = m2 := by omega
      have Fin2 : Hid (IsCtr a xss (cnP (cwB xss) l k : Nat)) := Lib.hid (by have := Fin.out; rwa [L2.out] at this)
      have B5 : Hid (Below w.heap.size w wr) := Lib.hid (btr B2.out Be.out)
      go_wp2_with fail
      go_ret
      exact ⟨_, rfl, Fin2.out, B5.out⟩
end Go.Proofs.Ytcjcmhoalomjfaa

/- The program's IsNormalSubgroup. Conditions: at most 1048576 lists of at most 1048576 numbers. -/
namespace Go.Proofs.Ytcjcmhoalomjfaa
open Go.RowKit

set_option maxHeartbeats 8000000 in
set_option maxRecDepth 100000 in
/-- IsNormalSubgroup. -/
theorem implIsNormalSubgroup : CtImmB 33 IsNor := by
  intro a A n c vs xss M m cm us yss w g s ha
  have G := Lib.hid g
  have S := Lib.hid s
  have HX := Lib.hid g.rr
  have HY := Lib.hid s.rr
  have hlx : Hid (xss.length = n) := Lib.hid g.rr.lx
  have hly : Hid (yss.length = m) := Lib.hid s.rr.lx
  clear g s
  go_enter Try.func33, Try.ntmps33
  go_wp2_with fail
  refine (implIsSubgroup a A n c vs xss M m cm us yss w G.out S.out ha).mono ?_
  rintro e w1 ⟨v, rfl, hv, b1⟩
  have B1 := Lib.hid b1
  clear b1
  rcases v with _ | _
  · have Fin : Hid (IsNor a xss yss false) := Lib.hid ⟨fun h => (by cases h), fun h => absurd (hv.2 h.1) (by decide)⟩
    clear hv
    go_wp2_with fail
    go_ret
    exact ⟨_, rfl, Fin.out, B1.out⟩
  · have Hs : Hid (SubG a xss yss) := Lib.hid (hv.1 rfl)
    clear hv
    obtain ⟨N, rfl, hN1, hN2, hg8, hpm, hok⟩ := gB_pm Hs.out.1
    obtain ⟨N', eN, _, _, hg8b, _, hok2⟩ := gB_pm Hs.out.2.1
    obtain rfl : N = N' := by omega
    have Ok : Hid (∀ g ∈ xss, Pn N g) := Lib.hid hok
    have Ok2 : Hid (∀ g ∈ yss, Pn N g) := Lib.hid hok2
    have hn8 : n ≤ 8 := by rw [← hlx.out]; exact hg8
    have hm8 : m ≤ 8 := by rw [← hly.out]; exact hg8b
    have Nri := Lib.hid (nrm_iff Ok2.out Ok.out hN1 hN2)
    clear hpm hok hok2 hg8 hg8b eN G S
    go_wp2_with fail
    refine (implChainOf N n c A vs xss w1 (HX.out.up B1.out) hN1 hN2 hn8 Ok).mono ?_
    rintro e w3 ⟨ch, L, Mk, rfl, hc, ho, hw, b3⟩
    have W3 := Lib.hid hw
    have C3 := Lib.hid hc
    have B3 : Hid (Below w.heap.size w w3) := Lib.hid (btr B1.out b3)
    have X3 := Lib.hid (HX.out.up B3.out)
    have Y3 := Lib.hid (HY.out.up B3.out)
    clear hc ho hw b3
    clear HX HY B1
    go_wp2_with fail
    go_loopg [22] n (fun gg iv wr => ∃ i : Nat, i ≤ n ∧ n - i ≤ gg ∧ iv = .int .i64 (i : Nat) ∧ (∀ s ∈ xss.take i, ∀ q ∈ yss, Mb xss N (cj q s)) ∧ Below w3.heap.size w3 wr)
    case atStart => exact ⟨0, Nat.zero_le _, by omega, rfl, fun x hx => by simp at hx, Below.refl _ _⟩
    case round =>
      obtain ⟨i, hi, hgg, rfl, hall, bel⟩ := hrel
      have Al := Lib.hid hall
      have Be := Lib.hid bel
      clear hall bel
      by_cases hlt : i < n
      · obtain ⟨bx, ox, A5, l, c5, p, rfl, hbx, hv, ep, x1, rp, lp, hl5⟩ := X3.out.at_ hlt
        have hpm : p ∈ xss := by rw [← ep]; exact getD_memL (by rw [hlx.out]; exact hlt)
        have hpP := Ok.out p hpm
        obtain rfl : l = N := by have := hpP.2; omega
        have Rp := Lib.hid rp
        have PP := Lib.hid hpP
        have Pm_ := Lib.hid hpm
        have Ep := Lib.hid ep
        have Hbx := Lib.hid hbx
        have X1 := Lib.hid x1
        have q0 : (0 : Int) ≤ i := by omega
        have q1 : (i : Int) < n := by omega
        have x1 := (Be.out.cell (p := ⟨bx, ox + i, none⟩) Hbx.out).trans X1.out
        clear hv ep hbx rp hpP hpm
        go_wp2_with fail
        go_loopg [28] m (fun gg kv wr => ∃ k : Nat, k ≤ m ∧ m - k ≤ gg ∧ kv = .int .i64 (k : Nat) ∧ (∀ q ∈ yss.take k, Mb xss l (cj q p)) ∧ Below w3.heap.size w3 wr)
        case atStart => exact ⟨0, Nat.zero_le _, by omega, rfl, fun x hx => by simp at hx, Be.out⟩
        case round =>
          clear x1 Be
          obtain ⟨k, hk, hg2, rfl, hal2, bel⟩ := hrel
          have Al2 := Lib.hid hal2
          have Be := Lib.hid bel
          have Cj := Lib.hid (C3.out.up bel)
          clear hal2 bel
          by_cases hkt : k < m
          · obtain ⟨by_, oy, A6, l2, c6, q, rfl, hby, hv, eq_, y1, rq, lq, hl6⟩ := Y3.out.at_ hkt
            have hqm : q ∈ yss := by rw [← eq_]; exact getD_memL (by rw [hly.out]; exact hkt)
            have hqP := Ok2.out q hqm
            obtain rfl : l2 = l := by have := hqP.2; omega
            have QQ := Lib.hid hqP
            have Qm := Lib.hid hqm
            have Eq := Lib.hid eq_
            have Rq2 := Lib.hid (rq.up Be.out)
            have Rp2 := Lib.hid (Rp.out.up Be.out)
            have y2 := (Be.out.cell (p := ⟨by_, oy + k, none⟩) hby).trans y1
            have x2 := (Be.out.cell (p := ⟨bx, ox + i, none⟩) Hbx.out).trans X1.out
            have hbxw : bx < wr.heap.size := Nat.lt_of_lt_of_le Hbx.out Be.out.size
            have hbyw : by_ < wr.heap.size := Nat.lt_of_lt_of_le hby Be.out.size
            have r0 : (0 : Int) ≤ k := by omega
            have r1 : (k : Int) < m := by omega
            have CP : Hid (Pn l2 (cj q p)) := Lib.hid ((QQ.out.iv.comp PP.out).comp QQ.out)
            obtain ⟨ans, hans⟩ := boolOf (Mb xss l2 (cj q p))
            have Ha := Lib.hid hans
            clear hv eq_ hby rq hqP hqm hans y1
            go_wp2_with fail
            refine (implCj A5 A6 c5 c6 l2 p q wr Rp2.out Rq2.out PP QQ).mono ?_
            rintro e w5 ⟨A7, c7, rfl, s7, b5⟩
            have S7 := Lib.hid s7
            have C5 := Lib.hid (Cj.out.up b5)
            have B5 : Hid (Below w3.heap.size w3 w5) := Lib.hid (btr Be.out b5)
            clear s7 b5 x2 y2
            go_wp2_with fail
            refine (implContains w1.heap.size l2 0 c7 Mk ch L A7 (cj q p) w5 C5.out (by omega) (Lib.hid W3.out.up) hN2 S7.out.ri_ CP (Lib.hid Fx.zero) ans (Lib.hid (Ha.out.trans (W3.out.mem _).symm))).mono ?_
            rintro e w8 ⟨rfl, b8⟩
            have B8 : Hid (Below w3.heap.size w3 w8) := Lib.hid (btr B5.out b8)
            clear b8
            rcases ans with _ | _
            · have Fin : Hid (IsNor l2 xss yss false) := Lib.hid ⟨fun h => (by cases h), fun h => (by
                have h3 := h.2
                rw [Int.toNat_natCast] at h3
                exact absurd (Ha.out.2 (Nri.out.1 h3 p Pm_.out q Qm.out)) (by decide))⟩
              have B9 : Hid (Below w.heap.size w w8) := Lib.hid (btr B3.out B8.out)
              go_wp2_with fail
              go_ret
              exact ⟨_, rfl, Fin.out, B9.out⟩
            · have Al3 : Hid (∀ x ∈ yss.take (k + 1), Mb xss l2 (cj x p)) := Lib.hid fun x hx => by
                rw [List.take_succ_eq_append_getElem (by rw [hly.out]; exact hkt)] at hx
                rcases List.mem_append.1 hx with hx | hx
                · exact Al2.out x hx
                · have e1 : yss[k]'(by rw [hly.out]; exact hkt) = q := by rw [← Eq.out, List.getD_eq_getElem?_getD, List.getElem?_eq_getElem (by rw [hly.out]; exact hkt)]; rfl
                  rw [List.mem_singleton.1 hx, e1]; exact Ha.out.1 rfl
              go_wp2_with fail
              go_roundg (m - (k + 1))
              case rel => exact ⟨k + 1, by omega, by omega, by go_num, Al3.out, B8.out⟩
              case measure => omega
          · obtain rfl : k = m := by omega
            have Al3 : Hid (∀ s ∈ xss.take (i + 1), ∀ q ∈ yss, Mb xss l (cj q s)) := Lib.hid fun x hx q hq => by
              rw [List.take_succ_eq_append_getElem (by rw [hlx.out]; exact hlt)] at hx
              rcases List.mem_append.1 hx with hx | hx
              · exact Al.out x hx q hq
              · have e1 : xss[i]'(by rw [hlx.out]; exact hlt) = p := by rw [← Ep.out, List.getD_eq_getElem?_getD, List.getElem?_eq_getElem (by rw [hlx.out]; exact hlt)]; rfl
                rw [List.mem_singleton.1 hx, e1]
                exact Al2.out q (by rw [List.take_of_length_le (by rw [hly.out]; exact Nat.le_refl _)]; exact hq)
            go_wp2_with fail
            go_roundg (n - (i + 1))
            case rel => exact ⟨i + 1, by omega, by omega, by go_num, Al3.out, Be.out⟩
            case measure => omega
      · obtain rfl : i = n := by omega
        have Fin : Hid (IsNor N xss yss true) := Lib.hid ⟨fun _ => ⟨Hs.out, by
          rw [Int.toNat_natCast]
          exact Nri.out.2 fun s hs => Al.out s (by rw [List.take_of_length_le (by rw [hlx.out]; exact Nat.le_refl _)]; exact hs)⟩, fun _ => rfl⟩
        have B9 : Hid (Below w.heap.size w wr) := Lib.hid (btr B3.out Be.out)
        go_wp2_with fail
        go_ret
        exact ⟨_, rfl, Fin.out, B9.out⟩
end Go.Proofs.Ytcjcmhoalomjfaa

/- The walk of the law FnExactIsAbelian: it returns true at every input, and writes nothing that was there. No condition but the program's own contract. -/
namespace Go.Proofs.Ytcjcmhoalomjfaa
open Go.RowKit

set_option maxHeartbeats 4000000 in
set_option maxRecDepth 100000 in
/-- The law FnExactIsAbelian. -/
theorem lawIsAbelian (IM : CtImB 39 IsAbl) (i0 : Int) (g1A : Option Addr) (g1n g1c : Nat) (g1v : List SV) (g1x : List (List Int)) (w : World) (wfi0 : I64 i0) (hg1 : RR w w.heap.size g1A g1n g1v g1x) (hmg1 : g1n ≤ maxLen) (hkg1 : Hid (∀ i, i < g1n → (g1v.getD i sd0).2.1 ≤ maxLen)) :
    Calls Try.prog 12 #[.int .i64 i0, .slice g1A g1n g1c] w fun e w' => e = .returned (.bool true) ∧ Below w.heap.size w w' := by
  have Hg1 := Lib.hid hg1
  have hlxg1 := Lib.hid hg1.lx
  have hllg1 := Lib.hid hg1.lens
  clear hg1
  by_cases hT0 : ((g1n + tot g1v g1n : Nat) : Int) ≤ (1048576 : Int)
  · skip
    have HT0 := Lib.hid hT0
    obtain ⟨LE, eLE⟩ : ∃ L : Int, (1048576 : Int) - ((g1n + tot g1v g1n : Nat) : Int) = L := ⟨_, rfl⟩
    have hLE : ¬ LE < 0 := by omega
    have dLE : decide (LE < 0) = false := by simp; omega
    have ELE := Lib.hid eLE
    clear eLE
    have hng1 : g1n ≤ 1048576 := by omega
    have KTg1 : Hid (tot g1v g1n ≤ 1048576) := Lib.hid (by omega)
    have hlg1 : Hid (∀ i, i < g1n → (g1v.getD i sd0).2.1 ≤ 1048576) := Lib.hid fun i hi => by have := tot_row (vs := g1v) hi; have := KTg1.out; omega
    have hylg1 : Hid (∀ i, i < g1n → (g1x.getD i []).length ≤ 1048576) := Lib.hid fun i hi => by rw [hllg1.out i hi]; exact hlg1.out i hi
    clear hT0 
    go_enter Try.func12, Try.ntmps12
    go_wp2_with fail
    have K0 := szSS2 g1A g1n g1c 1048576 g1v g1x w Hg1.out hmg1 hkg1 (by decide) (by decide)
    refine K0.mono ?_
    rintro e w0 ⟨rfl, rfl⟩
    clear K0
    rw [if_pos HT0.out]
    rw [ELE.out]
    go_wp2_with fail
    refine (toSS g1A g1n g1c g1v g1x w Hg1.out hng1 hlg1).mono ?_
    rintro e w1 ⟨A1, c1, us1, rfl, s1, q1, b1⟩
    have Z1 : Hid (w.heap.size ≤ w1.heap.size) := Lib.hid b1.size
    have B1 : Hid (Below w.heap.size w w1) := Lib.hid b1
    have Ftg1_1 := Lib.hid s1
    have Ltg1 : Hid (Lies A1 g1n c1 w.heap.size w1.heap.size) := Lib.hid s1.lt_
    have Itg1 : Hid (∀ t, t < g1n → ∀ k, (sval (us1.getD t sd0)).ownBlock = some k → w.heap.size ≤ k ∧ k < w1.heap.size) := Lib.hid fun t ht => (s1.row t ht).lt_
    have Qtg1 := Lib.hid q1
    have hltg1 : Hid (∀ i, i < g1n → (us1.getD i sd0).2.1 ≤ 1048576) := Lib.hid fun i hi => by rw [q1 i hi]; exact hlg1.out i hi
    clear s1 b1 q1
    go_wp2_with fail
    have K2 := ctAbl i0 A1 g1n c1 us1 g1x w1 ⟨Ftg1_1.out.rr, hng1, hltg1.out⟩ wfi0
    refine K2.mono ?_
    clear K2
    rintro e w2 ⟨v2, rfl, r2, b2⟩
    have Z2 : Hid (w1.heap.size ≤ w2.heap.size) := Lib.hid b2.size
    have B2 : Hid (Below w.heap.size w w2) := Lib.hid (btr B1.out b2)
    have Ftg1_2 := Lib.hid (Ftg1_1.out.up b2)
    clear Ftg1_1
    have HR := Lib.hid r2
    clear r2
    clear b2
    clear Ftg1_2
    go_wp2_with fail
    refine (toSS g1A g1n g1c g1v g1x w2 (Hg1.out.up B2.out) hng1 hlg1).mono ?_
    rintro e w3 ⟨A3, c3, us3, rfl, s3, q3, b3⟩
    have Z3 : Hid (w2.heap.size ≤ w3.heap.size) := Lib.hid b3.size
    have B3 : Hid (Below w.heap.size w w3) := Lib.hid (btr B2.out b3)
    have Fxg1_3 := Lib.hid s3
    have Lxg1 : Hid (Lies A3 g1n c3 w2.heap.size w3.heap.size) := Lib.hid s3.lt_
    have Ixg1 : Hid (∀ t, t < g1n → ∀ k, (sval (us3.getD t sd0)).ownBlock = some k → w2.heap.size ≤ k ∧ k < w3.heap.size) := Lib.hid fun t ht => (s3.row t ht).lt_
    have Qxg1 := Lib.hid q3
    have hlxg1 : Hid (∀ i, i < g1n → (us3.getD i sd0).2.1 ≤ 1048576) := Lib.hid fun i hi => by rw [q3 i hi]; exact hlg1.out i hi
    clear s3 b3 q3
    go_wp2_with fail
    have K4 := IM i0 A3 g1n c3 us3 g1x w3 ⟨Fxg1_3.out.rr, hng1, hlxg1.out⟩ wfi0
    refine K4.mono ?_
    clear K4
    rintro e w4 ⟨v4, rfl, r4, b4⟩
    have Z4 : Hid (w3.heap.size ≤ w4.heap.size) := Lib.hid b4.size
    have B4 : Hid (Below w.heap.size w w4) := Lib.hid (btr B3.out b4)
    have Fxg1_4 := Lib.hid (Fxg1_3.out.up b4)
    clear Fxg1_3
    have e4 := HR.out.uniq r4
    subst e4
    clear r4
    clear b4
    go_wp2_with fail
    refine (toSS g1A g1n g1c g1v g1x w4 (Hg1.out.up B4.out) hng1 hlg1).mono ?_
    rintro e w5 ⟨A5, c5, us5, rfl, s5, q5, b5⟩
    have Z5 : Hid (w4.heap.size ≤ w5.heap.size) := Lib.hid b5.size
    have B5 : Hid (Below w.heap.size w w5) := Lib.hid (btr B4.out b5)
    have Fxg1_5 := Lib.hid (Fxg1_4.out.up b5)
    clear Fxg1_4
    have Fyg1_5 := Lib.hid s5
    have Lyg1 : Hid (Lies A5 g1n c5 w4.heap.size w5.heap.size) := Lib.hid s5.lt_
    have Iyg1 : Hid (∀ t, t < g1n → ∀ k, (sval (us5.getD t sd0)).ownBlock = some k → w4.heap.size ≤ k ∧ k < w5.heap.size) := Lib.hid fun t ht => (s5.row t ht).lt_
    have Qyg1 := Lib.hid q5
    have hlyg1 : Hid (∀ i, i < g1n → (us5.getD i sd0).2.1 ≤ 1048576) := Lib.hid fun i hi => by rw [q5 i hi]; exact hlg1.out i hi
    clear s5 b5 q5
    go_wp2_with fail
    refine (eqRR_same A3 A5 g1n c3 g1n c5 us3 us5 _ w5 Fxg1_5.out.rr Fyg1_5.out.rr (by omega) hylg1).mono ?_
    rintro e w6 ⟨rfl, b6⟩
    have Z6 : Hid (w5.heap.size ≤ w6.heap.size) := Lib.hid b6.size
    have B6 : Hid (Below w.heap.size w w6) := Lib.hid (btr B5.out b6)
    have Fxg1_6 := Lib.hid (Fxg1_5.out.up b6)
    clear Fxg1_5
    have Fyg1_6 := Lib.hid (Fyg1_5.out.up b6)
    clear Fyg1_5
    clear b6
    clear Fyg1_6
    go_wp2_with fail
    go_ret
    exact ⟨rfl, B6.out⟩
  · skip
    have HT0 := Lib.hid hT0
    clear hT0
    go_enter Try.func12, Try.ntmps12
    go_wp2_with fail
    have K0 := szSS2 g1A g1n g1c 1048576 g1v g1x w Hg1.out hmg1 hkg1 (by decide) (by decide)
    refine K0.mono ?_
    rintro e w0 ⟨rfl, rfl⟩
    clear K0
    rw [if_neg (Int.not_le.2 HT0.out)]
    go_wp2
    go_ret
    exact ⟨rfl, Below.refl _ _⟩
end Go.Proofs.Ytcjcmhoalomjfaa

/- The walk of the law FnExactCenterOrder: it returns true at every input, and writes nothing that was there. No condition but the program's own contract. -/
namespace Go.Proofs.Ytcjcmhoalomjfaa
open Go.RowKit

set_option maxHeartbeats 4000000 in
set_option maxRecDepth 100000 in
/-- The law FnExactCenterOrder. -/
theorem lawCenterOrder (IM : CtImI 36 IsCtr) (i0 : Int) (g1A : Option Addr) (g1n g1c : Nat) (g1v : List SV) (g1x : List (List Int)) (w : World) (wfi0 : I64 i0) (hg1 : RR w w.heap.size g1A g1n g1v g1x) (hmg1 : g1n ≤ maxLen) (hkg1 : Hid (∀ i, i < g1n → (g1v.getD i sd0).2.1 ≤ maxLen)) :
    Calls Try.prog 13 #[.int .i64 i0, .slice g1A g1n g1c] w fun e w' => e = .returned (.bool true) ∧ Below w.heap.size w w' := by
  have Hg1 := Lib.hid hg1
  have hlxg1 := Lib.hid hg1.lx
  have hllg1 := Lib.hid hg1.lens
  clear hg1
  by_cases hT0 : ((g1n + tot g1v g1n : Nat) : Int) ≤ (1048576 : Int)
  · skip
    have HT0 := Lib.hid hT0
    obtain ⟨LE, eLE⟩ : ∃ L : Int, (1048576 : Int) - ((g1n + tot g1v g1n : Nat) : Int) = L := ⟨_, rfl⟩
    have hLE : ¬ LE < 0 := by omega
    have dLE : decide (LE < 0) = false := by simp; omega
    have ELE := Lib.hid eLE
    clear eLE
    have hng1 : g1n ≤ 1048576 := by omega
    have KTg1 : Hid (tot g1v g1n ≤ 1048576) := Lib.hid (by omega)
    have hlg1 : Hid (∀ i, i < g1n → (g1v.getD i sd0).2.1 ≤ 1048576) := Lib.hid fun i hi => by have := tot_row (vs := g1v) hi; have := KTg1.out; omega
    have hylg1 : Hid (∀ i, i < g1n → (g1x.getD i []).length ≤ 1048576) := Lib.hid fun i hi => by rw [hllg1.out i hi]; exact hlg1.out i hi
    clear hT0 
    go_enter Try.func13, Try.ntmps13
    go_wp2_with fail
    have K0 := szSS2 g1A g1n g1c 1048576 g1v g1x w Hg1.out hmg1 hkg1 (by decide) (by decide)
    refine K0.mono ?_
    rintro e w0 ⟨rfl, rfl⟩
    clear K0
    rw [if_pos HT0.out]
    rw [ELE.out]
    go_wp2_with fail
    refine (toSS g1A g1n g1c g1v g1x w Hg1.out hng1 hlg1).mono ?_
    rintro e w1 ⟨A1, c1, us1, rfl, s1, q1, b1⟩
    have Z1 : Hid (w.heap.size ≤ w1.heap.size) := Lib.hid b1.size
    have B1 : Hid (Below w.heap.size w w1) := Lib.hid b1
    have Ftg1_1 := Lib.hid s1
    have Ltg1 : Hid (Lies A1 g1n c1 w.heap.size w1.heap.size) := Lib.hid s1.lt_
    have Itg1 : Hid (∀ t, t < g1n → ∀ k, (sval (us1.getD t sd0)).ownBlock = some k → w.heap.size ≤ k ∧ k < w1.heap.size) := Lib.hid fun t ht => (s1.row t ht).lt_
    have Qtg1 := Lib.hid q1
    have hltg1 : Hid (∀ i, i < g1n → (us1.getD i sd0).2.1 ≤ 1048576) := Lib.hid fun i hi => by rw [q1 i hi]; exact hlg1.out i hi
    clear s1 b1 q1
    go_wp2_with fail
    have K2 := ctCtr i0 A1 g1n c1 us1 g1x w1 ⟨Ftg1_1.out.rr, hng1, hltg1.out⟩ wfi0
    refine K2.mono ?_
    clear K2
    rintro e w2 ⟨v2, rfl, r2, b2⟩
    have Z2 : Hid (w1.heap.size ≤ w2.heap.size) := Lib.hid b2.size
    have B2 : Hid (Below w.heap.size w w2) := Lib.hid (btr B1.out b2)
    have Ftg1_2 := Lib.hid (Ftg1_1.out.up b2)
    clear Ftg1_1
    have HR := Lib.hid r2
    clear r2
    clear b2
    clear Ftg1_2
    go_wp2_with fail
    refine (toSS g1A g1n g1c g1v g1x w2 (Hg1.out.up B2.out) hng1 hlg1).mono ?_
    rintro e w3 ⟨A3, c3, us3, rfl, s3, q3, b3⟩
    have Z3 : Hid (w2.heap.size ≤ w3.heap.size) := Lib.hid b3.size
    have B3 : Hid (Below w.heap.size w w3) := Lib.hid (btr B2.out b3)
    have Fxg1_3 := Lib.hid s3
    have Lxg1 : Hid (Lies A3 g1n c3 w2.heap.size w3.heap.size) := Lib.hid s3.lt_
    have Ixg1 : Hid (∀ t, t < g1n → ∀ k, (sval (us3.getD t sd0)).ownBlock = some k → w2.heap.size ≤ k ∧ k < w3.heap.size) := Lib.hid fun t ht => (s3.row t ht).lt_
    have Qxg1 := Lib.hid q3
    have hlxg1 : Hid (∀ i, i < g1n → (us3.getD i sd0).2.1 ≤ 1048576) := Lib.hid fun i hi => by rw [q3 i hi]; exact hlg1.out i hi
    clear s3 b3 q3
    go_wp2_with fail
    have K4 := IM i0 A3 g1n c3 us3 g1x w3 ⟨Fxg1_3.out.rr, hng1, hlxg1.out⟩ wfi0
    refine K4.mono ?_
    clear K4
    rintro e w4 ⟨v4, rfl, r4, b4⟩
    have Z4 : Hid (w3.heap.size ≤ w4.heap.size) := Lib.hid b4.size
    have B4 : Hid (Below w.heap.size w w4) := Lib.hid (btr B3.out b4)
    have Fxg1_4 := Lib.hid (Fxg1_3.out.up b4)
    clear Fxg1_3
    have e4 := HR.out.uniq r4
    subst e4
    clear r4
    clear b4
    go_wp2_with fail
    refine (toSS g1A g1n g1c g1v g1x w4 (Hg1.out.up B4.out) hng1 hlg1).mono ?_
    rintro e w5 ⟨A5, c5, us5, rfl, s5, q5, b5⟩
    have Z5 : Hid (w4.heap.size ≤ w5.heap.size) := Lib.hid b5.size
    have B5 : Hid (Below w.heap.size w w5) := Lib.hid (btr B4.out b5)
    have Fxg1_5 := Lib.hid (Fxg1_4.out.up b5)
    clear Fxg1_4
    have Fyg1_5 := Lib.hid s5
    have Lyg1 : Hid (Lies A5 g1n c5 w4.heap.size w5.heap.size) := Lib.hid s5.lt_
    have Iyg1 : Hid (∀ t, t < g1n → ∀ k, (sval (us5.getD t sd0)).ownBlock = some k → w4.heap.size ≤ k ∧ k < w5.heap.size) := Lib.hid fun t ht => (s5.row t ht).lt_
    have Qyg1 := Lib.hid q5
    have hlyg1 : Hid (∀ i, i < g1n → (us5.getD i sd0).2.1 ≤ 1048576) := Lib.hid fun i hi => by rw [q5 i hi]; exact hlg1.out i hi
    clear s5 b5 q5
    go_wp2_with fail
    refine (eqRR_same A3 A5 g1n c3 g1n c5 us3 us5 _ w5 Fxg1_5.out.rr Fyg1_5.out.rr (by omega) hylg1).mono ?_
    rintro e w6 ⟨rfl, b6⟩
    have Z6 : Hid (w5.heap.size ≤ w6.heap.size) := Lib.hid b6.size
    have B6 : Hid (Below w.heap.size w w6) := Lib.hid (btr B5.out b6)
    have Fxg1_6 := Lib.hid (Fxg1_5.out.up b6)
    clear Fxg1_5
    have Fyg1_6 := Lib.hid (Fyg1_5.out.up b6)
    clear Fyg1_5
    clear b6
    clear Fyg1_6
    go_wp2_with fail
    go_ret
    exact ⟨rfl, B6.out⟩
  · skip
    have HT0 := Lib.hid hT0
    clear hT0
    go_enter Try.func13, Try.ntmps13
    go_wp2_with fail
    have K0 := szSS2 g1A g1n g1c 1048576 g1v g1x w Hg1.out hmg1 hkg1 (by decide) (by decide)
    refine K0.mono ?_
    rintro e w0 ⟨rfl, rfl⟩
    clear K0
    rw [if_neg (Int.not_le.2 HT0.out)]
    go_wp2
    go_ret
    exact ⟨rfl, Below.refl _ _⟩
end Go.Proofs.Ytcjcmhoalomjfaa
