/- The program's search in its chain: slices.Index, withValue, match, contains. Conditions: at most 20 points; the chain whole from the link on. -/
import Derived.Test.YtooafmifbplbhaaPcH
import Derived.Test.YtooafmifbplbhaaComp
import Derived.Test.YtooafmifbplbhaaInv
import Derived.BigQuiet
import Derived.WalkSpells
import Derived.Deep.LoopGhost
namespace Go.Proofs.Ytooafmifbplbhaa
open Go.RowKit

theorem pcDrewBelow (w : World) (k : Nat) : Below w.heap.size w (w.drewN k) := ⟨rfl, rfl, rfl, Nat.le_refl _, fun _ _ => rfl⟩

/-- slices.Index. -/
theorem implIdx (A : Option Addr) (n c : Nat) (p : List Int) (v : Int) (w : World) (hp : RI w w.heap.size A p) (lp : Hid (p.length = n)) (hn : n ≤ 20) :
    Calls Try.prog 101 #[.slice A n c, .int .i64 v] w fun e w' => ∃ r : Int, e = .returned (.int .i64 r) ∧ ((∃ y : Nat, r = (y : Int) ∧ y < n ∧ p.getD y 0 = v) ∨ (r = -1 ∧ ∀ y, y < n → p.getD y 0 ≠ v)) ∧ w = w' := by
  go_enter Try.func101, Try.ntmps101
  go_wp2_with fail
  go_loopw [8] (fun i wr => ∃ k : Nat, k ≤ n ∧ i = .int .i64 (k : Nat) ∧ (∀ y, y < k → p.getD y 0 ≠ v) ∧ w = wr) (fun i _ => n - (intOf i).toNat)
  case atStart => exact ⟨0, Nat.zero_le _, rfl, fun y h => absurd h (by omega), rfl⟩
  case round =>
    obtain ⟨k, hk, rfl, hno, rfl⟩ := hrel
    have Hno := Lib.hid hno
    clear hno
    by_cases hlt : k < n
    · obtain ⟨b, off, rfl, hb, hc⟩ := hp (by rw [lp.out]; omega)
      have c1 := hc k (by rw [lp.out]; omega)
      obtain ⟨y, ey⟩ : ∃ y, p.getD k 0 = y := ⟨_, rfl⟩
      rw [ey] at c1
      have Ey := Lib.hid ey
      have p1 : (0 : Int) ≤ k := by omega
      have p2 : (k : Int) < n := by omega
      clear ey hc hp
      by_cases hv : v = y
      · subst hv
        go_wp2_with fail
        go_ret
        exact ⟨_, rfl, .inl ⟨k, rfl, hlt, Ey.out⟩, rfl⟩
      · have d1 : (v == y) = false := by simpa using hv
        have Hv := Lib.hid hv
        clear hv
        go_wp2_with fail
        go_roundw
        case rel => exact ⟨k + 1, by omega, by go_num, fun z hz => by
          rcases Nat.lt_or_ge z k with h | h
          · exact Hno.out z h
          · obtain rfl : z = k := by omega
            rw [Ey.out]; exact fun e => Hv.out e.symm, trivial⟩
        case measure => simp [intOf]; omega
    · obtain rfl : k = n := by omega
      go_wp2_with fail
      go_ret
      exact ⟨_, rfl, .inr ⟨rfl, Hno.out⟩, rfl⟩

set_option maxHeartbeats 2000000 in
set_option maxRecDepth 100000 in
/-- withValue at link j. -/
theorem implWith (base N k j cp : Nat) (M : Nat → Prop) (c : Ch) (L : Nat → LK) (A : Option Addr) (m : List Int) (v : Int) (w : World) (hc : Ck w base N k M c L) (hkj : k ≤ j) (hjN : j < N) (hr : Hid (RepOK N c j)) (hm : RI w w.heap.size A m) (hP : Hid (Pn N m)) :
    Calls Try.prog 80 #[.pointer (some ⟨(L j).B, 0, none⟩), .slice A N cp, .int .i64 v] w fun e w' => ∃ (A' : Option Addr) (n' c' : Nat), e = .returned (.slice A' n' c') ∧
      ((A' = none ∧ n' = 0 ∧ c' = 0 ∧ ∀ y, y < N → (nx m y : Int) = v → c.rep j y = []) ∨ (∃ g y, A' = some ⟨g, 0, none⟩ ∧ n' = N ∧ y < N ∧ (nx m y : Int) = v ∧ c.rep j y ≠ [] ∧ Slc w' w.heap.size A' N c' (compL (c.rep j y) m))) ∧ Below w.heap.size w w' := by
  have q24 : ∀ (w : World) (a : Option Addr) (n c n' c' : Nat), (binOp .eql 53 (.slice a n c) (.slice none n' c')).run Try.prog w = .ok (.bool a.isNone) w := fun w a n c n' c' => Lib.run_eql_slice_nil w _ _ a n c n' c' Try.underlying53
  have HC := Lib.hid hc
  have HM := Lib.hid hm
  have hN := hP.out.pos
  have cb := hc.cB hkj hjN
  obtain ⟨x0, x1, x2, x3, x4⟩ := cb
  clear hc hm x0 x1 x2 x4
  have hv : ∀ y, y < N → m.getD y 0 = (nx m y : Int) := fun y hy => nx_val hP.out.1 (by rw [hP.out.2]; exact hy)
  have Hv := Lib.hid hv
  clear hv
  go_enter Try.func80, Try.ntmps80
  go_wp2_with fail
  refine (implIdx A N cp m v w HM.out (Lib.hid hP.out.2) hN.2).mono ?_
  rintro e w1 ⟨r, rfl, hyr, rfl⟩
  rcases hyr with ⟨y, rfl, hy, hyv⟩ | ⟨rfl, hno⟩
  · rw [Hv.out y hy] at hyv
    have Yv := Lib.hid hyv
    have x5 := HC.out.cM hkj hjN hy
    have em := HC.out.eM hkj hjN hy
    have d0 : decide ((y : Int) < 0) = false := by simp
    have p0 : (0 : Int) ≤ y := by omega
    have p1 : (y : Int) < N := by omega
    clear hyv
    by_cases hz : c.rep j y = []
    · rw [em.1 hz] at x5
      have Hz := Lib.hid hz
      simp only [sval, sd0] at x5
      clear em hz
      go_wp2_with fail
      go_ret
      exact ⟨_, _, _, rfl, .inl ⟨rfl, rfl, rfl, fun z hzN e => by
        have : z = y := hP.out.inj hzN hy (by have := Yv.out; omega)
        rw [this]; exact Hz.out⟩, Below.refl _ _⟩
    · have hrd := em.2 hz
      have RP := Lib.hid (hr.out.at_ y hz).2.1
      rcases hd : (L j).en.getD y sd0 with ⟨dA, dn, dc⟩
      rw [hd] at x5 hrd
      obtain ⟨b, off, e⟩ := rd_not0 hrd hz
      have e : dA = some ⟨b, off, none⟩ := e
      subst e
      obtain rfl : dn = N := by have h3 : (c.rep j y).length = dn := hrd.len; have := RP.out.2; omega
      have Rr := Lib.hid hrd.ri
      have Hz := Lib.hid hz
      simp only [sval] at x5
      clear em hz hrd hd
      go_wp2_with fail
      refine (implThen (some ⟨b, off, none⟩) A dc cp dn (c.rep j y) m w Rr.out HM.out (Lib.hid RP.out.2) (Lib.hid hP.out.2) (Lib.hid RP.out.1) hN.2).mono ?_
      rintro e w2 ⟨A2, c2, rfl, s2, b2⟩
      have S2 := Lib.hid s2
      have B2 := Lib.hid b2
      clear s2 b2
      go_wp2_with fail
      go_ret
      refine ⟨_, _, _, rfl, .inr ?_, B2.out⟩
      rcases S2.out.at_ with ⟨_, _, h0, _⟩ | ⟨g, rfl, _, _⟩
      · omega
      · exact ⟨g, y, rfl, rfl, hy, Yv.out, Hz.out, S2.out⟩
  · have Hno := Lib.hid hno
    have d0 : decide ((-1 : Int) < 0) = true := by decide
    clear hno
    go_wp2_with fail
    go_ret
    exact ⟨_, _, _, rfl, .inl ⟨rfl, rfl, rfl, fun z hzN e => absurd (by rw [Hv.out z hzN]; exact e) (Hno.out z hzN)⟩, Below.refl _ _⟩

set_option maxHeartbeats 4000000 in
set_option maxRecDepth 100000 in
/-- match at link k. -/
theorem implMatch (base N k nv cv : Nat) (M : Nat → Prop) (c : Ch) (L : Nat → LK) (V : Option Addr) (vals : List Int) (w : World) (hc : Ck w base N k M c L) (hk : k < N) (hU : Hid (UpTo N c k)) (hN : N ≤ 20) (hv : RI w w.heap.size V vals) (lv : Hid (vals.length = nv)) (hnv : nv ≤ 1048576) :
    Calls Try.prog 51 #[.pointer (some ⟨(L k).B, 0, none⟩), .slice V nv cv] w fun e w' => ∃ (g off c' j : Nat) (m : List Int), e = .returned (.tuple #[.slice (some ⟨g, off, none⟩) N c', ptr N L j]) ∧ RI w' w'.heap.size (some ⟨g, off, none⟩) m ∧ Mt N c k vals m j ∧ NoM N c k vals j ∧
      (j = k ∨ Slc w' w.heap.size (some ⟨g, off, none⟩) N c' m) ∧ Below w.heap.size w w' := by
  have q24 : ∀ (w : World) (a : Option Addr) (n c n' c' : Nat), (binOp .eql 53 (.slice a n c) (.slice none n' c')).run Try.prog w = .ok (.bool a.isNone) w := fun w a n c n' c' => Lib.run_eql_slice_nil w _ _ a n c n' c' Try.underlying53
  have HC := Lib.hid hc
  have HV := Lib.hid hv
  obtain ⟨x0, x1, x2, x3, x4⟩ := hc.cB (Nat.le_refl _) hk
  have hid : c.rep k k = idL N := (hU.out.rep k (Nat.le_refl _) hk).one
  have hne : c.rep k k ≠ [] := by rw [hid]; intro e; have := idL_length N; rw [e] at this; simp at this; omega
  have x5 := hc.cM (Nat.le_refl _) hk hk
  have hrd := (hc.eM (Nat.le_refl _) hk hk).2 hne
  rcases hd : (L k).en.getD k sd0 with ⟨dA, dn, dc⟩
  rw [hd] at x5 hrd
  obtain ⟨b, off, e⟩ := rd_not0 hrd hne
  have e : dA = some ⟨b, off, none⟩ := e
  subst e
  rw [hid] at hrd
  obtain rfl : dn = N := by have h3 : (idL N).length = dn := hrd.len; rw [idL_length] at h3; omega
  have Rr := Lib.hid hrd.ri
  have p0 : (0 : Int) ≤ k := by omega
  have p1 : (k : Int) < dn := by omega
  have ep : ptr dn L k = .pointer (some ⟨(L k).B, 0, none⟩) := if_pos hk
  have Ep := Lib.hid ep
  simp only [sval] at x5
  clear hc hv hid hne hrd hd x1 x2 x4 ep
  go_enter Try.func51, Try.ntmps51
  go_wp2_with fail
  go_quiet (fail)
  have B0 : Hid (Below w.heap.size w (w.drewN nq)) := Lib.hid (pcDrewBelow w nq)
  have R0 := Lib.hid (Rr.out.up B0.out)
  generalize w.drewN nq = w0 at B0 R0 ⊢
  clear x0 x3 x5
  go_wp2_with fail
  go_loopg [6, 7, 8] dn (fun gg v l _ wr => ∃ (g off c' j : Nat) (m : List Int), dn - j ≤ gg ∧ v = .slice (some ⟨g, off, none⟩) dn c' ∧ l = ptr dn L j ∧ RI wr wr.heap.size (some ⟨g, off, none⟩) m ∧ Mt dn c k vals m j ∧ (j = k ∨ Slc wr w.heap.size (some ⟨g, off, none⟩) dn c' m) ∧ Below w.heap.size w wr)
  case atStart => exact ⟨b, off, dc, k, idL dn, by omega, rfl, Ep.out.symm, R0.out, .start (by omega) hN (by omega), .inl rfl, B0.out⟩
  case round =>
    clear R0 B0
    obtain ⟨g, off, c', j, m, hgg, rfl, rfl, hm, hmt, hfr, bel⟩ := hrel
    have Hm := Lib.hid hm
    have Mt0 := Lib.hid hmt
    have Fr := Lib.hid hfr
    have Be := Lib.hid bel
    have C1 := Lib.hid (HC.out.up bel)
    have V1 := Lib.hid (HV.out.up bel)
    have hkj := hmt.kj
    have hjN := hmt.jN
    clear hm hmt hfr bel
    by_cases hlt : j < dn
    · have ep : ptr dn L j = .pointer (some ⟨(L j).B, 0, none⟩) := if_pos hlt
      obtain ⟨y0, y1, y2, y3, y4⟩ := C1.out.cB hkj hlt
      rw [ep]
      clear ep y1 y2 y3
      by_cases hjv : j < nv
      · obtain ⟨vb, vo, rfl, hvb, hvc⟩ := V1.out (by rw [lv.out]; omega)
        have z1 := hvc j (by rw [lv.out]; omega)
        obtain ⟨u, eu⟩ : ∃ u, vals.getD j 0 = u := ⟨_, rfl⟩
        rw [eu] at z1
        have Eu := Lib.hid eu
        have d0 : decide ((j : Int) < (nv : Int)) = true := by simp; omega
        have q0 : (0 : Int) ≤ j := by omega
        have q1 : (j : Int) < nv := by omega
        clear hvb hvc eu
        go_wp2_with fail
        refine (implWith base dn k j c' M c L (some ⟨g, off, none⟩) m u wr C1.out hkj hlt (Lib.hid (hU.out.rep j hkj hlt)) Hm.out (Lib.hid Mt0.out.pn)).mono ?_
        rintro e w2 ⟨A2, n2, c2, rfl, (⟨rfl, rfl, rfl, hno⟩ | ⟨g2, y, rfl, rfl, hy, hyv, hyr, hs⟩), b2⟩
        · have B2 : Hid (Below w.heap.size w w2) := Lib.hid (btr Be.out b2)
          have R2 := Lib.hid (Hm.out.up b2)
          have Fr2 : Hid (j = k ∨ Slc w2 w.heap.size (some ⟨g, off, none⟩) dn c' m) := Lib.hid (Fr.out.imp id fun h => h.up b2)
          have Nm : Hid (NoM dn c k vals j) := Lib.hid (Mt0.out.stop hU.out (by omega) hN fun y hy e => hno y hy (by rw [← Eu.out]; exact e))
          clear hno b2
          go_wp2_with fail
          go_ret2
          refine ⟨_, _, _, j, _, ?_, R2.out, Mt0.out, Nm.out, Fr2.out, B2.out⟩
          show Ending.returned (.tuple #[.slice (some ⟨g, off, none⟩) dn c', .pointer (some ⟨(L j).B, 0, none⟩)]) = _
          rw [show ptr dn L j = .pointer (some ⟨(L j).B, 0, none⟩) from if_pos hlt]
        · have B2 : Hid (Below w.heap.size w w2) := Lib.hid (btr Be.out b2)
          have C2 := Lib.hid (C1.out.up b2)
          have S2 : Hid (Slc w2 w.heap.size (some ⟨g2, 0, none⟩) n2 c2 (compL (c.rep j y) m)) := Lib.hid (hs.mono Be.out.size)
          have Mt2 : Hid (Mt n2 c k vals (compL (c.rep j y) m) (j + 1)) := Lib.hid (Mt0.out.step hU.out (by omega) hN hlt (by rw [lv.out]; exact hjv) hyr (by rw [Eu.out]; exact hyv))
          have z4 := (C2.out.cB hkj hlt).2.2.2.2
          have z0 := (C2.out.cB hkj hlt).1
          clear hs b2 y0 y4 hy hyv hyr C1 V1
          go_wp2_with fail
          go_quiet (fail)
          have B3 : Hid (Below w2.heap.size w2 (w2.drewN nq)) := Lib.hid (pcDrewBelow w2 nq)
          have S3 := Lib.hid (S2.out.up B3.out)
          have C3 := Lib.hid (C2.out.up B3.out)
          have B4 : Hid (Below w.heap.size w (w2.drewN nq)) := Lib.hid (btr B2.out B3.out)
          generalize w2.drewN nq = w3 at B3 S3 C3 B4 ⊢
          go_wp2_with fail
          go_roundg (n2 - (j + 1))
          case rel => exact ⟨g2, 0, c2, j + 1, _, by omega, rfl, rfl, S3.out.ri_, Mt2.out, .inr S3.out, B4.out⟩
          case measure => omega
      · have d0 : decide ((j : Int) < (nv : Int)) = false := by simp; omega
        have Nm : Hid (NoM dn c k vals j) := Lib.hid fun _ h => absurd h (by rw [lv.out]; exact hjv)
        go_wp2_with fail
        go_ret2
        refine ⟨_, _, _, j, _, ?_, Hm.out, Mt0.out, Nm.out, Fr.out, Be.out⟩
        show Ending.returned (.tuple #[.slice (some ⟨g, off, none⟩) dn c', .pointer (some ⟨(L j).B, 0, none⟩)]) = _
        rw [show ptr dn L j = .pointer (some ⟨(L j).B, 0, none⟩) from if_pos hlt]
    · obtain rfl : j = dn := by omega
      have ep : ptr j L j = .pointer none := if_neg (by omega)
      have Nm : Hid (NoM j c k vals j) := Lib.hid fun h _ => absurd h (by omega)
      rw [ep]
      clear ep
      go_wp2_with fail
      go_ret2
      refine ⟨_, _, _, j, _, ?_, Hm.out, Mt0.out, Nm.out, Fr.out, Be.out⟩
      show Ending.returned (.tuple #[.slice (some ⟨g, off, none⟩) j c', .pointer none]) = _
      rw [show ptr j L j = .pointer none from if_neg (by omega)]

set_option maxHeartbeats 1000000 in
/-- contains at link k. -/
theorem implContains (base N k cp : Nat) (M : Nat → Prop) (c : Ch) (L : Nat → LK) (A : Option Addr) (p : List Int) (w : World) (hc : Ck w base N k M c L) (hk : k < N) (hU : Hid (UpTo N c k)) (hN : N ≤ 20) (hp : RI w w.heap.size A p) (hP : Hid (Pn N p)) (hF : Hid (Fx k p)) (ans : Bool) (ha : Hid (ans = true ↔ Mb (c.gen k) N p)) :
    Calls Try.prog 50 #[.pointer (some ⟨(L k).B, 0, none⟩), .slice A N cp] w fun e w' => e = .returned (.bool ans) ∧ Below w.heap.size w w' := by
  have HC := Lib.hid hc
  have HP := Lib.hid hp
  clear hc hp
  go_enter Try.func50, Try.ntmps50
  go_wp2_with fail
  refine (implMatch base N k N cp M c L A p w HC.out hk hU hN HP.out (Lib.hid hP.out.2) (by omega)).mono ?_
  rintro e w1 ⟨g, off, c', j, m, rfl, hm, hmt, hnm, hfr, b1⟩
  have B1 := Lib.hid b1
  have hiff := hmt.mem hnm hU.out (by omega) hN (by omega) hP.out hF.out
  have hjN := hmt.jN
  clear hm hmt hnm hfr b1
  by_cases hj : j = N
  · obtain rfl : ans = true := ha.out.2 (hiff.1 hj)
    have ep : ptr N L j = .pointer none := if_neg (by omega)
    rw [ep]
    clear hiff ep
    go_wp2_with fail
    go_ret
    exact ⟨rfl, B1.out⟩
  · obtain rfl : ans = false := by
      rcases ans with _ | _
      · rfl
      · exact absurd (hiff.2 (ha.out.1 rfl)) hj
    have ep : ptr N L j = .pointer (some ⟨(L j).B, 0, none⟩) := if_pos (by omega)
    rw [ep]
    clear hiff ep
    go_wp2_with fail
    go_ret
    exact ⟨rfl, B1.out⟩
end Go.Proofs.Ytooafmifbplbhaa
