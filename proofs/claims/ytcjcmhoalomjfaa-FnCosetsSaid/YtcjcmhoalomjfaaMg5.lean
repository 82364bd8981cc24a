/- Part 5 of the texts: PcW, PcI, PcA, PcC, PcF, PcN, PsA, Arg, WalkB6, WalkC6. No condition of its own: each text tells its own. -/
import Derived.Test.YtcjcmhoalomjfaaMg4
import Derived.Test.YtcjcmhoalomjfaaMg1
import Derived.Test.YtcjcmhoalomjfaaMg3
import Derived.Test.YtcjcmhoalomjfaaMg2
import Derived.BigQuiet
import Derived.WalkSpells
import Derived.Deep.LoopGhost
import Derived.Maps.AppendAt
import Derived.Deep.RegionHeld3
import Derived.Deep.CutRange
import Derived.ChangeArms
import Derived.ProofKit
import Derived.OpenShut
import Derived.ChangeSlices
set_option linter.unusedVariables false
set_option linter.unusedSimpArgs false

/- The program's search in its chain: slices.Index, withValue, match, contains. Conditions: at most 20 points; the chain whole from the link on. -/
namespace Go.Proofs.Ytcjcmhoalomjfaa
open Go.RowKit

theorem pcDrewBelow (w : World) (k : Nat) : Below w.heap.size w (w.drewN k) := ⟨rfl, rfl, rfl, Nat.le_refl _, fun _ _ => rfl⟩

/-- slices.Index. -/
theorem implIdx (A : Option Addr) (n c : Nat) (p : List Int) (v : Int) (w : World) (hp : RI w w.heap.size A p) (lp : Hid (p.length = n)) (hn : n ≤ 20) :
    Calls Try.prog 132 #[.slice A n c, .int .i64 v] w fun e w' => ∃ r : Int, e = .returned (.int .i64 r) ∧ ((∃ y : Nat, r = (y : Int) ∧ y < n ∧ p.getD y 0 = v) ∨ (r = -1 ∧ ∀ y, y < n → p.getD y 0 ≠ v)) ∧ w = w' := by
  go_enter Try.func132, Try.ntmps132
  go_wp2_with fail
  go_loopw [8] (fun i wr => ∃ k : Nat, k ≤ n ∧ i = .int .i64 (k : Nat) ∧ (∀ y, y < k → p.getD y 0 ≠ v) ∧ w = wr) (fun i _ => n - (intOf i).toNat)
  case atStart => exact ⟨0, Nat.zero_le _, rfl, fun y h => absurd h (by omega), rfl⟩
  case round =>
    obtain ⟨k, hk, rfl, hno, rfl⟩ := hrel
    have Hno := Lib.hid hno
    clear hno
    by_cases hlt : k < n
    · obtain ⟨b, off, rfl, hb, hc⟩ := hp (by rw [lp.out]; omega)
      have c1 := hc k (by rw [lp.out]; omega)
      obtain ⟨y, ey⟩ : ∃ y, p.getD k 0 = y := ⟨_, rfl⟩
      rw [ey] at c1
      have Ey := Lib.hid ey
      have p1 : (0 : Int) ≤ k := by omega
      have p2 : (k : Int) < n := by omega
      clear ey hc hp
      by_cases hv : v = y
      · subst hv
        go_wp2_with fail
        go_ret
        exact ⟨_, rfl, .inl ⟨k, rfl, hlt, Ey.out⟩, rfl⟩
      · have d1 : (v == y) = false := by simpa using hv
        have Hv := Lib.hid hv
        clear hv
        go_wp2_with fail
        go_roundw
        case rel => exact ⟨k + 1, by omega, by go_num, fun z hz => by
          rcases Nat.lt_or_ge z k with h | h
          · exact Hno.out z h
          · obtain rfl : z = k := by omega
            rw [Ey.out]; exact fun e => Hv.out e.symm, trivial⟩
        case measure => simp [intOf]; omega
    · obtain rfl : k = n := by omega
      go_wp2_with fail
      go_ret
      exact ⟨_, rfl, .inr ⟨rfl, Hno.out⟩, rfl⟩

set_option maxHeartbeats 2000000 in
set_option maxRecDepth 100000 in
/-- withValue at link j. -/
theorem implWith (base N k j cp : Nat) (M : Nat → Prop) (c : Ch) (L : Nat → LK) (A : Option Addr) (m : List Int) (v : Int) (w : World) (hc : Ck w base N k M c L) (hkj : k ≤ j) (hjN : j < N) (hr : Hid (RepOK N c j)) (hm : RI w w.heap.size A m) (hP : Hid (Pn N m)) :
    Calls Try.prog 112 #[.pointer (some ⟨(L j).B, 0, none⟩), .slice A N cp, .int .i64 v] w fun e w' => ∃ (A' : Option Addr) (n' c' : Nat), e = .returned (.slice A' n' c') ∧
      ((A' = none ∧ n' = 0 ∧ c' = 0 ∧ ∀ y, y < N → (nx m y : Int) = v → c.rep j y = []) ∨ (∃ g y, A' = some ⟨g, 0, none⟩ ∧ n' = N ∧ y < N ∧ (nx m y : Int) = v ∧ c.rep j y ≠ [] ∧ Slc w' w.heap.size A' N c' (compL (c.rep j y) m))) ∧ Below w.heap.size w w' := by
  have q24 : ∀ (w : World) (a : Option Addr) (n c n' c' : Nat), (binOp .eql 69 (.slice a n c) (.slice none n' c')).run Try.prog w = .ok (.bool a.isNone) w := fun w a n c n' c' => Lib.run_eql_slice_nil w _ _ a n c n' c' Try.underlying69
  have HC := Lib.hid hc
  have HM := Lib.hid hm
  have hN := hP.out.pos
  have cb := hc.cB hkj hjN
  obtain ⟨x0, x1, x2, x3, x4⟩ := cb
  clear hc hm x0 x1 x2 x4
  have hv : ∀ y, y < N → m.getD y 0 = (nx m y : Int) := fun y hy => nx_val hP.out.1 (by rw [hP.out.2]; exact hy)
  have Hv := Lib.hid hv
  clear hv
  go_enter Try.func112, Try.ntmps112
  go_wp2_with fail
  refine (implIdx A N cp m v w HM.out (Lib.hid hP.out.2) hN.2).mono ?_
  rintro e w1 ⟨r, rfl, hyr, rfl⟩
  rcases hyr with ⟨y, rfl, hy, hyv⟩ | ⟨rfl, hno⟩
  · rw [Hv.out y hy] at hyv
    have Yv := Lib.hid hyv
    have x5 := HC.out.cM hkj hjN hy
    have em := HC.out.eM hkj hjN hy
    have d0 : decide ((y : Int) < 0) = false := by simp
    have p0 : (0 : Int) ≤ y := by omega
    have p1 : (y : Int) < N := by omega
    clear hyv
    by_cases hz : c.rep j y = []
    · rw [em.1 hz] at x5
      have Hz := Lib.hid hz
      simp only [sval, sd0] at x5
      clear em hz
      go_wp2_with fail
      go_ret
      exact ⟨_, _, _, rfl, .inl ⟨rfl, rfl, rfl, fun z hzN e => by
        have : z = y := hP.out.inj hzN hy (by have := Yv.out; omega)
        rw [this]; exact Hz.out⟩, Below.refl _ _⟩
    · have hrd := em.2 hz
      have RP := Lib.hid (hr.out.at_ y hz).2.1
      rcases hd : (L j).en.getD y sd0 with ⟨dA, dn, dc⟩
      rw [hd] at x5 hrd
      obtain ⟨b, off, e⟩ := rd_not0 hrd hz
      have e : dA = some ⟨b, off, none⟩ := e
      subst e
      obtain rfl : dn = N := by have h3 : (c.rep j y).length = dn := hrd.len; have := RP.out.2; omega
      have Rr := Lib.hid hrd.ri
      have Hz := Lib.hid hz
      simp only [sval] at x5
      clear em hz hrd hd
      go_wp2_with fail
      refine (implThen (some ⟨b, off, none⟩) A dc cp dn (c.rep j y) m w Rr.out HM.out (Lib.hid RP.out.2) (Lib.hid hP.out.2) (Lib.hid RP.out.1) hN.2).mono ?_
      rintro e w2 ⟨A2, c2, rfl, s2, b2⟩
      have S2 := Lib.hid s2
      have B2 := Lib.hid b2
      clear s2 b2
      go_wp2_with fail
      go_ret
      refine ⟨_, _, _, rfl, .inr ?_, B2.out⟩
      rcases S2.out.at_ with ⟨_, _, h0, _⟩ | ⟨g, rfl, _, _⟩
      · omega
      · exact ⟨g, y, rfl, rfl, hy, Yv.out, Hz.out, S2.out⟩
  · have Hno := Lib.hid hno
    have d0 : decide ((-1 : Int) < 0) = true := by decide
    clear hno
    go_wp2_with fail
    go_ret
    exact ⟨_, _, _, rfl, .inl ⟨rfl, rfl, rfl, fun z hzN e => absurd (by rw [Hv.out z hzN]; exact e) (Hno.out z hzN)⟩, Below.refl _ _⟩

set_option maxHeartbeats 4000000 in
set_option maxRecDepth 100000 in
/-- match at link k. -/
theorem implMatch (base N k nv cv : Nat) (M : Nat → Prop) (c : Ch) (L : Nat → LK) (V : Option Addr) (vals : List Int) (w : World) (hc : Ck w base N k M c L) (hk : k < N) (hU : Hid (UpTo N c k)) (hN : N ≤ 20) (hv : RI w w.heap.size V vals) (lv : Hid (vals.length = nv)) (hnv : nv ≤ 1048576) :
    Calls Try.prog 111 #[.pointer (some ⟨(L k).B, 0, none⟩), .slice V nv cv] w fun e w' => ∃ (g off c' j : Nat) (m : List Int), e = .returned (.tuple #[.slice (some ⟨g, off, none⟩) N c', ptr N L j]) ∧ RI w' w'.heap.size (some ⟨g, off, none⟩) m ∧ Mt N c k vals m j ∧ NoM N c k vals j ∧
      (j = k ∨ Slc w' w.heap.size (some ⟨g, off, none⟩) N c' m) ∧ Below w.heap.size w w' := by
  have q24 : ∀ (w : World) (a : Option Addr) (n c n' c' : Nat), (binOp .eql 69 (.slice a n c) (.slice none n' c')).run Try.prog w = .ok (.bool a.isNone) w := fun w a n c n' c' => Lib.run_eql_slice_nil w _ _ a n c n' c' Try.underlying69
  have HC := Lib.hid hc
  have HV := Lib.hid hv
  obtain ⟨x0, x1, x2, x3, x4⟩ := hc.cB (Nat.le_refl _) hk
  have hid : c.rep k k = idL N := (hU.out.rep k (Nat.le_refl _) hk).one
  have hne : c.rep k k ≠ [] := by rw [hid]; intro e; have := idL_length N; rw [e] at this; simp at this; omega
  have x5 := hc.cM (Nat.le_refl _) hk hk
  have hrd := (hc.eM (Nat.le_refl _) hk hk).2 hne
  rcases hd : (L k).en.getD k sd0 with ⟨dA, dn, dc⟩
  rw [hd] at x5 hrd
  obtain ⟨b, off, e⟩ := rd_not0 hrd hne
  have e : dA = some ⟨b, off, none⟩ := e
  subst e
  rw [hid] at hrd
  obtain rfl : dn = N := by have h3 : (idL N).length = dn := hrd.len; rw [idL_length] at h3; omega
  have Rr := Lib.hid hrd.ri
  have p0 : (0 : Int) ≤ k := by omega
  have p1 : (k : Int) < dn := by omega
  have ep : ptr dn L k = .pointer (some ⟨(L k).B, 0, none⟩) := if_pos hk
  have Ep := Lib.hid ep
  simp only [sval] at x5
  clear hc hv hid hne hrd hd x1 x2 x4 ep
  go_enter Try.func111, Try.ntmps111
  go_wp2_with fail
  go_quiet (fail)
  have B0 : Hid (Below w.heap.size w (w.drewN nq)) := Lib.hid (pcDrewBelow w nq)
  have R0 := Lib.hid (Rr.out.up B0.out)
  generalize w.drewN nq = w0 at B0 R0 ⊢
  clear x0 x3 x5
  go_wp2_with fail
  go_loopg [6, 7, 8] dn (fun gg v l _ wr => ∃ (g off c' j : Nat) (m : List Int), dn - j ≤ gg ∧ v = .slice (some ⟨g, off, none⟩) dn c' ∧ l = ptr dn L j ∧ RI wr wr.heap.size (some ⟨g, off, none⟩) m ∧ Mt dn c k vals m j ∧ (j = k ∨ Slc wr w.heap.size (some ⟨g, off, none⟩) dn c' m) ∧ Below w.heap.size w wr)
  case atStart => exact ⟨b, off, dc, k, idL dn, by omega, rfl, Ep.out.symm, R0.out, .start (by omega) hN (by omega), .inl rfl, B0.out⟩
  case round =>
    clear R0 B0
    obtain ⟨g, off, c', j, m, hgg, rfl, rfl, hm, hmt, hfr, bel⟩ := hrel
    have Hm := Lib.hid hm
    have Mt0 := Lib.hid hmt
    have Fr := Lib.hid hfr
    have Be := Lib.hid bel
    have C1 := Lib.hid (HC.out.up bel)
    have V1 := Lib.hid (HV.out.up bel)
    have hkj := hmt.kj
    have hjN := hmt.jN
    clear hm hmt hfr bel
    by_cases hlt : j < dn
    · have ep : ptr dn L j = .pointer (some ⟨(L j).B, 0, none⟩) := if_pos hlt
      obtain ⟨y0, y1, y2, y3, y4⟩ := C1.out.cB hkj hlt
      rw [ep]
      clear ep y1 y2 y3
      by_cases hjv : j < nv
      · obtain ⟨vb, vo, rfl, hvb, hvc⟩ := V1.out (by rw [lv.out]; omega)
        have z1 := hvc j (by rw [lv.out]; omega)
        obtain ⟨u, eu⟩ : ∃ u, vals.getD j 0 = u := ⟨_, rfl⟩
        rw [eu] at z1
        have Eu := Lib.hid eu
        have d0 : decide ((j : Int) < (nv : Int)) = true := by simp; omega
        have q0 : (0 : Int) ≤ j := by omega
        have q1 : (j : Int) < nv := by omega
        clear hvb hvc eu
        go_wp2_with fail
        refine (implWith base dn k j c' M c L (some ⟨g, off, none⟩) m u wr C1.out hkj hlt (Lib.hid (hU.out.rep j hkj hlt)) Hm.out (Lib.hid Mt0.out.pn)).mono ?_
        rintro e w2 ⟨A2, n2, c2, rfl, (⟨rfl, rfl, rfl, hno⟩ | ⟨g2, y, rfl, rfl, hy, hyv, hyr, hs⟩), b2⟩
        · have B2 : Hid (Below w.heap.size w w2) := Lib.hid (btr Be.out b2)
          have R2 := Lib.hid (Hm.out.up b2)
          have Fr2 : Hid (j = k ∨ Slc w2 w.heap.size (some ⟨g, off, none⟩) dn c' m) := Lib.hid (Fr.out.imp id fun h => h.up b2)
          have Nm : Hid (NoM dn c k vals j) := Lib.hid (Mt0.out.stop hU.out (by omega) hN fun y hy e => hno y hy (by rw [← Eu.out]; exact e))
          clear hno b2
          go_wp2_with fail
          go_ret2
          refine ⟨_, _, _, j, _, ?_, R2.out, Mt0.out, Nm.out, Fr2.out, B2.out⟩
          show Ending.returned (.tuple #[.slice (some ⟨g, off, none⟩) dn c', .pointer (some ⟨(L j).B, 0, none⟩)]) = _
          rw [show ptr dn L j = .pointer (some ⟨(L j).B, 0, none⟩) from if_pos hlt]
        · have B2 : Hid (Below w.heap.size w w2) := Lib.hid (btr Be.out b2)
          have C2 := Lib.hid (C1.out.up b2)
          have S2 : Hid (Slc w2 w.heap.size (some ⟨g2, 0, none⟩) n2 c2 (compL (c.rep j y) m)) := Lib.hid (hs.mono Be.out.size)
          have Mt2 : Hid (Mt n2 c k vals (compL (c.rep j y) m) (j + 1)) := Lib.hid (Mt0.out.step hU.out (by omega) hN hlt (by rw [lv.out]; exact hjv) hyr (by rw [Eu.out]; exact hyv))
          have z4 := (C2.out.cB hkj hlt).2.2.2.2
          have z0 := (C2.out.cB hkj hlt).1
          clear hs b2 y0 y4 hy hyv hyr C1 V1
          go_wp2_with fail
          go_quiet (fail)
          have B3 : Hid (Below w2.heap.size w2 (w2.drewN nq)) := Lib.hid (pcDrewBelow w2 nq)
          have S3 := Lib.hid (S2.out.up B3.out)
          have C3 := Lib.hid (C2.out.up B3.out)
          have B4 : Hid (Below w.heap.size w (w2.drewN nq)) := Lib.hid (btr B2.out B3.out)
          generalize w2.drewN nq = w3 at B3 S3 C3 B4 ⊢
          go_wp2_with fail
          go_roundg (n2 - (j + 1))
          case rel => exact ⟨g2, 0, c2, j + 1, _, by omega, rfl, rfl, S3.out.ri_, Mt2.out, .inr S3.out, B4.out⟩
          case measure => omega
      · have d0 : decide ((j : Int) < (nv : Int)) = false := by simp; omega
        have Nm : Hid (NoM dn c k vals j) := Lib.hid fun _ h => absurd h (by rw [lv.out]; exact hjv)
        go_wp2_with fail
        go_ret2
        refine ⟨_, _, _, j, _, ?_, Hm.out, Mt0.out, Nm.out, Fr.out, Be.out⟩
        show Ending.returned (.tuple #[.slice (some ⟨g, off, none⟩) dn c', .pointer (some ⟨(L j).B, 0, none⟩)]) = _
        rw [show ptr dn L j = .pointer (some ⟨(L j).B, 0, none⟩) from if_pos hlt]
    · obtain rfl : j = dn := by omega
      have ep : ptr j L j = .pointer none := if_neg (by omega)
      have Nm : Hid (NoM j c k vals j) := Lib.hid fun h _ => absurd h (by omega)
      rw [ep]
      clear ep
      go_wp2_with fail
      go_ret2
      refine ⟨_, _, _, j, _, ?_, Hm.out, Mt0.out, Nm.out, Fr.out, Be.out⟩
      show Ending.returned (.tuple #[.slice (some ⟨g, off, none⟩) j c', .pointer none]) = _
      rw [show ptr j L j = .pointer none from if_neg (by omega)]

set_option maxHeartbeats 1000000 in
/-- contains at link k. -/
theorem implContains (base N k cp : Nat) (M : Nat → Prop) (c : Ch) (L : Nat → LK) (A : Option Addr) (p : List Int) (w : World) (hc : Ck w base N k M c L) (hk : k < N) (hU : Hid (UpTo N c k)) (hN : N ≤ 20) (hp : RI w w.heap.size A p) (hP : Hid (Pn N p)) (hF : Hid (Fx k p)) (ans : Bool) (ha : Hid (ans = true ↔ Mb (c.gen k) N p)) :
    Calls Try.prog 72 #[.pointer (some ⟨(L k).B, 0, none⟩), .slice A N cp] w fun e w' => e = .returned (.bool ans) ∧ Below w.heap.size w w' := by
  have HC := Lib.hid hc
  have HP := Lib.hid hp
  clear hc hp
  go_enter Try.func72, Try.ntmps72
  go_wp2_with fail
  refine (implMatch base N k N cp M c L A p w HC.out hk hU hN HP.out (Lib.hid hP.out.2) (by omega)).mono ?_
  rintro e w1 ⟨g, off, c', j, m, rfl, hm, hmt, hnm, hfr, b1⟩
  have B1 := Lib.hid b1
  have hiff := hmt.mem hnm hU.out (by omega) hN (by omega) hP.out hF.out
  have hjN := hmt.jN
  clear hm hmt hnm hfr b1
  by_cases hj : j = N
  · obtain rfl : ans = true := ha.out.2 (hiff.1 hj)
    have ep : ptr N L j = .pointer none := if_neg (by omega)
    rw [ep]
    clear hiff ep
    go_wp2_with fail
    go_ret
    exact ⟨rfl, B1.out⟩
  · obtain rfl : ans = false := by
      rcases ans with _ | _
      · rfl
      · exact absurd (hiff.2 (ha.out.1 rfl)) hj
    have ep : ptr N L j = .pointer (some ⟨(L j).B, 0, none⟩) := if_pos (by omega)
    rw [ep]
    clear hiff ep
    go_wp2_with fail
    go_ret
    exact ⟨rfl, B1.out⟩
end Go.Proofs.Ytcjcmhoalomjfaa

/- The program's include: one product is taken as a mover or divided away. Conditions: at most 20 points; the chain whole above the link; add one link on keeps its contract. -/
namespace Go.Proofs.Ytcjcmhoalomjfaa
open Go.RowKit

/-- append of one number onto a row of the call's own, and where the new row lies. -/
theorem wpList_appI {w : World} {ops : Array Oper} {rest : List Oper} {o : Oper} {a : Act} {Q : Exit → Act → World → Prop} (hgd : o.guard = none) (s x : Operand)
    (ho : o.op = .call { callee := .builtin .append, args := #[s, x], argTypes := #[33, 33] })
    (base : Nat) (A : Option Addr) (n c : Nat) (xs : List Int) (hs : a.eval s = .slice A n c) (hown : Slc w base A n c xs) (g : Nat) (u : Int) (hx : a.eval x = .slice (some ⟨g, 0, none⟩) 1 1)
    (hcell : w.cell? ⟨g, 0, none⟩ = some (.int .i64 u)) (hn : n ≤ 1000000000) (hbase : base ≤ w.heap.size)
    (h : ∀ A' c' w', Slc w' base A' (n + 1) c' (xs ++ [u]) → w.grownBy w' (Value.slice A n c).ownBlock → ((Value.slice A' (n + 1) c').ownBlock = (Value.slice A n c).ownBlock ∨ (Value.slice A' (n + 1) c').ownBlock = some w.heap.size) → wpList Try.prog ops Q rest (a.put o.dst (.slice A' (n + 1) c')) w') : wpList Try.prog ops Q (o :: rest) a w := by
  obtain ⟨i0, hi, hz0, hz1, hz2⟩ := info_parts infoI
  obtain ⟨hl, ho'⟩ := hown
  subst hl
  refine wpList_append_own_at w hgd s x 33 ho base 2 i0 (.int .i64 0) 1 8 Try.underlying33 hi hz0 hz1 hz2 rfl (by decide) _ xs.length _ hs ho' ⟨g, 0, none⟩ 1 1 [.int .i64 u] hx rfl ?_ ?_ ?_ (by omega) hbase ?_
  · intro j v hj
    match j, hj with
    | 0, hj => simp at hj; subst hj; simpa [Addr.add] using hcell
    | j + 1, hj => simp at hj
  · intro v hv; simp at hv; subst hv; rfl
  · unfold maxLen; omega
  · intro v' w' hown' hg _ hat
    have hO : Own w' base v' (xs ++ [u]) := by
      unfold Own
      rw [List.length_append, List.map_append]
      exact hown'
    obtain ⟨A', c', rfl, hS⟩ := Slc.of_own (n := xs.length + 1) hO (by simp)
    exact h A' c' w' hS hg hat
theorem infoP : (Try.prog.info? 69).map (fun i => (i.zero, i.size, i.bytes)) = some (some (.slice none 0 0), 1, 24) := by kernel_rfl
/-- append of one permutation. -/
theorem wpList_appP {w : World} {ops : Array Oper} {rest : List Oper} {o : Oper} {a : Act} {Q : Exit → Act → World → Prop} (hgd : o.guard = none) (s x : Operand)
    (ho : o.op = .call { callee := .builtin .append, args := #[s, x], argTypes := #[90, 90] })
    (base : Nat) (v : Value) (n : Nat) (xs : List Value) (hs : a.eval s = v) (hown : w.ownsRow base 69 1 v n xs) (g : Nat) (d : SV) (hx : a.eval x = .slice (some ⟨g, 0, none⟩) 1 1)
    (hcell : w.cell? ⟨g, 0, none⟩ = some (sval d)) (hn : n ≤ 1000000000) (hbase : base ≤ w.heap.size)
    (h : ∀ A' c' w', w'.ownsRow base 69 1 (.slice A' (n + 1) c') (n + 1) (xs ++ [sval d]) → w.grownBy w' v.ownBlock → ((Value.slice A' (n + 1) c').ownBlock = v.ownBlock ∨ (Value.slice A' (n + 1) c').ownBlock = some w.heap.size) → wpList Try.prog ops Q rest (a.put o.dst (.slice A' (n + 1) c')) w') : wpList Try.prog ops Q (o :: rest) a w := by
  obtain ⟨i0, hi, hz0, hz1, hz2⟩ := info_parts infoP
  refine wpList_append_own_at w hgd s x 90 ho base 69 i0 (.slice none 0 0) 1 24 Try.underlying90 hi hz0 hz1 hz2 rfl (by decide) v n xs hs hown ⟨g, 0, none⟩ 1 1 [sval d] hx rfl ?_ ?_ ?_ (by omega) hbase ?_
  · intro j u hj
    match j, hj with
    | 0, hj => simp at hj; subst hj; simpa [Addr.add] using hcell
    | j + 1, hj => simp at hj
  · intro u hu; simp at hu; subst hu; rfl
  · unfold maxLen; omega
  · intro v' w' hown' hg _ hat
    have hform : ∃ A' c', v' = .slice A' (n + 1) c' := by
      rcases hown'.2 with ⟨rfl, h0⟩ | ⟨g', cap, cur, rfl, _⟩
      · omega
      · exact ⟨_, _, rfl⟩
    obtain ⟨A', c', rfl⟩ := hform
    exact h A' c' w' hown' hg hat

theorem cells_gw {w w' : World} {base N k : Nat} {M M' : Nat → Prop} {c : Ch} {L L' : Nat → LK} (g : Gw w w' N (k + 1) L L' M M') (h : Ck w base N k M c L) (hk : k < N) (b j : Nat) (hb : b = (L k).B ∨ b = (L k).mb) : w'.cell? ⟨b, j, none⟩ = w.cell? ⟨b, j, none⟩ := by
  have ht : ∃ t, t < 4 ∧ mu (L k) t = some b := by
    rcases hb with rfl | rfl
    · exact ⟨0, by decide, rfl⟩
    · exact ⟨3, by decide, rfl⟩
  obtain ⟨t, ht4, ht⟩ := ht
  refine World.cell?_of_block (g.chg.block b (h.mlt b (h.mm k t b (Nat.le_refl _) hk ht4 ht)).2 fun ⟨i, t', a1, a2, a3, e'⟩ => ?_)
  have := (h.dis k t i t' b (Nat.le_refl _) hk ht4 (by omega) a2 a3 ht e').1
  omega
/-- What add keeps at link k. -/
def ADs (base N k : Nat) : Prop := ∀ (M : Nat → Prop) (c : Ch) (L : Nat → LK) (A : Option Addr) (cp : Nat) (p : List Int) (w : World), Ck w base N k M c L → Orbs N k c L → Rd w M (A, N, cp) p → Pn N p → Fx k p → UpTo N c k →
  Calls Try.prog 98 #[.pointer (some ⟨(L k).B, 0, none⟩), .slice A N cp] w fun e w' => ∃ (c' : Ch) (L' : Nat → LK) (M' : Nat → Prop), e = .returned (.tuple #[]) ∧ Ck w' base N k M' c' L' ∧ Orbs N k c' L' ∧ Gw w w' N k L L' M M' ∧ Ap N k c c' p
/-- What include keeps at link k. -/
def INs (base N k : Nat) : Prop := ∀ (M : Nat → Prop) (c : Ch) (L : Nat → LK) (A : Option Addr) (cp : Nat) (q : List Int) (w : World), Ck w base N k M c L → Orbs N k c L → Rd w M (A, N, cp) q → Low N c k → Mb (c.gen k) N q →
  Calls Try.prog 126 #[.pointer (some ⟨(L k).B, 0, none⟩), .slice A N cp] w fun e w' => ∃ (c' : Ch) (L' : Nat → LK) (M' : Nat → Prop), e = .returned (.tuple #[]) ∧ Ck w' base N k M' c' L' ∧ Orbs N k c' L' ∧ Gw w w' N k L L' M M' ∧ Ic N k c c' q ∧ (L k).orb <+: (L' k).orb ∧ (L' k).g = (L k).g

set_option maxHeartbeats 4000000 in
set_option maxRecDepth 100000 in
theorem implInclude (base N k : Nat) (hkN : k + 1 < N) (h2N : N ≤ 20) (AD : ADs base N (k + 1)) : INs base N k := by
  intro M c L A cp q w hc ho hd hl hq
  have q24 : ∀ (w : World) (a : Option Addr) (n c n' c' : Nat), (binOp .eql 69 (.slice a n c) (.slice none n' c')).run Try.prog w = .ok (.bool a.isNone) w := fun w a n c n' c' => Lib.run_eql_slice_nil w _ _ a n c n' c' Try.underlying69
  have hk : k < N := by omega
  have hP := hq.pn hl.pn (by omega) h2N
  have hbs : base ≤ w.heap.size := by have := hc.mlt _ (hc.mm k 0 _ (Nat.le_refl _) hk (by decide) rfl); omega
  have HC := Lib.hid hc
  have HO := Lib.hid ho
  have HD := Lib.hid hd
  have HL := Lib.hid hl
  have HQ := Lib.hid hq
  have QP := Lib.hid hP
  obtain ⟨b, off, hA, hb, hnM, hcell⟩ := hd.at_ (by rw [hP.2]; omega)
  have hA : A = some ⟨b, off, none⟩ := hA
  subst hA
  have z1 := hcell k (by rw [hP.2]; exact hk)
  obtain ⟨y, ey⟩ : ∃ y, nx q k = y := ⟨_, rfl⟩
  have hy : y < N := by rw [← ey]; exact hP.lt hk
  rw [nx_val hP.1 (by rw [hP.2]; exact hk), ey] at z1
  have Ey := Lib.hid ey
  obtain ⟨x0, x1, x2, x3, x4⟩ := hc.cB (Nat.le_refl _) hk
  have x5 := hc.cM (Nat.le_refl _) hk hy
  have em := hc.eM (Nat.le_refl _) hk hy
  have p0 : (0 : Int) ≤ k := by omega
  have p1 : (k : Int) < N := by omega
  have p2 : (0 : Int) ≤ y := by omega
  have p3 : (y : Int) < N := by omega
  clear hc ho hd hl hq hP hb hnM hcell ey
  by_cases hz : c.rep k y = []
  · have Hz := Lib.hid hz
    rw [em.1 hz] at x5
    simp only [sval, sd0] at x5
    have hqne : q ≠ [] := by intro e; have := QP.out.2; rw [e] at this; simp at this; omega
    have Hqn := Lib.hid hqne
    have fz := (HC.out.lk k (Nat.le_refl _) hk).mown.frozenAt y
    obtain ⟨S1, G1⟩ := HC.out.store hk hy HD.out hqne
    have hx2 : w.setCell ⟨(L k).mb, y, none⟩ (.slice (some ⟨b, off, none⟩) N cp) = w.setCell ⟨(L k).mb, y, none⟩ (sval (some ⟨b, off, none⟩, N, cp)) := rfl
    rw [← hx2] at S1 G1
    obtain ⟨L1, hL1⟩ : ∃ L1, upd L k { L k with en := (L k).en.set y (some ⟨b, off, none⟩, N, cp) } = L1 := ⟨_, rfl⟩
    have e1 : L1 k = { L k with en := (L k).en.set y (some ⟨b, off, none⟩, N, cp) } := by rw [← hL1, upd_at]
    have e1n : ∀ i, i ≠ k → L1 i = L i := fun i hi => by rw [← hL1, upd_ne hi]
    rw [hL1] at S1 G1
    have E1 := Lib.hid e1
    have E1n := Lib.hid e1n
    have C1 := Lib.hid S1
    have Gw1 := Lib.hid G1
    obtain ⟨y0, y1, y2, y3, y4⟩ := S1.cB (Nat.le_refl _) hk
    have hs := (S1.lk k (Nat.le_refl _) hk).oown
    have hol := S1.olen (Nat.le_refl _) hk
    have hO20 := (HO.out k (Nat.le_refl _) hk).len HL.out.rep
    rw [e1] at y0 y1 y2 y3 hs hol
    rcases hoe : (L k).o with ⟨oA, on, oc⟩
    have hs : Slc (w.setCell ⟨(L k).mb, y, none⟩ (.slice (some ⟨b, off, none⟩) N cp)) base (L k).o.1 (L k).o.2.1 (L k).o.2.2 (ofP (L k).orb) := hs
    have hol : (L k).o.2.1 = (L k).orb.length := hol
    have y2 : (w.setCell ⟨(L k).mb, y, none⟩ (.slice (some ⟨b, off, none⟩) N cp)).cell? ⟨(L k).B, 2, none⟩ = some (sval (L k).o) := y2
    rw [hoe] at hs hol y2
    have hs : Slc (w.setCell ⟨(L k).mb, y, none⟩ (.slice (some ⟨b, off, none⟩) N cp)) base oA on oc (ofP (L k).orb) := hs
    have hol : on = (L k).orb.length := hol
    simp only [sval] at y2
    have Hoe := Lib.hid hoe
    have Orb0 := Lib.hid (HO.out k (Nat.le_refl _) hk)
    have hon : on ≤ 20 := by omega
    obtain ⟨wx, hwx⟩ : ∃ wx, w.setCell ⟨(L k).mb, y, none⟩ (.slice (some ⟨b, off, none⟩) N cp) = wx := ⟨_, rfl⟩
    rw [hwx] at y2 hs C1 Gw1
    have Hs := Lib.hid hs
    have Hzx : Hid (wx.heap.size = w.heap.size) := Lib.hid (by rw [← hwx]; simp)
    have Lit : Hid ((wx.alloc (.cells #[.int .i64 (y : Nat)] 2)).cell? ⟨wx.heap.size, 0, none⟩ = some (.int .i64 (y : Nat))) := Lib.hid (by rw [World.cell?_alloc_at _ _ _ _ rfl]; rfl)
    have BL : Hid (Below wx.heap.size wx (wx.alloc (.cells #[.int .i64 (y : Nat)] 2))) := Lib.hid ((Below.refl _ _).alloc (Nat.le_refl _) _)
    have PA : Hid (∀ (A4 : Option Addr) (c4 : Nat) (w4 : World), Slc w4 base A4 (on + 1) c4 (ofP (L k).orb ++ [(y : Int)]) → (wx.alloc (.cells #[.int .i64 (y : Nat)] 2)).grownBy w4 (Value.slice oA on oc).ownBlock →
        ((Value.slice A4 (on + 1) c4).ownBlock = (Value.slice oA on oc).ownBlock ∨ (Value.slice A4 (on + 1) c4).ownBlock = some (wx.alloc (.cells #[.int .i64 (y : Nat)] 2)).heap.size) →
        w4.cell? ⟨(L k).B, 2, none⟩ = some (.slice oA on oc) ∧ w4.frozen? ⟨(L k).B, 2, none⟩ = false ∧ ∃ (L' : Nat → LK) (M' : Nat → Prop), Ck (w4.setCell ⟨(L k).B, 2, none⟩ (.slice A4 (on + 1) c4)) base N k M' (c.set k y q) L' ∧ Orbs N k (c.set k y q) L' ∧ Gw w (w4.setCell ⟨(L k).B, 2, none⟩ (.slice A4 (on + 1) c4)) N k L L' M M' ∧ (L k).orb <+: (L' k).orb ∧ (L' k).g = (L k).g) := Lib.hid (by
      intro A4 c4 w4 s4 g4 hat
      have ho1 : (L1 k).o = (oA, on, oc) := by rw [E1.out]; exact Hoe.out
      have hb1 : (L1 k).orb = (L k).orb := by rw [E1.out]
      have hB1 : (L1 k).B = (L k).B := by rw [E1.out]
      have hg1 : (L1 k).g = (L k).g := by rw [E1.out]
      obtain ⟨M', K1, K2⟩ := C1.out.orbit hk BL.out (y := y) (A := A4) (n := on + 1) (cc := c4) (by rw [ho1]; exact g4) (by rw [hb1]; exact s4) (by rw [ho1]; exact hat)
      rw [hB1] at K1 K2
      have blk1 : Blk w4 (L k).B 92 #[.int .i64 (k : Nat), sval (L1 k).g, sval (L1 k).o, .slice (some ⟨(L1 k).mb, 0, none⟩) N N, ptr N L1 (k + 1)] := by
        have h0 := (C1.out.lk k (Nat.le_refl _) hk).blk
        rw [hB1] at h0
        have h1 := h0.chg (S := fun _ => False) (.of_below BL.out) (fun e => e)
        refine h1.grown g4 fun e => ?_
        have := (C1.out.dis k 0 k 2 (L k).B (Nat.le_refl _) hk (by decide) (Nat.le_refl _) hk (by decide) (by show some (L1 k).B = _; rw [hB1]) (by show (sval (L1 k).o).ownBlock = _; rw [ho1]; exact e.symm)).2
        omega
      refine ⟨by rw [blk1.cell 2, ho1]; rfl, blk1.frozen 2, _, M', K1, fun i a b => ?_, Gw1.out.trans K2, ?_, ?_⟩
      · by_cases ei : i = k
        · subst ei
          rw [upd_at]
          show Orb _ i ((L1 i).orb ++ [y])
          rw [hb1]
          exact Orb0.out.put Hz.out Hqn.out
        · rw [upd_ne ei, E1n.out i ei]
          exact (HO.out i a b).congr fun z => set_ne (.inl ei)
      · rw [upd_at]
        show (L k).orb <+: (L1 k).orb ++ [y]
        rw [hb1]; exact List.prefix_append _ _
      · rw [upd_at]; exact hg1)
    have Inc : Hid (Ic N k c (c.set k y q) q) := Lib.hid (by
      have h3 := Ic.put HL.out hk (by omega) h2N HQ.out (by rw [Ey.out]; exact hz)
      rw [Ey.out] at h3; exact h3)
    clear S1 G1 hx2 hL1 e1 e1n y0 y1 y3 y4 hs hol hO20 hoe em hz hqne
    try clear hol
    try clear hol
    go_enter Try.func126, Try.ntmps126
    go_wp2_with (first
      | (at_builtin; go_must (refine wpList_appI rfl _ _ rfl base oA on oc (ofP (L k).orb) rfl (Hs.out.alloc _) wx.heap.size (y : Int) rfl Lit.out (by omega) (by have := Hzx.out; simp; omega) ?_); intro A4 c4 w4 s4 g4 hat4; obtain ⟨v1, v2, v3⟩ := PA.out A4 c4 w4 s4 g4 hat4; have V3 := Lib.hid v3; clear s4 g4 hat4 v3))
    obtain ⟨L', M', K1, K2, K3, K4, K5⟩ := V3.out
    (try simp only [Exit.inBlock, Exit.then]); refine bodyPost_ret (results_none rfl _ _ _) rfl ?_
    exact ⟨rfl, c.set k y q, L', M', K1, K2, K3, Inc.out, K4, K5⟩
  · have hrd := em.2 hz
    rcases hde : (L k).en.getD y sd0 with ⟨dA, dn, dc⟩
    rw [hde] at x5 hrd
    obtain ⟨b2, off2, e⟩ := rd_not0 hrd hz
    have e : dA = some ⟨b2, off2, none⟩ := e
    subst e
    have RP := Lib.hid (HL.out.rep.at_ y hz).2.1
    obtain rfl : dn = N := by have h3 : (c.rep k y).length = dn := hrd.len; have := RP.out.2; omega
    have Rr : Hid (RI w w.heap.size (some ⟨b2, off2, none⟩) (c.rep k y)) := Lib.hid hrd.ri
    have Rq : Hid (RI w w.heap.size (some ⟨b, off, none⟩) q) := Lib.hid HD.out.ri
    have Rst := Lib.hid (HL.out.rest hk (by omega) h2N HQ.out (by rw [Ey.out]; exact hz))
    rw [Ey.out] at Rst
    have Hz := Lib.hid hz
    have eiv : Hid (invL (c.rep k y) dn = iv (c.rep k y)) := Lib.hid (by unfold iv; rw [RP.out.2])
    have ep : ptr dn L (k + 1) = .pointer (some ⟨(L (k + 1)).B, 0, none⟩) := if_pos hkN
    rw [ep] at x4
    have hB : (L k).B < w.heap.size := (HC.out.lk k (Nat.le_refl _) hk).blk.lt
    have hmb : (L k).mb < w.heap.size := (HC.out.mlt _ (HC.out.mm k 3 _ (Nat.le_refl _) hk (by decide) rfl)).2
    simp only [sval] at x5
    clear em hz hrd hde ep x1 x2
    go_enter Try.func126, Try.ntmps126
    go_wp2_with fail
    go_region_held3 (fun w' => w'.cell? ⟨(L k).B, 4, none⟩ = some (.pointer (some ⟨(L (k + 1)).B, 0, none⟩)) ∧ w'.cell? ⟨(L k).B, 3, none⟩ = some (.slice (some ⟨(L k).mb, 0, none⟩) dn dn) ∧ w'.cell? ⟨(L k).mb, y, none⟩ = some (.slice (some ⟨b2, off2, none⟩) dn dc))
      (first | exact ⟨x4, x3, x5⟩ | exact hS1 | exact hS2 | exact hS3 | go_keep)
      (first
        | (go_at_call 71; refine (implInv (some ⟨b2, off2, none⟩) dc dn (c.rep k y) _ ?_ ?_ ?_ h2N).mono ?_; (exact Rr.out); (exact Lib.hid RP.out.2); (exact Lib.hid RP.out.1); rintro e w1 ⟨A2, c2, rfl, s2, b1'⟩; have b1 : Below w.heap.size w w1 := ⟨b1'.os, b1'.tape, b1'.output, b1'.size, b1'.block⟩; have hS1 := And.intro ((b1.cell (p := ⟨(L k).B, 4, none⟩) hB).trans x4) (And.intro ((b1.cell (p := ⟨(L k).B, 3, none⟩) hB).trans x3) ((b1.cell (p := ⟨(L k).mb, y, none⟩) hmb).trans x5)))
        | (go_at_call 70; refine (implThen (some ⟨b, off, none⟩) A2 cp c2 dn q (invL (c.rep k y) dn) w1 ?_ ?_ ?_ ?_ ?_ h2N).mono ?_; (exact Rq.out.up b1); (exact s2.ri_); (exact Lib.hid QP.out.2); (exact s2.hid); (exact Lib.hid QP.out.1); rintro e w2 ⟨A3, c3, rfl, s3, b2'⟩; have hS2 := And.intro ((b2'.cell (p := ⟨(L k).B, 4, none⟩) (Nat.lt_of_lt_of_le hB b1.size)).trans hS1.1) (And.intro ((b2'.cell (p := ⟨(L k).B, 3, none⟩) (Nat.lt_of_lt_of_le hB b1.size)).trans hS1.2.1) ((b2'.cell (p := ⟨(L k).mb, y, none⟩) (Nat.lt_of_lt_of_le hmb b1.size)).trans hS1.2.2)))
        | (go_at_call 98; refine (AD M c L A3 c3 (compL q (invL (c.rep k y) dn)) w2 ?_ ?_ ?_ ?_ ?_ ?_).mono ?_; (exact ((HC.out.up b1).up b2').above (Nat.le_succ k)); (exact fun i a b => HO.out i (by omega) b); (exact Rd.of_slc (d := (A3, dn, c3)) s3 fun b e => Nat.lt_of_lt_of_le (HC.out.mlt b e).2 b1.size); (rw [eiv.out]; exact Rst.out.1); (rw [eiv.out]; exact Rst.out.2); (exact HL.out.up); rintro e w3 ⟨c', L', M', rfl, hc3, ho3, hg3, hap⟩; have hS3 := And.intro ((cells_gw hg3 ((HC.out.up b1).up b2') hk (L k).B 4 (.inl rfl)).trans hS2.1) (And.intro ((cells_gw hg3 ((HC.out.up b1).up b2') hk (L k).B 3 (.inl rfl)).trans hS2.2.1) ((cells_gw hg3 ((HC.out.up b1).up b2') hk (L k).mb y (.inr rfl)).trans hS2.2.2))))
    have er : c'.rep k = c.rep k := funext fun z => hap.grw.rep k z (by omega)
    have eg : c'.gen k = c.gen k := hap.grw.gen k (by omega)
    have C2 := (HC.out.up b1).up b2'
    have K1 := C2.down hk hc3 hg3 er eg
    have K3 : Gw w w3 dn k L L' M M' := (Gw.of_below (b1.trans (b2'.mono b1.size))).trans (hg3.down C2)
    have hLk := hg3.keep k (by omega)
    have K2 : Orbs dn k c' L' := fun i a b => by
      by_cases ei : i = k
      · subst ei
        rw [hLk]
        exact (HO.out i a b).congr fun z => by rw [er]
      · exact ho3 i (by omega) b
    have K4 : Ic dn k c c' q := Ic.old HL.out hk (by omega) h2N HQ.out (by rw [Ey.out]; exact Hz.out) (by rw [Ey.out, ← eiv.out]; exact hap)
    go_end0
    exact ⟨c', L', M', rfl, K1, K2, K3, K4, by rw [hLk]; exact List.prefix_rfl, by rw [hLk]⟩
end Go.Proofs.Ytcjcmhoalomjfaa

/- The program's add: a permutation that fixes every point before the base is added to a link. Conditions: at most 20 points; the chain whole from the link on. -/
namespace Go.Proofs.Ytcjcmhoalomjfaa
open Go.RowKit

theorem boolOf (P : Prop) : ∃ b : Bool, b = true ↔ P := by
  by_cases h : P
  · exact ⟨true, fun _ => h, fun _ => rfl⟩
  · exact ⟨false, fun e => (Bool.false_ne_true e).elim, fun e => (h e).elim⟩

set_option maxHeartbeats 8000000 in
set_option maxRecDepth 100000 in
theorem implAdd1 (base N k : Nat) (hk : k < N) (h2N : N ≤ 20) (IN : k + 1 < N → INs base N k) : ADs base N k := by
  intro M c L A cp p w hc ho hd hP hF hU
  obtain ⟨ans, hans⟩ := boolOf (Mb (c.gen k) N p)
  have Ha := Lib.hid hans
  have HC := Lib.hid hc
  have HO := Lib.hid ho
  have HD := Lib.hid hd
  have HP := Lib.hid hP
  have HF := Lib.hid hF
  have HU := Lib.hid hU
  have hbs : base ≤ w.heap.size := by have := hc.mlt _ (hc.mm k 0 _ (Nat.le_refl _) hk (by decide) rfl); omega
  clear hc ho hd hP hF hU hans
  go_enter Try.func98, Try.ntmps98
  go_wp2_with fail
  refine (implContains base N k cp M c L A p w HC.out hk HU h2N HD.out.ri HP HF ans Ha).mono ?_
  rintro e w1 ⟨rfl, b1⟩
  have C1 := Lib.hid (HC.out.up b1)
  have D1 := Lib.hid (HD.out.up b1)
  have B1 := Lib.hid b1
  rcases ans with _ | _
  · have NM : Hid (¬ Mb (c.gen k) N p) := Lib.hid fun h => Bool.false_ne_true (Ha.out.2 h)
    have NS : Hid (¬ Sv N c k p) := Lib.hid fun h => NM.out ((HU.out.sv k (Nat.le_refl _) (by omega) p).1 h)
    have hk1 : k + 1 < N := by
      rcases Nat.lt_or_ge (k + 1) N with h | h
      · exact h
      · exact absurd (sv_last HU.out (by omega) (by omega) h2N HP.out HF.out) NS.out
    obtain ⟨b, hA⟩ : ∃ b : Nat × Nat, A = some ⟨b.1, b.2, none⟩ := by
      obtain ⟨b, off, e, _⟩ := D1.out.at_ (by rw [HP.out.2]; omega)
      exact ⟨(b, off), e⟩
    obtain ⟨b, off⟩ := b
    have hA : A = some ⟨b, off, none⟩ := hA
    subst hA
    obtain ⟨x0, x1, x2, x3, x4⟩ := C1.out.cB (Nat.le_refl _) hk
    have hl := C1.out.lk k (Nat.le_refl _) hk
    have ho := hl.gown
    obtain ⟨G, hG⟩ : ∃ G, (c.gen k).length = G := ⟨_, rfl⟩
    have HG := Lib.hid hG
    have hG4 : G ≤ 400 := by
      rw [← hG]
      have h1 := HU.out.len k (Nat.le_refl _) hk
      have h2 := cnt_le N c k
      have h3 := Nat.mul_le_mul h2N h2N
      omega
    rcases hgv : (L k).g with ⟨gA, gn, gc⟩
    rw [hgv, hG] at ho
    rw [hgv] at x1
    obtain rfl : gn = G := by
      rcases ho.2 with ⟨e, h0⟩ | ⟨g', cap, cur, e, _⟩
      · unfold sval at e; injection e with _ e2 _; have e2 : gn = 0 := e2; omega
      · unfold sval at e; injection e with _ e2 _
    have ho : w1.ownsRow base 69 1 (.slice gA gn gc) gn ((L k).ge.map sval) := ho
    simp only [sval] at x1
    have Ho := Lib.hid ho
    have Hgv := Lib.hid hgv
    rcases hov : (L k).o with ⟨oA, on, oc⟩
    have hol := C1.out.olen (Nat.le_refl _) hk
    rw [hov] at hol
    have hol : on = (L k).orb.length := hol
    have Hol := Lib.hid hol
    have Hov := Lib.hid hov
    have hO20 := (HO.out k (Nat.le_refl _) hk).len (HU.out.rep k (Nat.le_refl _) hk)
    have hon : on ≤ N := by omega
    clear hol hO20
    try clear hol
    clear hov
    have fzB := hl.blk.frozen 1
    have bw1 : base ≤ w1.heap.size := by have := B1.out.size; omega
    obtain ⟨Lt, hLt⟩ : ∃ Lt, Obj.cells #[Value.slice (some ⟨b, off, none⟩) N cp] 69 = Lt := ⟨_, rfl⟩
    have Lit : Hid ((w1.alloc (.cells #[.slice (some ⟨b, off, none⟩) N cp] 69)).cell? ⟨w1.heap.size, 0, none⟩ = some (sval (some ⟨b, off, none⟩, N, cp))) := Lib.hid (by rw [World.cell?_alloc_at _ _ _ _ rfl]; rfl)
    have BL : Hid (Below w1.heap.size w1 (w1.alloc (.cells #[.slice (some ⟨b, off, none⟩) N cp] 69))) := Lib.hid ((Below.refl _ _).alloc (Nat.le_refl _) _)
    have PA : Hid (∀ (A4 : Option Addr) (c4 : Nat) (w4 : World), w4.ownsRow base 69 1 (.slice A4 (gn + 1) c4) (gn + 1) ((L k).ge.map sval ++ [sval (some ⟨b, off, none⟩, N, cp)]) → (w1.alloc (.cells #[.slice (some ⟨b, off, none⟩) N cp] 69)).grownBy w4 (Value.slice gA gn gc).ownBlock →
        ((Value.slice A4 (gn + 1) c4).ownBlock = (Value.slice gA gn gc).ownBlock ∨ (Value.slice A4 (gn + 1) c4).ownBlock = some (w1.alloc (.cells #[.slice (some ⟨b, off, none⟩) N cp] 69)).heap.size) →
        (w4.setCell ⟨(L k).B, 1, none⟩ (.slice A4 (gn + 1) c4)).cell? ⟨(L k).B, 2, none⟩ = some (.slice oA on oc) ∧ w4.cell? ⟨(L k).B, 1, none⟩ = some (.slice gA gn gc) ∧ w4.frozen? ⟨(L k).B, 1, none⟩ = false ∧ ∃ (L' : Nat → LK) (M' : Nat → Prop), Ck (w4.setCell ⟨(L k).B, 1, none⟩ (.slice A4 (gn + 1) c4)) base N k M' (c.push k p) L' ∧ Orbs N k (c.push k p) L' ∧ Gw w (w4.setCell ⟨(L k).B, 1, none⟩ (.slice A4 (gn + 1) c4)) N k L L' M M' ∧ (L' k).orb = (L k).orb ∧ (L' k).g = (A4, gn + 1, c4)) := Lib.hid (by
      intro A4 c4 w4 s4 g4 hat
      obtain ⟨M', K1, K2⟩ := C1.out.pushg hk BL.out (q := p) (d := (some ⟨b, off, none⟩, N, cp)) (A := A4) (n := gn + 1) (cc := c4) (by rw [Hgv.out]; exact g4) (by rw [HG.out]; exact s4) (by rw [Hgv.out]; exact hat) D1.out
      have blk1 : Blk w4 (L k).B 92 #[.int .i64 (k : Nat), sval (L k).g, sval (L k).o, .slice (some ⟨(L k).mb, 0, none⟩) N N, ptr N L (k + 1)] := by
        have h0 := (C1.out.lk k (Nat.le_refl _) hk).blk
        have h1 := h0.chg (S := fun _ => False) (.of_below BL.out) (fun e => e)
        refine h1.grown g4 fun e => ?_
        have := (C1.out.dis k 0 k 1 (L k).B (Nat.le_refl _) hk (by decide) (Nat.le_refl _) hk (by decide) rfl (by show (sval (L k).g).ownBlock = _; rw [Hgv.out]; exact e.symm)).2
        omega
      refine ⟨?_, by rw [blk1.cell 1, Hgv.out]; rfl, blk1.frozen 1, _, M', K1, fun i a b => ?_, (Gw.of_below B1.out).trans K2, ?_, ?_⟩
      · have h3 := (K1.cB (Nat.le_refl _) hk).2.2.1
        rw [upd_at] at h3
        have h3 : (w4.setCell ⟨(L k).B, 1, none⟩ (.slice A4 (gn + 1) c4)).cell? ⟨(L k).B, 2, none⟩ = some (sval (L k).o) := h3
        rw [Hov.out] at h3; exact h3
      · by_cases ei : i = k
        · subst ei
          rw [upd_at]
          exact (HO.out i a b).congr fun z => rfl
        · rw [upd_ne ei]
          exact (HO.out i a b).congr fun z => rfl
      · rw [upd_at]
      · rw [upd_at])
    have P0 : Hid (Low N (c.push k p) k) := Lib.hid (HU.out.pushed hk (by omega) h2N HP.out HF.out)
    clear hl ho hG hgv b1 HC HD hLt
    go_wp2_with (first
      | (at_builtin; go_must (refine wpList_appP rfl _ _ rfl base (.slice gA gn gc) gn ((L k).ge.map sval) rfl (World.ownsRow.alloc Ho.out _) w1.heap.size (some ⟨b, off, none⟩, N, cp) rfl Lit.out (by omega) (by simp; omega) ?_); intro A4 c4 w4 s4 g4 hat4; obtain ⟨v0, v1, v2, v3⟩ := PA.out A4 c4 w4 s4 g4 hat4; have V3 := Lib.hid v3; clear s4 g4 hat4 v3))
    obtain ⟨L3, M3, hc3, ho3, hg3, horb3, hgk3⟩ := V3.out
    generalize w4.setCell ⟨(L k).B, 1, none⟩ (.slice A4 (gn + 1) c4) = w5 at v0 hc3 hg3 ⊢
    have St : Hid (Bf N k (c.push k p) (c.push k p) (L3 k).orb p on 0 0) := Lib.hid (by
      have h3 := Bf.start (p := p) P0.out (ho3 k (Nat.le_refl _) hk)
      have e3 : (L3 k).orb.length = on := by rw [horb3, Hol.out]
      rw [e3] at h3; exact h3)
    have C3 := Lib.hid hc3
    have O3 := Lib.hid ho3
    have G3 := Lib.hid hg3
    have glen : ((c.push k p).gen k).length = gn + 1 := by rw [push_at, List.length_append, HG.out]; rfl
    have Gl := Lib.hid glen
    clear hc3 ho3 hg3 horb3 hgk3 v1 v2 V3 PA glen BL Lit fzB x1 x0 x2 x3 x4
    go_loopg [5, 6, 7, 9] N (fun gg iv _ _ _ wr => ∃ (i : Nat) (cj : Ch) (Lj : Nat → LK) (Mj : Nat → Prop), i ≤ (Lj k).orb.length ∧ N - i ≤ gg ∧ iv = .int .i64 (i : Nat) ∧ Ck wr base N k Mj cj Lj ∧ Orbs N k cj Lj ∧ Gw w wr N k L Lj M Mj ∧ Bf N k (c.push k p) cj (Lj k).orb p on i 0)
    case atStart => exact ⟨0, c.push k p, L3, M3, Nat.zero_le _, by omega, rfl, C3.out, O3.out, G3.out, St.out⟩
    case round =>
      clear C3 O3 G3 St
      obtain ⟨i, cj, Lj, Mj, hi, hgg, rfl, hc, ho, hg, hbf⟩ := hrel
      have Cj := Lib.hid hc
      have Oj := Lib.hid ho
      have Gj := Lib.hid hg
      have Bj := Lib.hid hbf
      have hBk : (Lj k).B = (L k).B := hg.ptr k
      obtain ⟨x0, x1, x2, x3, x4⟩ := hc.cB (Nat.le_refl _) hk
      rw [hBk] at x0 x1 x2 x3 x4
      have hlenj := hc.olen (Nat.le_refl _) hk
      have hOr := ho k (Nat.le_refl _) hk
      have h20 := hOr.len hbf.low.rep
      have hbl := hbf.len
      have eg : (cj.gen k).length = gn + 1 := by rw [hbf.gen]; exact Gl.out
      obtain ⟨m, hm⟩ : ∃ m, (Lj k).orb.length = m := ⟨_, rfl⟩
      have Hm := Lib.hid hm
      rw [hm] at hi h20 hbl hlenj
      by_cases hlt : i < m
      · obtain ⟨ob, oc2, hoe, x6⟩ := hc.cO (Nat.le_refl _) hk (j := i) (by rw [hm]; exact hlt)
        rw [hoe] at x2
        rw [hm] at x2
        obtain ⟨y, ey⟩ : ∃ y, (Lj k).orb.getD i 0 = y := ⟨_, rfl⟩
        rw [ey] at x6
        have hyO : y ∈ (Lj k).orb := by rw [← ey, List.getD_eq_getElem?_getD, List.getElem?_eq_getElem (by rw [hm]; exact hlt)]; exact List.getElem_mem _
        have hry : cj.rep k y ≠ [] := (hOr.2 y).1 hyO
        obtain ⟨hy, hrP, hrF, hrk⟩ := hbf.low.rep.at_ y hry
        have x7 := hc.cM (Nat.le_refl _) hk hy
        have hrd := (hc.eM (Nat.le_refl _) hk hy).2 hry
        rcases hde : (Lj k).en.getD y sd0 with ⟨dA, dn, dc⟩
        rw [hde] at x7 hrd
        obtain ⟨gq, gcq, hge, hcap, x8, hrg⟩ := hc.cG (Nat.le_refl _) hk (j := 0) (by omega)
        rw [hge] at x1
        rw [eg] at x1 hcap
        simp only [sval] at x1 x2 x7
        have q0 : (0 : Int) ≤ i := by omega
        have q1 : (i : Int) < m := by omega
        have q2 : (0 : Int) ≤ y := by omega
        have q3 : (y : Int) < N := by omega
        have Ey := Lib.hid ey
        have Hry := Lib.hid hry
        have Rd0 := Lib.hid hrd
        have Hge := Lib.hid hge
        have RP := Lib.hid hrP
        clear hc ho hg hbf hlenj hOr hm hoe hyO hry hrP hrF hrk hde hrd hge x8 hrg ey eg
        go_wp2_with fail
        go_quiet (fail)
        have B3 : Hid (Below wr.heap.size wr (wr.drewN nq)) := Lib.hid (pcDrewBelow wr nq)
        obtain ⟨wz, hwz⟩ : ∃ wz, wr.drewN nq = wz := ⟨_, rfl⟩
        rw [hwz] at B3 ⊢
        have Cz := Lib.hid (Cj.out.up B3.out)
        have Rz := Lib.hid (Rd0.out.up B3.out)
        have Gz : Hid (Gw w wz N k L Lj M Mj) := Lib.hid (Gj.out.trans (.of_below B3.out))
        clear hwz B3 Cj Rd0 Gj
        go_upto_if 56 with fail
        go_cut [7] from 28 to 73 (fun gv wx => wx = wz ∧ ∃ (of gl cc : Nat), gv = .slice (some ⟨gq, of, none⟩) gl cc ∧ ((i < on ∧ of = gn ∧ gl = 1) ∨ (on ≤ i ∧ of = 0 ∧ gl = gn + 1)))
        case first =>
          by_cases hin : i < on
          · have d0 : decide ((i : Int) < (on : Int)) = true := by simp; omega
            go_wp2_with fail
            go_meet
            exact ⟨rfl, gn, 1, _, rfl, .inl ⟨hin, rfl, rfl⟩⟩
          · have d0 : decide ((i : Int) < (on : Int)) = false := by simp; omega
            go_wp2_with fail
            go_meet
            exact ⟨rfl, 0, gn + 1, _, rfl, .inr ⟨by omega, rfl, rfl⟩⟩
        case rest =>
          obtain ⟨rfl, of, gl, cc, rfl, hgs⟩ := hcut
          have Gs := Lib.hid hgs
          have Gal : Hid ((gsA on ((c.push k p).gen k) p i).length = gl) := Lib.hid (by
            unfold gsA
            rcases hgs with ⟨h1, _, h3⟩ | ⟨h1, _, h3⟩
            · rw [if_pos h1, h3]; rfl
            · rw [if_neg (by omega), Gl.out, h3])
          have hgl4 : gl ≤ 401 := by omega
          have hofl : of + gl = gn + 1 := by omega
          obtain rfl : dn = N := by have h3 : (cj.rep k y).length = dn := Rz.out.len; have := RP.out.2; omega
          clear hgs
          go_wp2_with fail
          go_loopg [9, 64] gl (fun gg _ jv wr => ∃ (j : Nat) (ci : Ch) (Li : Nat → LK) (Mi : Nat → Prop), j ≤ gl ∧ gl - j ≤ gg ∧ jv = .int .i64 (j : Nat) ∧ Ck wr base dn k Mi ci Li ∧ Orbs dn k ci Li ∧ Gw w wr dn k L Li M Mi ∧ Bf dn k (c.push k p) ci (Li k).orb p on i j ∧ (Li k).g = (Lj k).g ∧ (Lj k).orb <+: (Li k).orb ∧ ci.rep k y = cj.rep k y ∧ Rd wr Mi (dA, dn, dc) (cj.rep k y))
          case atStart => exact ⟨0, cj, Lj, Mj, Nat.zero_le _, by omega, rfl, Cz.out, Oj.out, Gz.out, Bj.out, rfl, List.prefix_rfl, rfl, Rz.out⟩
          case round =>
            clear Cz Gz Rz
            obtain ⟨j, ci, Li, Mi, hj, hgg2, rfl, hc, ho, hg, hbf, hgk, hpre, hrep, hrd⟩ := hrel
            have Ci := Lib.hid hc
            have Oi := Lib.hid ho
            have Gi := Lib.hid hg
            have Bi := Lib.hid hbf
            have Gk := Lib.hid hgk
            have Pre := Lib.hid hpre
            have Rep := Lib.hid hrep
            have Rdi := Lib.hid hrd
            have gen1 : ci.gen k = c.gen k ++ [p] := by rw [hbf.gen, push_at]
            by_cases hjl : j < gl
            · obtain ⟨gq', gc', hge', _, x8, hrg⟩ := hc.cG (Nat.le_refl _) hk (j := of + j) (by rw [gen1, List.length_append, HG.out]; simp; omega)
              rw [hgk, Hge.out] at hge'
              obtain ⟨rfl, rfl⟩ : gq = gq' ∧ gcq = gc' := by
                injection hge' with h1 h2
                injection h1 with h1
                injection h1 with h1
                injection h2 with _ h2
                exact ⟨h1, h2⟩
              rcases hde : (Li k).ge.getD (of + j) sd0 with ⟨eA, en, ec⟩
              rw [hde] at x8 hrg
              obtain ⟨h, eh⟩ : ∃ h, (ci.gen k).getD (of + j) [] = h := ⟨_, rfl⟩
              rw [eh] at hrg
              have egs : (gsA on ((c.push k p).gen k) p i).getD j [] = h := by
                rw [← eh, gen1]
                unfold gsA
                rcases Gs.out with ⟨h1, h2, h3⟩ | ⟨h1, h2, h3⟩
                · obtain rfl : j = 0 := by omega
                  rw [if_pos h1, h2, getD_snoc _ _ _ (gn + 0) (by rw [HG.out]; rfl)]; rfl
                · rw [if_neg (by omega), h2, push_at, Nat.zero_add]
              have hilt : i < (Li k).orb.length := Nat.lt_of_lt_of_le (by rw [Hm.out]; exact hlt) hpre.length_le
              have eyi : (Li k).orb.getD i 0 = y := by rw [getD_pre hpre (by rw [Hm.out]; exact hlt)]; exact Ey.out
              obtain ⟨k1, k2, k3⟩ := hbf.mb (ho k (Nat.le_refl _) hk) hilt (by rw [Gal.out]; exact hjl)
              rw [egs, eyi, hrep] at k1
              rw [egs] at k3
              have hP2 := (hbf.low.gp h k3).1
              obtain rfl : en = dn := by have h3 : h.length = en := hrg.len; have := hP2.2; omega
              have K1 := Lib.hid k1
              have Egs := Lib.hid egs
              have Eyi := Lib.hid eyi
              have Hp2 := Lib.hid hP2
              have Rgi := Lib.hid hrg
              have Hil := Lib.hid hilt
              simp only [sval] at x8
              have q4 : (0 : Int) ≤ j := by omega
              have q5 : (j : Int) < gl := by omega
              clear hc ho hg hbf hgk hpre hrep hrd gen1 hge' hde eh egs hilt eyi k1 k2 k3 hP2 hrg
              go_wp2_with fail
              refine (implThen dA eA dc ec en (cj.rep k y) h wr Rdi.out.ri Rgi.out.ri (Lib.hid RP.out.2) (Lib.hid Hp2.out.2) (Lib.hid RP.out.1) h2N).mono ?_
              rintro e w3 ⟨A3, c3, rfl, s3, b3⟩
              have C4 := Lib.hid (Ci.out.up b3)
              have R4 : Hid (Rd w3 Mi (A3, en, c3) (compL (cj.rep k y) h)) := Lib.hid (Rd.of_slc (d := (A3, en, c3)) s3 fun b e => (Ci.out.mlt b e).2)
              have G4 : Hid (Gw w w3 en k L Li M Mi) := Lib.hid (Gi.out.trans (.of_below b3))
              have D4 := Lib.hid (Rdi.out.up b3)
              have eBi : (Li k).B = (L k).B := Gi.out.ptr k
              have EBi := Lib.hid eBi
              clear s3 b3 eBi
              go_wp2_with fail
              have KI := IN hk1 Mi ci Li A3 c3 (compL (cj.rep k y) h) w3 C4.out Oi.out R4.out Bi.out.low K1.out
              rw [EBi.out] at KI
              refine KI.mono ?_
              rintro e w4 ⟨c', L', M', rfl, hc4, ho4, hg4, hic, hpre4, hgk4⟩
              have C5 := Lib.hid hc4
              have O5 := Lib.hid ho4
              have G5 : Hid (Gw w w4 en k L L' M M') := Lib.hid (G4.out.trans hg4)
              have Bf5 : Hid (Bf en k (c.push k p) c' (L' k).orb p on i (j + 1)) := Lib.hid (Bi.out.next (Oi.out k (Nat.le_refl _) hk) Hil.out hpre4 (by rw [Egs.out, Eyi.out, Rep.out]; exact hic))
              have Gk5 : Hid ((L' k).g = (Lj k).g) := Lib.hid (hgk4.trans Gk.out)
              have Pre5 : Hid ((Lj k).orb <+: (L' k).orb) := Lib.hid (Pre.out.trans hpre4)
              have Rep5 : Hid (c'.rep k y = cj.rep k y) := Lib.hid (by
                rw [← Rep.out]; exact hic.grw.keep _ _ (by rw [Rep.out]; exact Hry.out))
              have D5 : Hid (Rd w4 M' (dA, en, dc) (cj.rep k y)) := Lib.hid (D4.out.gw hg4 C4.out.muM)
              clear KI hc4 ho4 hg4 hic hpre4 hgk4
              go_wp2_with fail
              go_roundg (gl - (j + 1))
              case rel => exact ⟨j + 1, c', L', M', by omega, by omega, by go_num, C5.out, O5.out, G5.out, Bf5.out, Gk5.out, Pre5.out, Rep5.out, D5.out⟩
              case measure => omega
            · obtain rfl : j = gl := by omega
              have Bf6 : Hid (Bf dn k (c.push k p) ci (Li k).orb p on (i + 1) 0) := Lib.hid (Bf.round (by rw [Gal.out]; exact Bi.out))
              have hil : i + 1 ≤ (Li k).orb.length := Nat.lt_of_lt_of_le (by rw [Hm.out]; exact hlt) hpre.length_le
              clear hc ho hg hbf hgk hpre hrep hrd gen1
              go_wp2_with fail
              go_roundg (dn - (i + 1))
              case rel => exact ⟨i + 1, ci, Li, Mi, hil, by omega, by go_num, Ci.out, Oi.out, Gi.out, Bf6.out⟩
              case measure => omega
      · obtain rfl : i = m := by omega
        have Fin : Hid (Ap N k c cj p) := Lib.hid (Bf.all HU.out hk (by omega) h2N HP.out HF.out NS.out (by rw [Hm.out]; exact Bj.out) hOr)
        simp only [sval] at x2
        clear hc ho hg hbf
        rcases hoe : (Lj k).o with ⟨oA2, on2, oc2⟩
        rw [hoe] at x2 hlenj
        have hlenj : on2 = i := hlenj
        subst hlenj
        simp only at x2
        clear hoe
        go_wp2_with fail
        go_end0
        exact ⟨rfl, cj, Lj, Mj, Cj.out, Oj.out, Gj.out, Fin.out⟩
  · have Fin : Hid (Ap N k c c p) := Lib.hid (.same HU.out (by omega) (by omega) h2N ((HU.out.sv k (Nat.le_refl _) (by omega) p).2 (Ha.out.1 rfl)))
    go_wp2_with fail
    (try simp only [Exit.inBlock, Exit.then]); refine bodyPost_ret (results_none rfl _ _ _) rfl ?_
    first
      | exact ⟨c, L, M, rfl, C1.out, HO.out, .of_below B1.out, Fin.out⟩
      | exact ⟨rfl, c, L, M, C1.out, HO.out, .of_below B1.out, Fin.out⟩
theorem implAdd (base N : Nat) (h2N : N ≤ 20) : ∀ m k, k + m + 1 = N → ADs base N k
  | 0, k, e => implAdd1 base N k (by omega) h2N fun h => absurd h (by omega)
  | m + 1, k, e => implAdd1 base N k (by omega) h2N fun h => implInclude base N k h h2N (implAdd base N h2N m (k + 1) (by omega))
end Go.Proofs.Ytcjcmhoalomjfaa

/- The program's chainOf: a chain whole from link 0 on, of what the generators generate. Conditions: at most 20 points, 8 generators. -/
namespace Go.Proofs.Ytcjcmhoalomjfaa
open Go.RowKit

/-- One link more, ahead of the others, in blocks of its own. -/
theorem ck_cons {w w' : World} {base N k : Nat} {M : Nat → Prop} {c : Ch} {L : Nat → LK} {l : LK} (h : Ck w base N (k + 1) M c L) (hb : Below w.heap.size w w') (hbs : base ≤ w.heap.size)
    (hl : Lk w' base N k (fun b => M b ∨ ∃ t, t < 4 ∧ mu l t = some b) (c.rep k) (c.gen k) (ptr N L (k + 1)) l)
    (hf : ∀ t b, t < 4 → mu l t = some b → w.heap.size ≤ b ∧ b < w'.heap.size) (hd : ∀ t t' b, t < 4 → t' < 4 → mu l t = some b → mu l t' = some b → t = t') :
    Ck w' base N k (fun b => M b ∨ ∃ t, t < 4 ∧ mu l t = some b) c (upd L k l) := by
  have hp : ∀ i, k ≤ i → ptr N (upd L k l) (i + 1) = ptr N L (i + 1) := fun i hi => by unfold ptr; rw [upd_ne (by omega)]
  have hx : ∀ i t t' b, k < i → i < N → t < 4 → t' < 4 → mu (L i) t = some b → mu l t' = some b → False := fun i t t' b a1 a2 a3 a4 e e' => by
    have := (h.mlt b (h.mm i t b a1 a2 a3 e)).2
    have := (hf t' b a4 e').1
    omega
  refine ⟨fun i a b => ?_, fun i t b a1 a2 a3 e => ?_, fun b e => ?_, fun i t i' t' b a1 a2 a3 a4 a5 a6 e e' => ?_⟩
  · rw [hp i a]
    by_cases ei : i = k
    · subst ei; rw [upd_at]; exact hl
    · rw [upd_ne ei]
      exact (h.lk i (by omega) b).keep (S := fun _ => False) (.of_below hb) (fun _ _ _ _ e => e) (fun _ e => e.elim) fun b e => by
        rcases e with e | ⟨t, a, e⟩
        · exact .inl e
        · exact .inr (hf t b a e).1
  · by_cases ei : i = k
    · subst ei; rw [upd_at] at e; exact .inr ⟨t, a3, e⟩
    · rw [upd_ne ei] at e; exact .inl (h.mm i t b (by omega) a2 a3 e)
  · have := hb.size
    rcases e with e | ⟨t, a, e⟩
    · have := h.mlt b e; omega
    · have := hf t b a e; omega
  · by_cases ei : i = k <;> by_cases ei' : i' = k
    · subst ei; subst ei'
      rw [upd_at] at e e'
      exact ⟨rfl, hd t t' b a3 a6 e e'⟩
    · subst ei
      rw [upd_at] at e
      rw [upd_ne ei'] at e'
      exact (hx i' t' t b (by omega) a5 a6 a3 e' e).elim
    · subst ei'
      rw [upd_at] at e'
      rw [upd_ne ei] at e
      exact (hx i t t' b (by omega) a2 a3 a6 e e').elim
    · rw [upd_ne ei] at e
      rw [upd_ne ei'] at e'
      exact h.dis i t i' t' b (by omega) a2 a3 (by omega) a5 a6 e e'
theorem orb0 {N k : Nat} (h1 : 1 ≤ N) : Orb (ch0 N) k [k] := by
  refine ⟨by simp, fun y => ?_⟩
  rw [List.mem_singleton]
  show y = k ↔ (if y = k then idL N else []) ≠ []
  by_cases e : y = k
  · rw [if_pos e]; exact ⟨fun _ e2 => by have := idL_length N; rw [e2] at this; simp at this; omega, fun _ => e⟩
  · rw [if_neg e]; exact ⟨fun h => absurd h e, fun h => absurd rfl h⟩
def lk0 : LK := ⟨0, sd0, [], sd0, 0, [], []⟩
/-- The rows of a new link. -/
theorem madeP {w : World} {base g n : Nat} (h : w.ownsRow base 69 1 (.slice (some ⟨g, 0, none⟩) n n) n (madeCells (Value.slice none 0 0).cells (n * 1)).toList) : w.ownsRow base 69 1 (.slice (some ⟨g, 0, none⟩) n n) n ((List.replicate n sd0).map sval) := by
  have e : (madeCells (Value.slice none 0 0).cells (n * 1)).toList = (List.replicate n sd0).map sval := by
    show (madeCells #[Value.slice none 0 0] (n * 1)).toList = _
    rw [toList_madeCells_one]; simp [sval, sd0]
  rw [← e]; exact h

theorem ck_new {wr wA : World} {base N k B1 c2 : Nat} {M : Nat → Prop} {L : Nat → LK} {po : Option Addr} {A2 : Option Addr} (h : Ck wr base N (k + 1) M (ch0 N) L) (hk : k < N) (hpo : ptr N L (k + 1) = .pointer po) (BA : Below wr.heap.size wr wA)
    (RA : wA.ownsRow base 69 1 (.slice (some ⟨wr.heap.size, 0, none⟩) N N) N (((List.replicate N sd0).set k (A2, N, c2)).map sval)) (hB1 : wr.heap.size < B1) (SA : Slc wA B1 A2 N c2 (idL N)) (hbs : base ≤ wr.heap.size) :
    ∃ (L' : Nat → LK) (M' : Nat → Prop), Ck ((wA.alloc (.cells #[.int .i64 (k : Nat)] 2)).alloc (.cells #[.int .i64 (k : Nat), .slice none 0 0, .slice (some ⟨wA.heap.size, 0, none⟩) 1 1, .slice (some ⟨wr.heap.size, 0, none⟩) N N, .pointer po] 92)) base N k M' (ch0 N) L' ∧
      (L' k).B = wA.heap.size + 1 ∧ (∀ i, k < i → L' i = L i) ∧ (L' k).orb = [k] ∧ (∀ b, M b → M' b) ∧ (∀ b, Mu N k L' b → Mu N (k + 1) L b ∨ wr.heap.size ≤ b) := by
  obtain ⟨l, hl⟩ : ∃ l : LK, l = ⟨wA.heap.size + 1, sd0, [], (some ⟨wA.heap.size, 0, none⟩, 1, 1), wr.heap.size, (List.replicate N sd0).set k (A2, N, c2), [k]⟩ := ⟨_, rfl⟩
  obtain ⟨W, hW⟩ : ∃ W, (wA.alloc (.cells #[.int .i64 (k : Nat)] 2)).alloc (.cells #[.int .i64 (k : Nat), .slice none 0 0, .slice (some ⟨wA.heap.size, 0, none⟩) 1 1, .slice (some ⟨wr.heap.size, 0, none⟩) N N, .pointer po] 92) = W := ⟨_, rfl⟩
  have hz : W.heap.size = wA.heap.size + 2 := by rw [← hW]; simp
  have bAW : Below wA.heap.size wA W := by rw [← hW]; exact ((Below.refl _ _).alloc (Nat.le_refl _) _).alloc (by simp) _
  have hzA := BA.size
  have hA0 : wr.heap.size < wA.heap.size := (World.ownsRow.lt RA wr.heap.size rfl).2
  have hmu : ∀ t b, t < 4 → mu l t = some b → b = wA.heap.size + 1 ∨ b = wA.heap.size ∨ b = wr.heap.size := fun t b ht e => by
    subst hl
    rcases t with _ | _ | _ | t
    · injection e with e; exact .inl e.symm
    · cases e
    · injection e with e; exact .inr (.inl e.symm)
    · injection e with e; exact .inr (.inr e.symm)
  rw [hW]
  refine ⟨upd L k l, fun b => M b ∨ ∃ t, t < 4 ∧ mu l t = some b, ck_cons h (BA.trans (bAW.mono hzA)) hbs ?_ (fun t b ht e => ?_) (fun t t' b a1 a2 e e' => ?_), by rw [upd_at, hl], fun i hi => upd_ne (by omega), by rw [upd_at, hl], fun b e => .inl e, fun b ⟨i, t, a1, a2, a3, e⟩ => by
    by_cases ei : i = k
    · subst ei
      rw [upd_at] at e
      have := hmu t b a3 e
      exact .inr (by omega)
    · rw [upd_ne ei] at e
      exact .inl ⟨i, t, by omega, a2, a3, e⟩⟩
  · have hM : ∀ b, (M b ∨ ∃ t, t < 4 ∧ mu l t = some b) → b < wr.heap.size ∨ b = wA.heap.size + 1 ∨ b = wA.heap.size ∨ b = wr.heap.size := fun b e => by
      rcases e with e | ⟨t, a, e⟩
      · exact .inl (h.mlt b e).2
      · exact .inr (hmu t b a e)
    refine ⟨?_, by subst hl; show base ≤ wA.heap.size + 1; omega, ?_, by subst hl; rfl, fun y hy => absurd hy (by show ¬ y < 0; omega), ?_, ?_, by subst hl; simp, fun y hy => ?_⟩
    · rw [hpo, ← hW]
      have := Blk.new (wA.alloc (.cells #[.int .i64 (k : Nat)] 2)) 92 #[.int .i64 (k : Nat), .slice none 0 0, .slice (some ⟨wA.heap.size, 0, none⟩) 1 1, .slice (some ⟨wr.heap.size, 0, none⟩) N N, .pointer po]
      rw [World.size_alloc] at this
      subst hl; exact this
    · subst hl; exact World.ownsRow_nil _ _ _ _
    · subst hl
      show Slc W base (some ⟨wA.heap.size, 0, none⟩) 1 1 (ofP [k])
      have h1 : (wA.alloc (.cells #[.int .i64 (k : Nat)] 2)).ownsRow base 2 1 (.slice (some ⟨wA.heap.size, 0, none⟩) 1 1) 1 [.int .i64 (k : Nat)] := World.ownsRow_lit (size := 1) wA #[.int .i64 (k : Nat)] 1 (by omega) (by decide) rfl
      rw [← hW]
      exact ⟨rfl, World.ownsRow.alloc h1 _⟩
    · subst hl
      rw [← hW]
      exact World.ownsRow.alloc (World.ownsRow.alloc RA _) _
    · subst hl
      show ((if y = k then idL N else []) = [] → ((List.replicate N sd0).set k (A2, N, c2)).getD y sd0 = sd0) ∧ ((if y = k then idL N else []) ≠ [] → Rd W _ (((List.replicate N sd0).set k (A2, N, c2)).getD y sd0) (if y = k then idL N else []))
      by_cases e : y = k
      · subst e
        rw [if_pos rfl, getD_set_eq (by simp; exact hy)]
        refine ⟨fun e => ?_, fun _ => ?_⟩
        · have := idL_length N; rw [e] at this; simp at this; omega
        · refine ⟨SA.1, SA.le.1, fun hp => ?_⟩
          obtain ⟨b, off, e, hb, hc⟩ := SA.ri_ hp
          have e : A2 = some ⟨b, off, none⟩ := e
          have hlo : B1 ≤ b := by
            rcases SA.at_ with ⟨e0, _⟩ | ⟨g, e0, h1, _⟩
            · rw [e0] at e; cases e
            · rw [e0] at e; injection e with e; injection e with e _; omega
          refine ⟨b, off, e, by omega, fun hm => ?_, fun j hj => (bAW.cell (p := ⟨b, off + j, none⟩) hb).trans (hc j hj)⟩
          have := hM b hm
          omega
      · rw [if_neg e, getD_set_ne (fun e2 => e e2.symm), getD_rep]
        exact ⟨fun _ => rfl, fun h => absurd rfl h⟩
  · have := hmu t b ht e
    omega
  · subst hl
    have hx : ∀ t, t < 4 → mu (⟨wA.heap.size + 1, sd0, [], (some ⟨wA.heap.size, 0, none⟩, 1, 1), wr.heap.size, (List.replicate N sd0).set k (A2, N, c2), [k]⟩ : LK) t = some b → (t = 0 ∧ b = wA.heap.size + 1) ∨ (t = 2 ∧ b = wA.heap.size) ∨ (t = 3 ∧ b = wr.heap.size) := fun t ht e => by
      rcases t with _ | _ | _ | t
      · injection e with e; exact .inl ⟨rfl, e.symm⟩
      · cases e
      · injection e with e; exact .inr (.inl ⟨rfl, e.symm⟩)
      · injection e with e; exact .inr (.inr ⟨by omega, e.symm⟩)
    have h3 := hx t a1 e
    have h4 := hx t' a2 e'
    omega

set_option maxHeartbeats 8000000 in
set_option maxRecDepth 100000 in
/-- With blocks X, from base on, that stay apart from the chain. -/
theorem implChainOfX (base N n cc : Nat) (X : Nat → Prop) (A : Option Addr) (vs : List SV) (gs : List (List Int)) (w : World) (hx : RR w base A n vs gs) (hbs : base ≤ w.heap.size) (hX : Hid (∀ b, X b → base ≤ b ∧ b < w.heap.size)) (hN1 : 1 ≤ N) (hN : N ≤ 20) (hn : n ≤ 8) (ok : Hid (∀ g ∈ gs, IsP g ∧ g.length = N)) :
    Calls Try.prog 54 #[.int .i64 (N : Nat), .slice A n cc] w fun e w' => ∃ (c : Ch) (L : Nat → LK) (M : Nat → Prop), e = .returned (.pointer (some ⟨(L 0).B, 0, none⟩)) ∧ Ck w' base N 0 M c L ∧ Orbs N 0 c L ∧ Whole N gs c ∧ (∀ b, X b → M b) ∧ (∀ b, Mu N 0 L b → w.heap.size ≤ b) ∧ Below w.heap.size w w' := by
  obtain ⟨i0, hi, hz0, hz1, hz2⟩ := info_parts infoP
  have HXb := Lib.hid hx
  have HX : Hid (RR w w.heap.size A n vs gs) := Lib.hid (hx.more hbs)
  have hlx : Hid (gs.length = n) := Lib.hid hx.lx
  clear hx
  go_enter Try.func54, Try.ntmps54
  go_wp2_with fail
  go_loopg [5, 6, 7] N (fun gg ch bv _ wr => ∃ (m : Nat) (L : Nat → LK) (M : Nat → Prop), m ≤ N ∧ m ≤ gg ∧ bv = .int .i64 ((m : Int) - 1) ∧ ch = ptr N L m ∧ Ck wr base N m M (ch0 N) L ∧ Orbs N m (ch0 N) L ∧ (∀ b, X b → M b) ∧ (∀ b, Mu N m L b → w.heap.size ≤ b) ∧ Below w.heap.size w wr)
  case atStart => exact ⟨N, fun _ => lk0, X, Nat.le_refl _, Nat.le_refl _, by go_num, (if_neg (by omega)).symm, ⟨fun i a b => absurd b (by omega), fun i _ _ a b => absurd b (by omega), fun b e => hX.out b e, fun i _ _ _ _ a b => absurd b (by omega)⟩, fun i a b => absurd b (by omega), fun _ e => e, fun b ⟨i, t, a1, a2, _⟩ => absurd a2 (by omega), Below.refl _ _⟩
  case round =>
    obtain ⟨m, L, M, hm, hgg, rfl, rfl, hc, ho, hxm, hmu0, bel⟩ := hrel
    have XM := Lib.hid hxm
    have MU := Lib.hid hmu0
    have C1 := Lib.hid hc
    have O1 := Lib.hid ho
    have Be := Lib.hid bel
    have hzr := bel.size
    clear hc ho hxm hmu0 bel
    rcases m with _ | k
    · have ep : ptr N L 0 = .pointer (some ⟨(L 0).B, 0, none⟩) := if_pos (by omega)
      rw [ep]
      have d0 : decide ((((0 : Nat) : Int) - 1) ≥ 0) = false := by decide
      have U0 := Lib.hid (upTo0 N hN1 hN)
      clear ep
      go_wp2_with fail
      go_loopg [9, 32] n (fun gg _ jv wr => ∃ (j : Nat) (c : Ch) (L' : Nat → LK) (M : Nat → Prop), j ≤ n ∧ n - j ≤ gg ∧ jv = .int .i64 (j : Nat) ∧ (L' 0).B = (L 0).B ∧ Ck wr base N 0 M c L' ∧ Orbs N 0 c L' ∧ Whole N (gs.take j) c ∧ (∀ b, X b → M b) ∧ (∀ b, Mu N 0 L' b → w.heap.size ≤ b) ∧ Below w.heap.size w wr)
      case atStart => exact ⟨0, ch0 N, L, M, Nat.zero_le _, by omega, rfl, rfl, C1.out, O1.out, ⟨U0.out, fun q => by rw [List.take_zero]; exact Iff.rfl⟩, XM.out, MU.out, Be.out⟩
      case round =>
        clear C1 O1 U0 Be XM MU
        obtain ⟨j, c, L', M, hj, hg2, rfl, hB, hc, ho, hw, hxm, hmu0, bel⟩ := hrel
        have XM := Lib.hid hxm
        have MU := Lib.hid hmu0
        have C2 := Lib.hid hc
        have O2 := Lib.hid ho
        have W2 := Lib.hid hw
        have HB := Lib.hid hB
        have Be := Lib.hid bel
        clear hc ho hw hB hxm hmu0
        by_cases hlt : j < n
        · obtain ⟨b, off, A5, l, c5, y, rfl, hb, hv, ey, x1, ri, ly, hl5⟩ := (HX.out.up Be.out).at_ hlt
          have ri0 : RI w base A5 y := by
            have := HXb.out.rows j hlt
            rw [hv, ey] at this; exact this
          have hyP := ok.out y (by rw [← ey]; exact getD_memL (by rw [hlx.out]; exact hlt))
          obtain rfl : l = N := by omega
          have Rdy : Hid (Rd wr M (A5, l, c5) y) := Lib.hid (.of_ri (ri0.below Be.out hbs) ly hl5 (Nat.le_trans hbs Be.out.size) fun b e => (C2.out.mlt b e).1)
          have YP : Hid (Pn l y) := Lib.hid hyP
          have Ey := Lib.hid ey
          have q0 : (0 : Int) ≤ j := by omega
          have q1 : (j : Int) < n := by omega
          clear hv ey hb ri ri0 hyP bel
          go_wp2_with fail
          have K := implAdd base l hN (l - 1) 0 (by omega) M c L' A5 c5 y wr C2.out O2.out Rdy.out YP.out Fx.zero W2.out.up
          rw [HB.out] at K
          refine K.mono ?_
          rintro e w3 ⟨c', L3, M', rfl, hc3, ho3, hg3, hap⟩
          have C4 := Lib.hid hc3
          have O4 := Lib.hid ho3
          have B4 : Hid ((L3 0).B = (L 0).B) := Lib.hid ((hg3.ptr 0).trans HB.out)
          have Be3 : Hid (Below w.heap.size w w3) := Lib.hid (Be.out.trans (hg3.chg.below (fun k hk => MU.out k hk) Be.out.size))
          have XM3 : Hid (∀ b, X b → M' b) := Lib.hid fun b e => hg3.mm b (XM.out b e)
          have MU3 : Hid (∀ b, Mu l 0 L3 b → w.heap.size ≤ b) := Lib.hid fun b e => by
            rcases hg3.mu b e with h | h
            · exact MU.out b h
            · exact Nat.le_trans Be.out.size h
          have W4 : Hid (Whole l (gs.take (j + 1)) c') := Lib.hid (by
            rw [List.take_succ_eq_append_getElem (by rw [hlx.out]; exact hlt)]
            have e1 : gs[j]'(by rw [hlx.out]; exact hlt) = y := by rw [← Ey.out, List.getD_eq_getElem?_getD, List.getElem?_eq_getElem (by rw [hlx.out]; exact hlt)]; rfl
            rw [e1]
            exact W2.out.next hN1 hN (fun g hg => ok.out g (List.mem_of_mem_take hg)) YP.out hap)
          clear K hc3 ho3 hg3 hap
          go_wp2_with fail
          go_roundg (n - (j + 1))
          case rel => exact ⟨j + 1, c', L3, M', by omega, by omega, by go_num, B4.out, C4.out, O4.out, W4.out, XM3.out, MU3.out, Be3.out⟩
          case measure => omega
        · obtain rfl : j = n := by omega
          have W3 : Hid (Whole N gs c) := Lib.hid (by have := W2.out; rwa [List.take_of_length_le (by rw [hlx.out]; exact Nat.le_refl _)] at this)
          go_wp2_with fail
          go_ret
          exact ⟨c, L', M, by rw [HB.out]; rfl, C2.out, O2.out, W3.out, XM.out, MU.out, Be.out⟩
    · obtain ⟨po, hpo⟩ : ∃ po, ptr N L (k + 1) = .pointer po := by
        unfold ptr
        by_cases h : k + 1 < N
        · exact ⟨_, if_pos h⟩
        · exact ⟨_, if_neg h⟩
      have Hpo := Lib.hid hpo
      rw [hpo]
      clear hpo
      have ek : (((k + 1 : Nat) : Int) - 1) = (k : Int) := by omega
      rw [ek]
      have p0 : (0 : Int) ≤ k := by omega
      have p1 : (k : Int) < N := by omega
      have d0 : decide ((k : Int) ≥ 0) = true := by simp
      clear ek
      go_wp2_with (first | (at_make; go_must (refine wpList_make_full _ rfl _ _ 90 rfl base 69 i0 (.slice none 0 0) 1 Try.underlying90 hi hz0 hz1 .i64 .i64 _ _ N rfl rfl rfl rfl (by rw [hz2]; omega) (by unfold maxLen; omega) (by omega) ?_); intro w1 hown1 hgrow1))
      have b1 : Below wr.heap.size wr w1 := (Below.refl _ _).grown hgrow1 (Nat.le_refl _) (fun k e => nomatch e)
      have r1 := madeP hown1
      have R1 := Lib.hid r1
      have B1 := Lib.hid b1
      clear hown1 hgrow1 r1 b1
      go_wp2_with fail
      refine (implId_core N w1 hN1 hN).mono ?_
      rintro e w2 ⟨A2, c2, rfl, s2, b2⟩
      have S2 := Lib.hid s2
      have B2 := Lib.hid b2
      have hr2 := ownsRow_chg R1.out (.of_below (M := fun _ => False) b2) fun _ _ e => e
      have R2 := Lib.hid hr2
      have y1 := hr2.cellAt k (by omega)
      have ey : ((List.replicate N sd0).map sval)[k]? = some (Value.slice none 0 0) := by
        rw [List.getElem?_map, List.getElem?_replicate, if_pos (by omega)]; rfl
      rw [ey] at y1
      have fz := hr2.frozenAt k
      clear s2 b2 hr2 ey
      obtain ⟨wA, hwA⟩ : ∃ wA, w2.setCell ⟨wr.heap.size, k, none⟩ (.slice A2 N c2) = wA := ⟨_, rfl⟩
      have zA : Hid (wA.heap.size = w2.heap.size) := Lib.hid (by rw [← hwA]; simp)
      have St := R2.out.stored k (.slice A2 N c2)
      rw [hwA] at St
      have SA : Hid (Slc wA w1.heap.size A2 N c2 (idL N)) := Lib.hid (S2.out.chgS (.of_grown St.2 (M := fun b => b = wr.heap.size) (by intro b e; injection e with e; exact e.symm)) fun b e e2 => by
        have h1 := (S2.out.lt_ b e).1
        have h2 := (World.ownsRow.lt R1.out wr.heap.size rfl).2
        omega)
      have RA : Hid (wA.ownsRow base 69 1 (.slice (some ⟨wr.heap.size, 0, none⟩) N N) N (((List.replicate N sd0).set k (A2, N, c2)).map sval)) := Lib.hid (by rw [List.map_set]; exact St.1)
      have Bw1 : Hid (wr.heap.size < w1.heap.size) := Lib.hid (World.ownsRow.lt R1.out wr.heap.size rfl).2
      have BA : Hid (Below wr.heap.size wr wA) := Lib.hid ((B1.out.trans (B2.out.mono B1.out.size)).grown St.2 (Nat.le_trans B1.out.size B2.out.size) (by intro b e; injection e with e; omega))
      have NW := Lib.hid (ck_new C1.out (by omega) Hpo.out BA.out RA.out Bw1.out SA.out (Nat.le_trans hbs hzr))
      clear St R1 R2 S2
      go_wp2_with fail
      obtain ⟨L', M', K1, K2, K3, K4, K5, K6⟩ := NW.out
      go_roundg k
      case rel =>
        refine ⟨k, L', M', by omega, by omega, rfl, ?_, K1, fun i a b => ?_, fun b e => K5 b (XM.out b e), fun b e => ?_, ?_⟩
        · have e1 : ptr N L' k = .pointer (some ⟨(L' k).B, 0, none⟩) := if_pos (by omega)
          rw [e1, K2]
        · by_cases ei : i = k
          · subst ei; rw [K4]; exact orb0 hN1
          · rw [K3 i (by omega)]; exact O1.out i (by omega) b
        · rcases K6 b e with h | h
          · exact MU.out b h
          · exact Nat.le_trans hzr h
        · exact (Be.out.trans (BA.out.mono hzr)).trans ((((Below.refl wA.heap.size wA).alloc (Nat.le_refl _) _).alloc (by simp) _).mono (by have := BA.out.size; omega))
      case measure => omega
theorem implChainOf (N n cc : Nat) (A : Option Addr) (vs : List SV) (gs : List (List Int)) (w : World) (hx : RR w w.heap.size A n vs gs) (hN1 : 1 ≤ N) (hN : N ≤ 20) (hn : n ≤ 8) (ok : Hid (∀ g ∈ gs, IsP g ∧ g.length = N)) :
    Calls Try.prog 54 #[.int .i64 (N : Nat), .slice A n cc] w fun e w' => ∃ (c : Ch) (L : Nat → LK) (M : Nat → Prop), e = .returned (.pointer (some ⟨(L 0).B, 0, none⟩)) ∧ Ck w' w.heap.size N 0 M c L ∧ Orbs N 0 c L ∧ Whole N gs c ∧ Below w.heap.size w w' :=
  (implChainOfX w.heap.size N n cc (fun _ => False) A vs gs w hx (Nat.le_refl _) (Lib.hid fun _ e => e.elim) hN1 hN hn ok).mono fun _ _ ⟨c, L, M, e, a, b, d, _, _, bel⟩ => ⟨c, L, M, e, a, b, d, bel⟩
end Go.Proofs.Ytcjcmhoalomjfaa

/- The program's order, OrbitSizes, GroupOrder, IsMember, LongestMemberPrefix. Conditions: at most 1048576 lists of at most 1048576 numbers. -/
namespace Go.Proofs.Ytcjcmhoalomjfaa
open Go.RowKit

section
variable {N k i : Nat} {c : Ch} {L : Nat → LK} {O : List Nat} {gs : List (List Int)}
theorem orb_nr (h : Orb c i O) (hr : RepOK N c i) : nr N c i N = O.length := by
  have a : ((List.range N).filter fun y => !(c.rep i y).isEmpty).length ≤ O.length := nd_subP (List.nodup_range.filter _) fun y hy => by
    rw [List.mem_filter, Bool.not_eq_true', List.isEmpty_eq_false_iff] at hy
    exact (h.2 y).2 hy.2
  have b : O.length ≤ ((List.range N).filter fun y => !(c.rep i y).isEmpty).length := nd_subP h.1 fun y hy => by
    rw [List.mem_filter, Bool.not_eq_true', List.isEmpty_eq_false_iff, List.mem_range]
    exact ⟨h.lt hr hy, (h.2 y).1 hy⟩
  unfold nr; omega
theorem ptr_at (hi : i < N) : ptr N L i = .pointer (some ⟨(L i).B, 0, none⟩) := if_pos hi
theorem ptr_end (hi : N ≤ i) : ptr N L i = .pointer none := if_neg (by omega)
end

set_option maxHeartbeats 2000000 in
/-- order, from link k on. -/
theorem implOrder (base N k0 k : Nat) (M : Nat → Prop) (c : Ch) (L : Nat → LK) (gs : List (List Int)) (w : World) (hc : Ck w base N k0 M c L) (ho : Orbs N k0 c L) (hw : Hid (Whole N gs c)) (hk : k0 ≤ k) (hkN : k ≤ N) (h1 : 1 ≤ N) (h2 : N ≤ 20) (hg : Hid (∀ g ∈ gs, Pn N g)) :
    Calls Try.prog 68 #[ptr N L k] w fun e w' => e = .returned (.int .i64 (pr (osL N c N) k (N - k))) ∧ w = w' := by
  have HC := Lib.hid hc
  have HO := Lib.hid ho
  have Hos := Lib.hid (hw.out.os h1 h2)
  clear hc ho
  go_enter Try.func68, Try.ntmps68
  go_wp2_with fail
  go_loopg [3, 4] N (fun gg o l wr => ∃ j : Nat, k ≤ j ∧ j ≤ N ∧ N - j ≤ gg ∧ l = ptr N L j ∧ o = .int .i64 (pr (osL N c N) k (j - k)) ∧ w = wr)
  case atStart => exact ⟨k, Nat.le_refl _, hkN, by omega, rfl, by rw [Nat.sub_self]; rfl, rfl⟩
  case round =>
    obtain ⟨j, hkj, hjN, hgg, rfl, rfl, rfl⟩ := hrel
    by_cases hlt : j < N
    · rw [ptr_at hlt]
      obtain ⟨x0, x1, x2, x3, x4⟩ := HC.out.cB (by omega) hlt
      have hol := HC.out.olen (by omega) hlt
      rcases hoe : (L j).o with ⟨oA, on, oc⟩
      rw [hoe] at x2 hol
      have hol : on = (L j).orb.length := hol
      have en : (osL N c N).getD j 0 = (on : Int) := by
        rw [osL_at hlt, orb_nr (HO.out j (by omega) hlt) (hw.out.up.rep j (Nat.zero_le _) hlt), hol]
      have e1 : pr (osL N c N) k (j - k) * (on : Int) = pr (osL N c N) k (j + 1 - k) := by
        rw [show j + 1 - k = (j - k) + 1 by omega]
        show _ = pr (osL N c N) k (j - k) * (osL N c N).getD (k + (j - k)) 0
        rw [show k + (j - k) = j by omega, en]
      have b1 := Hos.out.pr_le hg.out h1 h2 k (j + 1 - k) (by omega)
      have b2 := facts_le h2 (k + (j + 1 - k)) (by omega)
      have wr1 : IntKind.i64.wrap (pr (osL N c N) k (j - k) * (on : Int)) = pr (osL N c N) k (j + 1 - k) := by rw [e1, IntKind.wrap_i64]; omega
      simp only [sval] at x2
      clear hol hoe en e1 b1 b2 x0 x1 x3
      go_wp2_with fail
      go_roundg (N - (j + 1))
      case rel => exact ⟨j + 1, by omega, by omega, by omega, rfl, rfl, rfl⟩
      case measure => omega
    · obtain rfl : j = N := by omega
      rw [ptr_end (Nat.le_refl _)]
      go_wp2_with fail
      go_ret
      exact ⟨rfl, rfl⟩

set_option maxHeartbeats 1000000 in
theorem implIsPOf (a : Int) (A : Option Addr) (n c : Nat) (xs : List Int) (ans : Bool) (w : World) (hx : RI w w.heap.size A xs) (lx : Hid (xs.length = n)) (hn : n ≤ 2097152) (ha : Hid ((decide ((n : Int) = a) && isP xs) = ans)) :
    Calls Try.prog 69 #[.int .i64 a, .slice A n c] w fun e w' => e = .returned (.bool ans) ∧ Below w.heap.size w w' := by
  have HX := Lib.hid hx
  clear hx
  by_cases e1 : (n : Int) = a
  · subst e1
    have e0 : ((n : Int) == (n : Int)) = true := by simp
    have h1 : Hid (isP xs = ans) := Lib.hid (by rw [← ha.out]; simp)
    go_enter Try.func69, Try.ntmps69
    go_wp2_with (first | (go_at_call 106; refine (implIsP A c n xs w HX.out lx hn).mono ?_; rintro e w1 ⟨rfl, b1⟩; rw [h1.out]))
    go_ret
    exact ⟨rfl, b1⟩
  · have e0 : ((n : Int) == a) = false := by simpa using e1
    have h1 : Hid (ans = false) := Lib.hid (by rw [← ha.out]; simp [e1])
    go_enter Try.func69, Try.ntmps69
    go_wp2_with fail
    go_ret
    exact ⟨ret_bool h1.out.symm, Below.refl _ _⟩
theorem implIsPOfT (A : Option Addr) (n c : Nat) (xs : List Int) (w : World) (hx : RI w w.heap.size A xs) (lx : Hid (xs.length = n)) (hn : n ≤ 2097152) (ha : Hid (isP xs = true)) :
    Calls Try.prog 69 #[.int .i64 (n : Nat), .slice A n c] w fun e w' => e = .returned (.bool true) ∧ Below w.heap.size w w' :=
  implIsPOf n A n c xs true w hx lx hn (Lib.hid (by simp [ha.out]))

set_option maxHeartbeats 2000000 in
/-- GroupOrder. -/
theorem implGroupOrder : CtImI 24 IsOrd := by
  intro a A n c vs xss w g _
  have HX := Lib.hid g.rr
  have hlx : Hid (xss.length = n) := Lib.hid g.rr.lx
  have hn := g.hn
  have hl := Lib.hid g.hl
  clear g
  go_enter Try.func24, Try.ntmps24
  go_wp2_with fail
  refine (implGS a A n c vs xss w HX.out hn hl).mono ?_
  rintro e w1 ⟨rfl, b1⟩
  have B1 := Lib.hid b1
  have X1 := Lib.hid (HX.out.up b1)
  clear b1
  rcases hs : gB a xss with _ | _
  · have Fin : Hid (IsOrd a xss 0) := Lib.hid (.inr ⟨hs, rfl⟩)
    clear hs
    go_wp2_with fail
    go_ret
    exact ⟨_, rfl, Fin.out, B1.out⟩
  · obtain ⟨N, rfl, hN1, hN2, hg8, hpm, hok⟩ := gB_pm hs
    have Hs := Lib.hid hs
    have Ok := Lib.hid hok
    have hn8 : n ≤ 8 := by rw [← hlx.out]; exact hg8
    clear hs hpm hok hg8
    go_wp2_with fail
    refine (implChainOf N n c A vs xss w1 X1.out hN1 hN2 hn8 Ok).mono ?_
    rintro e w2 ⟨ch, L, M, rfl, hc, ho, hw, b2⟩
    have W2 := Lib.hid hw
    have B2 : Hid (Below w.heap.size w w2) := Lib.hid (btr B1.out b2)
    have K := implOrder w1.heap.size N 0 0 M ch L xss w2 hc ho W2 (Nat.le_refl _) (Nat.zero_le _) hN1 hN2 (Lib.hid Ok.out)
    rw [ptr_at (by omega)] at K
    have Fin : Hid (IsOrd N xss (pr (osL N ch N) 0 (N - 0))) := Lib.hid (.inl ⟨Hs.out, osL N ch N, by rw [Int.toNat_natCast]; exact hw.os hN1 hN2, by rw [prodL_pr, osL_len]; rfl⟩)
    clear hc ho hw b2
    go_wp2_with fail
    refine K.mono ?_
    rintro e w3 ⟨rfl, rfl⟩
    clear K
    go_wp2_with fail
    go_ret
    exact ⟨_, rfl, Fin.out, B2.out⟩



end Go.Proofs.Ytcjcmhoalomjfaa

/- The program's containsAll. Conditions: at most 20 points, 8 generators. -/
namespace Go.Proofs.Ytcjcmhoalomjfaa
open Go.RowKit

set_option maxHeartbeats 4000000 in
set_option maxRecDepth 100000 in
/-- containsAll. -/
theorem implContainsAll (base N n c : Nat) (M : Nat → Prop) (ch : Ch) (L : Nat → LK) (A : Option Addr) (vs : List SV) (gs xss : List (List Int)) (w : World) (hc : Ck w base N 0 M ch L) (hw : Hid (Whole N gs ch)) (hx : RR w w.heap.size A n vs xss) (ok : Hid (∀ g ∈ xss, IsP g ∧ g.length = N)) (h1 : 1 ≤ N) (h2 : N ≤ 20) (hn8 : n ≤ 8) (fin : Bool) (hf : Hid (fin = true ↔ ∀ x ∈ xss, Mb gs N x)) :
    Calls Try.prog 60 #[.pointer (some ⟨(L 0).B, 0, none⟩), .slice A n c] w fun e w' => e = .returned (.bool fin) ∧ Below w.heap.size w w' := by
  have HC := Lib.hid hc
  have HX := Lib.hid hx
  have hlx : Hid (xss.length = n) := Lib.hid hx.lx
  clear hc hx
  go_enter Try.func60, Try.ntmps60
  go_wp2_with fail
  go_loopg [6, 9] n (fun gg _ jv wr => ∃ j : Nat, j ≤ n ∧ n - j ≤ gg ∧ jv = .int .i64 (j : Nat) ∧ (∀ x ∈ xss.take j, Mb gs N x) ∧ Below w.heap.size w wr)
  case atStart => exact ⟨0, Nat.zero_le _, by omega, rfl, fun x hx => by simp at hx, Below.refl _ _⟩
  case round =>
    obtain ⟨j, hj, hgg, rfl, hall, bel⟩ := hrel
    have Al := Lib.hid hall
    have Be := Lib.hid bel
    have Cj := Lib.hid (HC.out.up bel)
    clear hall bel
    by_cases hlt : j < n
    · obtain ⟨b, off, A5, l, c5, y, rfl, hb, hv, ey, x1, ri, ly, hl5⟩ := (HX.out.up Be.out).at_ hlt
      have hym : y ∈ xss := by rw [← ey]; exact getD_memL (by rw [hlx.out]; exact hlt)
      have hyP := ok.out y hym
      obtain rfl : l = N := by omega
      have YP : Hid (Pn l y) := Lib.hid hyP
      have Ri := Lib.hid ri
      have Ey := Lib.hid ey
      obtain ⟨ans, hans⟩ := boolOf (Mb gs l y)
      have Ha := Lib.hid hans
      have Hym := Lib.hid hym
      have q0 : (0 : Int) ≤ j := by omega
      have q1 : (j : Int) < n := by omega
      clear hv ey hb ri hyP hans hym
      go_wp2_with fail
      refine (implContains base l 0 c5 M ch L A5 y wr Cj.out (by omega) (Lib.hid hw.out.up) h2 Ri.out YP (Lib.hid Fx.zero) ans (Lib.hid (Ha.out.trans (hw.out.mem y).symm))).mono ?_
      rintro e w4 ⟨rfl, b4⟩
      have B4 : Hid (Below w.heap.size w w4) := Lib.hid (btr Be.out b4)
      clear b4
      rcases ans with _ | _
      · have Fin : Hid (fin = false) := Lib.hid (by
          rcases hq : fin with _ | _
          · rfl
          · exact absurd (Ha.out.2 (hf.out.1 hq y Hym.out)) (by decide))
        go_wp2_with fail
        go_ret
        exact ⟨ret_bool Fin.out.symm, B4.out⟩
      · have Al2 : Hid (∀ x ∈ xss.take (j + 1), Mb gs l x) := Lib.hid fun x hx => by
          rw [List.take_succ_eq_append_getElem (by rw [hlx.out]; exact hlt)] at hx
          rcases List.mem_append.1 hx with hx | hx
          · exact Al.out x hx
          · have e1 : xss[j]'(by rw [hlx.out]; exact hlt) = y := by rw [← Ey.out, List.getD_eq_getElem?_getD, List.getElem?_eq_getElem (by rw [hlx.out]; exact hlt)]; rfl
            rw [List.mem_singleton.1 hx, e1]; exact Ha.out.1 rfl
        go_wp2_with fail
        go_roundg (n - (j + 1))
        case rel => exact ⟨j + 1, by omega, by omega, by go_num, Al2.out, B4.out⟩
        case measure => omega
    · obtain rfl : j = n := by omega
      have Fin : Hid (fin = true) := Lib.hid (hf.out.2 fun x hx => Al.out x (by rw [List.take_of_length_le (by rw [hlx.out]; exact Nat.le_refl _)]; exact hx))
      go_wp2_with fail
      go_ret
      exact ⟨ret_bool Fin.out.symm, Be.out⟩
end Go.Proofs.Ytcjcmhoalomjfaa

/- The program's IsSubgroup, SubgroupIndex, SameCoset. Conditions: at most 1048576 lists of at most 1048576 numbers. -/
namespace Go.Proofs.Ytcjcmhoalomjfaa
open Go.RowKit

set_option maxHeartbeats 4000000 in
set_option maxRecDepth 100000 in
/-- IsSubgroup. -/
theorem implIsSubgroup : CtImmB 20 IsSub := by
  intro a A n c vs xss M m cm us yss w g s _
  have HX := Lib.hid g.rr
  have HY := Lib.hid s.rr
  have hlx : Hid (xss.length = n) := Lib.hid g.rr.lx
  have hly : Hid (yss.length = m) := Lib.hid s.rr.lx
  have hn := g.hn
  have hm := s.hn
  have hl := Lib.hid g.hl
  have hl2 := Lib.hid s.hl
  clear g s
  go_enter Try.func20, Try.ntmps20
  rcases hs : gB a xss with _ | _
  · have Fin : Hid (IsSub a xss yss false) := Lib.hid ⟨fun h => (by cases h), fun h => (by have := h.1; rw [hs] at this; cases this)⟩
    have Hs := Lib.hid hs
    clear hs
    go_wp2_with (first
      | (go_at_call 59; refine (implGS a A n c vs xss w HX.out hn hl).mono ?_; rintro e w1 ⟨rfl, b1⟩; rw [Hs.out]; have B1 := Lib.hid b1; clear b1))
    go_ret
    exact ⟨_, rfl, Fin.out, B1.out⟩
  · have Hs := Lib.hid hs
    rcases hs2 : gB a yss with _ | _
    · have Fin : Hid (IsSub a xss yss false) := Lib.hid ⟨fun h => (by cases h), fun h => (by have := h.2.1; rw [hs2] at this; cases this)⟩
      have Hs2 := Lib.hid hs2
      clear hs hs2
      go_wp2_with (first
        | (go_at_call_of 59 (Value.slice A n c); refine (implGS a A n c vs xss w HX.out hn hl).mono ?_; rintro e w1 ⟨rfl, b1⟩; rw [Hs.out]; have B1 := Lib.hid b1; clear b1)
        | (go_at_call_of 59 (Value.slice M m cm); refine (implGS a M m cm us yss w1 (HY.out.up B1.out) hm hl2).mono ?_; rintro e w2 ⟨rfl, b2⟩; rw [Hs2.out]; have B2 := Lib.hid b2; clear b2))
      go_ret
      exact ⟨_, rfl, Fin.out, btr B1.out B2.out⟩
    · obtain ⟨N, rfl, hN1, hN2, hg8, hpm, hok⟩ := gB_pm hs
      obtain ⟨N', eN, _, _, hg8b, _, hok2⟩ := gB_pm hs2
      obtain rfl : N = N' := by omega
      have Hs2 := Lib.hid hs2
      have Ok := Lib.hid hok
      have Ok2 := Lib.hid hok2
      have hn8 : n ≤ 8 := by rw [← hlx.out]; exact hg8
      have hm8 : m ≤ 8 := by rw [← hly.out]; exact hg8b
      obtain ⟨ans, hans⟩ := boolOf (∀ x ∈ xss, Mb yss N x)
      have Ha := Lib.hid hans
      have Fin : Hid (IsSub N xss yss ans) := Lib.hid ⟨fun h => ⟨Hs.out, Hs2.out, by rw [Int.toNat_natCast]; exact Ha.out.1 h⟩, fun h => Ha.out.2 (by have := h.2.2; rwa [Int.toNat_natCast] at this)⟩
      clear hs hs2 hpm hok hok2 hg8 hg8b eN hans
      go_wp2_with (first
        | (go_at_call_of 59 (Value.slice A n c); refine (implGS N A n c vs xss w HX.out hn hl).mono ?_; rintro e w1 ⟨rfl, b1⟩; rw [Hs.out]; have B1 := Lib.hid b1; clear b1)
        | (go_at_call_of 59 (Value.slice M m cm); refine (implGS N M m cm us yss w1 (HY.out.up B1.out) hm hl2).mono ?_; rintro e w2 ⟨rfl, b2⟩; rw [Hs2.out]; have B2 : Hid (Below w.heap.size w w2) := Lib.hid (btr B1.out b2); clear b2)
        | (go_at_call 54; refine (implChainOf N m cm M us yss w2 (HY.out.up B2.out) hN1 hN2 hm8 Ok2).mono ?_; rintro e w3 ⟨ch, L, Mk, rfl, hc, ho, hw, b3⟩; have W3 := Lib.hid hw; have C3 := Lib.hid hc; have B3 : Hid (Below w.heap.size w w3) := Lib.hid (btr B2.out b3); clear hc ho hw b3)
        | (go_at_call 60; refine (implContainsAll w2.heap.size N n c Mk ch L A vs yss xss w3 C3.out W3 (HX.out.up B3.out) Ok hN1 hN2 hn8 ans Ha).mono ?_; rintro e w4 ⟨rfl, b4⟩; have B4 : Hid (Below w.heap.size w w4) := Lib.hid (btr B3.out b4); clear b4))
      go_ret
      exact ⟨_, rfl, Fin.out, B4.out⟩

set_option maxHeartbeats 2000000 in
set_option maxRecDepth 100000 in
/-- SubgroupIndex. -/
theorem implSubgroupIndex : CtImmI 17 IsIdx := by
  intro a A n c vs xss M m cm us yss w g s ha
  have G := Lib.hid g
  have S := Lib.hid s
  clear g s
  go_enter Try.func17, Try.ntmps17
  go_wp2_with fail
  refine (implIsSubgroup a A n c vs xss M m cm us yss w G.out S.out ha).mono ?_
  rintro e w1 ⟨v, rfl, hv, b1⟩
  have B1 := Lib.hid b1
  clear b1
  rcases v with _ | _
  · have Fin : Hid (IsIdx a xss yss 0) := Lib.hid (.inr ⟨fun h => absurd (hv.2 h) (by decide), rfl⟩)
    clear hv
    go_wp2_with fail
    go_ret
    exact ⟨_, rfl, Fin.out, B1.out⟩
  · have Hs : Hid (SubG a xss yss) := Lib.hid (hv.1 rfl)
    clear hv
    go_wp2_with fail
    refine (implGroupOrder a M m cm us yss w1 (S.out.up B1.out) ha).mono ?_
    rintro e w2 ⟨vb, rfl, hb, b2⟩
    have Hb := Lib.hid hb
    have B2 : Hid (Below w.heap.size w w2) := Lib.hid (btr B1.out b2)
    clear hb b2
    go_wp2_with fail
    refine (implGroupOrder a A n c vs xss w2 (G.out.up B2.out) ha).mono ?_
    rintro e w3 ⟨va, rfl, ha', b3⟩
    have B3 : Hid (Below w.heap.size w w3) := Lib.hid (btr B2.out b3)
    obtain ⟨Va, Vb, rfl, rfl, l1, l2, hi⟩ := ord_idx Hs.out ha' Hb.out
    obtain ⟨k, ek⟩ : ∃ k, Vb / Va = k := ⟨_, rfl⟩
    have hk : k ≤ Vb := by rw [← ek]; exact Nat.div_le_self _ _
    have e1 : (Vb : Int).tdiv (Va : Int) = (k : Int) := by rw [← ek]; exact (Int.ofNat_tdiv Vb Va).symm
    have e2 : ((Va : Int) == 0) = false := by rw [beq_eq_false_iff_ne]; omega
    rw [ek] at hi
    have Fin := Lib.hid hi
    clear ha' b3 hi ek
    go_wp2_with fail
    go_ret
    exact ⟨_, rfl, Fin.out, B3.out⟩

set_option maxHeartbeats 4000000 in
set_option maxRecDepth 100000 in
/-- SameCoset. -/
theorem implSameCoset : CtImssB 25 IsSco := by
  intro a A n c vs xss P np cp p Q nq cq q w g s t _
  have HX := Lib.hid g.rr
  have hlx : Hid (xss.length = n) := Lib.hid g.rr.lx
  have hn := g.hn
  have hl := Lib.hid g.hl
  have HP := Lib.hid s.ri
  have lp := Lib.hid s.lp
  have hnp := s.hn
  have HQ := Lib.hid t.ri
  have lq := Lib.hid t.lp
  have hnq := t.hn
  clear g s t
  obtain ⟨ip, hip⟩ : ∃ ip, (decide ((np : Int) = a) && isP p) = ip := ⟨_, rfl⟩
  have Hip := Lib.hid hip
  clear hip
  obtain ⟨iq, hiq⟩ : ∃ iq, (decide ((nq : Int) = a) && isP q) = iq := ⟨_, rfl⟩
  have Hiq := Lib.hid hiq
  clear hiq
  go_enter Try.func25, Try.ntmps25
  rcases hs : gB a xss with _ | _
  · have Fin : Hid (IsSco a xss p q false) := Lib.hid ⟨fun h => (by cases h), fun h => (by have := h.1.1; rw [hs] at this; cases this)⟩
    have Hs := Lib.hid hs
    clear hs
    go_wp2_with (first
      | (go_at_call 59; refine (implGS a A n c vs xss w HX.out hn hl).mono ?_; rintro e w1 ⟨rfl, b1⟩; rw [Hs.out]; have B1 := Lib.hid b1; clear b1))
    go_ret
    exact ⟨_, rfl, Fin.out, B1.out⟩
  · have Hs := Lib.hid hs
    rcases ip with _ | _
    · have Fin : Hid (IsSco a xss p q false) := Lib.hid ⟨fun h => (by cases h), fun h => by
        have h1 := h.1.2.1
        have h2 := h.1.2.2
        have h3 := Hip.out
        rw [lp.out] at h1
        rw [h2] at h3
        simp [h1] at h3⟩
      clear hs
      go_wp2_with (first
        | (go_at_call 59; refine (implGS a A n c vs xss w HX.out hn hl).mono ?_; rintro e w1 ⟨rfl, b1⟩; rw [Hs.out]; have B1 := Lib.hid b1; clear b1)
        | (go_at_call 69; refine (implIsPOf a P np cp p false w1 (HP.out.up B1.out) lp (by omega) Hip).mono ?_; rintro e w2 ⟨rfl, b2⟩; have B2 := Lib.hid b2; clear b2))
      go_ret
      exact ⟨_, rfl, Fin.out, btr B1.out B2.out⟩
    · rcases iq with _ | _
      · have Fin : Hid (IsSco a xss p q false) := Lib.hid ⟨fun h => (by cases h), fun h => by
          have h1 := h.2.1.2.1
          have h2 := h.2.1.2.2
          have h3 := Hiq.out
          rw [lq.out] at h1
          rw [h2] at h3
          simp [h1] at h3⟩
        clear hs
        go_wp2_with (first
          | (go_at_call 59; refine (implGS a A n c vs xss w HX.out hn hl).mono ?_; rintro e w1 ⟨rfl, b1⟩; rw [Hs.out]; have B1 := Lib.hid b1; clear b1)
          | (go_at_call_of 69 (Value.slice P np cp); refine (implIsPOf a P np cp p true w1 (HP.out.up B1.out) lp (by omega) Hip).mono ?_; rintro e w2 ⟨rfl, b2⟩; have B2 : Hid (Below w.heap.size w w2) := Lib.hid (btr B1.out b2); clear b2)
          | (go_at_call_of 69 (Value.slice Q nq cq); refine (implIsPOf a Q nq cq q false w2 (HQ.out.up B2.out) lq (by omega) Hiq).mono ?_; rintro e w3 ⟨rfl, b3⟩; have B3 : Hid (Below w.heap.size w w3) := Lib.hid (btr B2.out b3); clear b3))
        go_ret
        exact ⟨_, rfl, Fin.out, B3.out⟩
      · obtain ⟨N, rfl, hN1, hN2, hg8, hpm, hok⟩ := gB_pm hs
        have h3 := Hip.out
        rw [Bool.and_eq_true, decide_eq_true_eq] at h3
        have h4 := Hiq.out
        rw [Bool.and_eq_true, decide_eq_true_eq] at h4
        obtain rfl : np = N := by omega
        obtain rfl : nq = np := by omega
        have PP : Hid (Pn nq p) := Lib.hid ⟨isP_iff.1 h3.2, lp.out⟩
        have QQ : Hid (Pn nq q) := Lib.hid ⟨isP_iff.1 h4.2, lq.out⟩
        have Hp := Lib.hid h3.2
        have Hq := Lib.hid h4.2
        have Ok := Lib.hid hok
        have hn8 : n ≤ 8 := by rw [← hlx.out]; exact hg8
        obtain ⟨ans, hans⟩ := boolOf (Mb xss nq (compL q (iv p)))
        have Ha := Lib.hid hans
        have Fin : Hid (IsSco nq xss p q ans) := Lib.hid ⟨fun h => ⟨⟨Hs.out, by rw [lp.out], Hp.out⟩, ⟨Hs.out, by rw [lq.out], Hq.out⟩, by
          rw [Int.toNat_natCast]; exact (cos_iff (sgp_mb Ok.out hN1 hN2) PP.out QQ.out).2 (Ha.out.1 h)⟩, fun h => Ha.out.2 (by
          have h4 := h.2.2
          rw [Int.toNat_natCast] at h4
          exact (cos_iff (sgp_mb Ok.out hN1 hN2) PP.out QQ.out).1 h4)⟩
        have e0 : Hid (invL p nq = iv p) := Lib.hid (by unfold iv; rw [lp.out])
        clear hs hpm hok hg8 h3 h4 hans
        go_wp2_with (first
          | (go_at_call 59; refine (implGS nq A n c vs xss w HX.out hn hl).mono ?_; rintro e w1 ⟨rfl, b1⟩; rw [Hs.out]; have B1 := Lib.hid b1; clear b1)
          | (go_at_call_of 69 (Value.slice P nq cp); refine (implIsPOfT P nq cp p w1 (HP.out.up B1.out) lp (by omega) Hp).mono ?_; rintro e w2 ⟨rfl, b2⟩; have B2 : Hid (Below w.heap.size w w2) := Lib.hid (btr B1.out b2); clear b2)
          | (go_at_call_of 69 (Value.slice Q nq cq); refine (implIsPOfT Q nq cq q w2 (HQ.out.up B2.out) lq (by omega) Hq).mono ?_; rintro e w3 ⟨rfl, b3⟩; have B3 : Hid (Below w.heap.size w w3) := Lib.hid (btr B2.out b3); clear b3)
          | (go_at_call 71; fail))
        refine (implInv P cp nq p w3 (HP.out.up B3.out) lp (Lib.hid PP.out.1) hN2).mono ?_
        rintro e w4 ⟨A4, c4, rfl, s4, b4⟩
        rw [e0.out] at s4
        have S4 := Lib.hid s4
        have B4 : Hid (Below w.heap.size w w4) := Lib.hid (btr B3.out b4)
        clear s4 b4
        go_wp2_with fail
        refine (implThen Q A4 cq c4 nq q (iv p) w4 (HQ.out.up B4.out) S4.out.ri_ lq (Lib.hid PP.out.iv.2) (Lib.hid QQ.out.1) hN2).mono ?_
        rintro e w5 ⟨A5, c5, rfl, s5, b5⟩
        have S5 := Lib.hid s5
        have B5 : Hid (Below w.heap.size w w5) := Lib.hid (btr B4.out b5)
        clear s5 b5
        go_wp2_with fail
        refine (implChainOf nq n c A vs xss w5 (HX.out.up B5.out) hN1 hN2 hn8 Ok).mono ?_
        rintro e w6 ⟨ch, L, M, rfl, hc, ho, hw, b6⟩
        have W6 := Lib.hid hw
        have C6 := Lib.hid hc
        have S6 := Lib.hid (S5.out.up b6)
        have B6 : Hid (Below w.heap.size w w6) := Lib.hid (btr B5.out b6)
        clear hc ho hw b6
        go_wp2_with fail
        refine (implContains w5.heap.size nq 0 c5 M ch L A5 (compL q (iv p)) w6 C6.out (by omega) (Lib.hid W6.out.up) hN2 S6.out.ri_ (Lib.hid (QQ.out.comp PP.out.iv)) (Lib.hid Fx.zero) ans (Lib.hid (Ha.out.trans (W6.out.mem _).symm))).mono ?_
        rintro e w7 ⟨rfl, b7⟩
        have B7 : Hid (Below w.heap.size w w7) := Lib.hid (btr B6.out b7)
        clear b7
        go_wp2_with fail
        go_ret
        exact ⟨_, rfl, Fin.out, B7.out⟩
end Go.Proofs.Ytcjcmhoalomjfaa

/- What the frame of a proof knows of a slice of slices of int64 that came in. No condition. -/
namespace Go.Proofs.Ytcjcmhoalomjfaa
open Go.ChangeShapes Go.WideShapes Go.ChangeAt Go.RowKit

theorem cellsS1 : Try.prog.cellsOf 33 = 1 := by kernel_rfl
theorem one_cell {W : World} {x : Addr} {cs : List Value} (h : W.cells? 0 x 1 = some cs) : ∃ c, cs = [c] ∧ W.cell? x = some c := by
  have e0 : x.add 0 = x := by simp [Addr.add]
  simp [World.cells?, List.range_succ, e0] at h
  cases hc : W.cell? x with
  | none => simp [hc] at h
  | some c =>
    simp [hc] at h
    exact ⟨c, h.symm, rfl⟩

theorem argSS {H : Type} {enc : TypeId × Value → H} {W : World} {a : Option Addr} {len cap : Nat} {d : DataW H} {ps : List MemPlace}
    (h : ∃ fuel, DataW.trod enc Try.prog W 0 (fun _ => true) true fuel 24 (Value.slice a len cap).cells.toList = some (d, ps)) :
    len ≤ maxLen ∧ ∃ vs xss, RR W W.heap.size a len vs xss ∧ ∀ i, i < len → (vs.getD i sd0).2.1 ≤ maxLen := by
  obtain ⟨fuel, hf⟩ := h
  rcases DataW.trod_slice Try.underlying24 hf with ⟨hcs, hx⟩ | ⟨a', len', cap', elems, rest, n, rfl, hcs, hx, _, hl, hm, hlen, hel, _, _⟩
  · simp [Value.cells] at hcs
    obtain ⟨rfl, rfl, rfl⟩ := hcs
    exact ⟨Nat.zero_le _, [], [], RR.nil_, fun i h => absurd h (by omega)⟩
  · simp [Value.cells] at hcs
    obtain ⟨rfl, rfl, rfl⟩ := hcs
    obtain ⟨b, off, spot⟩ := a'
    -- each element
    have key : ∀ i, i < len → ∃ (A : Option Addr) (l c : Nat) (xs : List Int), W.cell? (Addr.add ⟨b, off, spot⟩ i) = some (.slice A l c) ∧ xs.length = l ∧ l ≤ c ∧ c ≤ maxLen ∧ RI W W.heap.size A xs := by
      intro i hi
      have hE := hel i hi
      rw [cellsS1, Nat.mul_one, List.getElem?_eq_getElem (by omega)] at hE
      simp only [Option.bind_eq_some_iff] at hE
      obtain ⟨cs1, hc1, hy1⟩ := hE
      obtain ⟨c, rfl, hcc⟩ := one_cell hc1
      rcases open_ints Try.underlying33 Try.underlying2 (by kernel_rfl) hy1 with ⟨hcs, _⟩ | ⟨ia, il, ic, zs, hcs, _, hil, him, hiz, _, hicell, hiw⟩
      · injection hcs with hcs _
        subst hcs
        exact ⟨none, 0, 0, [], hcc, rfl, Nat.le_refl _, Nat.zero_le _, RI.nil_⟩
      · injection hcs with hcs _
        subst hcs
        have hiz' : zs.length = ic := by simpa using hiz
        obtain ⟨xs, hxl, hR⟩ := RI.of_row (w := W) (a := some ia) (len := il) (cap := ic) (zs := zs) (.inr ⟨ia, rfl, hil, him, hiz', hicell, hiw⟩)
        exact ⟨some ia, il, ic, xs, hcc, hxl.out, hil, him, hR⟩
    refine ⟨Nat.le_trans hl hm, ?_⟩
    have hch : ∃ f : Nat → SV × List Int, ∀ i, i < len → W.cell? (Addr.add ⟨b, off, spot⟩ i) = some (.slice (f i).1.1 (f i).1.2.1 (f i).1.2.2) ∧ (f i).2.length = (f i).1.2.1 ∧ (f i).1.2.1 ≤ (f i).1.2.2 ∧ (f i).1.2.2 ≤ maxLen ∧ RI W W.heap.size (f i).1.1 (f i).2 := by
      refine ⟨fun i => if hi : i < len then (((Classical.choose (key i hi)), Classical.choose (Classical.choose_spec (key i hi)), Classical.choose (Classical.choose_spec (Classical.choose_spec (key i hi)))), Classical.choose (Classical.choose_spec (Classical.choose_spec (Classical.choose_spec (key i hi))))) else (sd0, []), fun i hi => ?_⟩
      have := Classical.choose_spec (Classical.choose_spec (Classical.choose_spec (Classical.choose_spec (key i hi))))
      simp only [hi, dif_pos]
      exact this
    obtain ⟨f, hf⟩ := hch
    have g1 : ∀ j, j < len → ((List.range len).map fun i => (f i).1).getD j sd0 = (f j).1 := fun j hj => by
      rw [List.getD_eq_getElem?_getD, List.getElem?_map, List.getElem?_range hj]; rfl
    have g2 : ∀ j, j < len → ((List.range len).map fun i => (f i).2).getD j [] = (f j).2 := fun j hj => by
      rw [List.getD_eq_getElem?_getD, List.getElem?_map, List.getElem?_range hj]; rfl
    refine ⟨(List.range len).map fun i => (f i).1, (List.range len).map fun i => (f i).2, ⟨by simp, by simp, fun hp => ?_, fun j hj => ?_, fun j hj => ?_, fun j hj => ?_⟩, fun i hi => ?_⟩
    · have h0 := (hf 0 hp).1
      have hs : spot = none := by simpa [Addr.add] using World.cell?_spot h0
      subst hs
      refine ⟨b, off, rfl, ?_, fun j hj => ?_⟩
      · have := World.block_lt_of_cell? W _ h0
        simpa [Addr.add] using this
      · rw [g1 j hj, ← (hf j hj).1]
        unfold Addr.add
        split <;> simp_all
    · rw [g1 j hj, g2 j hj]; exact (hf j hj).2.2.2.2
    · rw [g1 j hj, g2 j hj]; exact (hf j hj).2.1
    · rw [g1 j hj]; exact (hf j hj).2.2.1
    · rw [g1 i hi]; exact Nat.le_trans (hf i hi).2.2.1 (hf i hi).2.2.2.1
end Go.Proofs.Ytcjcmhoalomjfaa

/- The walk of the law FnExactSubgroupIndex: it returns true at every input, and writes nothing that was there. No condition but the program's own contract. -/
namespace Go.Proofs.Ytcjcmhoalomjfaa
open Go.RowKit

set_option maxHeartbeats 4000000 in
set_option maxRecDepth 100000 in
/-- The law FnExactSubgroupIndex. -/
theorem lawSubgroupIndex (IM : CtImmI 17 IsIdx) (i0 : Int) (g1A : Option Addr) (g1n g1c : Nat) (g1v : List SV) (g1x : List (List Int)) (g2A : Option Addr) (g2n g2c : Nat) (g2v : List SV) (g2x : List (List Int)) (w : World) (wfi0 : I64 i0) (hg1 : RR w w.heap.size g1A g1n g1v g1x) (hmg1 : g1n ≤ maxLen) (hkg1 : Hid (∀ i, i < g1n → (g1v.getD i sd0).2.1 ≤ maxLen)) (hg2 : RR w w.heap.size g2A g2n g2v g2x) (hmg2 : g2n ≤ maxLen) (hkg2 : Hid (∀ i, i < g2n → (g2v.getD i sd0).2.1 ≤ maxLen)) :
    Calls Try.prog 7 #[.int .i64 i0, .slice g1A g1n g1c, .slice g2A g2n g2c] w fun e w' => e = .returned (.bool true) ∧ Below w.heap.size w w' := by
  have Hg1 := Lib.hid hg1
  have hlxg1 := Lib.hid hg1.lx
  have hllg1 := Lib.hid hg1.lens
  have Hg2 := Lib.hid hg2
  have hlxg2 := Lib.hid hg2.lx
  have hllg2 := Lib.hid hg2.lens
  clear hg1 hg2
  by_cases hT0 : ((g1n + tot g1v g1n : Nat) : Int) ≤ (1048576 : Int)
  · skip
    have HT0 := Lib.hid hT0
    obtain ⟨L1, eL1⟩ : ∃ L : Int, (1048576 : Int) - ((g1n + tot g1v g1n : Nat) : Int) = L := ⟨_, rfl⟩
    have hl1 : 0 ≤ L1 ∧ L1 ≤ 1048576 := by omega
    have EL1 := Lib.hid eL1
    clear eL1
    have hLn1 : ¬ L1 < 0 := by omega
    have dLn1 : decide (L1 < 0) = false := by simp; omega
    by_cases hT1 : ((g2n + tot g2v g2n : Nat) : Int) ≤ L1
    · skip
      have HT1 := Lib.hid hT1
      obtain ⟨LE, eLE⟩ : ∃ L : Int, L1 - ((g2n + tot g2v g2n : Nat) : Int) = L := ⟨_, rfl⟩
      have hLE : ¬ LE < 0 := by omega
      have dLE : decide (LE < 0) = false := by simp; omega
      have ELE := Lib.hid eLE
      clear eLE
      have hEq1 := EL1.out
      have hng1 : g1n ≤ 1048576 := by omega
      have KTg1 : Hid (tot g1v g1n ≤ 1048576) := Lib.hid (by omega)
      have hlg1 : Hid (∀ i, i < g1n → (g1v.getD i sd0).2.1 ≤ 1048576) := Lib.hid fun i hi => by have := tot_row (vs := g1v) hi; have := KTg1.out; omega
      have hylg1 : Hid (∀ i, i < g1n → (g1x.getD i []).length ≤ 1048576) := Lib.hid fun i hi => by rw [hllg1.out i hi]; exact hlg1.out i hi
      have hng2 : g2n ≤ 1048576 := by omega
      have KTg2 : Hid (tot g2v g2n ≤ 1048576) := Lib.hid (by omega)
      have hlg2 : Hid (∀ i, i < g2n → (g2v.getD i sd0).2.1 ≤ 1048576) := Lib.hid fun i hi => by have := tot_row (vs := g2v) hi; have := KTg2.out; omega
      have hylg2 : Hid (∀ i, i < g2n → (g2x.getD i []).length ≤ 1048576) := Lib.hid fun i hi => by rw [hllg2.out i hi]; exact hlg2.out i hi
      clear hT0 hT1 hEq1
      go_enter Try.func7, Try.ntmps7
      go_wp2_with fail
      have K0 := szSS2 g1A g1n g1c 1048576 g1v g1x w Hg1.out hmg1 hkg1 (by decide) (by decide)
      refine K0.mono ?_
      rintro e w0 ⟨rfl, rfl⟩
      clear K0
      rw [if_pos HT0.out]
      rw [EL1.out]
      go_wp2_with fail
      have K0 := szSS2 g2A g2n g2c L1 g2v g2x w Hg2.out hmg2 hkg2 hl1.1 hl1.2
      refine K0.mono ?_
      rintro e w0 ⟨rfl, rfl⟩
      clear K0
      rw [if_pos HT1.out]
      rw [ELE.out]
      go_wp2_with fail
      refine (toSS g1A g1n g1c g1v g1x w Hg1.out hng1 hlg1).mono ?_
      rintro e w1 ⟨A1, c1, us1, rfl, s1, q1, b1⟩
      have Z1 : Hid (w.heap.size ≤ w1.heap.size) := Lib.hid b1.size
      have B1 : Hid (Below w.heap.size w w1) := Lib.hid b1
      have Ftg1_1 := Lib.hid s1
      have Ltg1 : Hid (Lies A1 g1n c1 w.heap.size w1.heap.size) := Lib.hid s1.lt_
      have Itg1 : Hid (∀ t, t < g1n → ∀ k, (sval (us1.getD t sd0)).ownBlock = some k → w.heap.size ≤ k ∧ k < w1.heap.size) := Lib.hid fun t ht => (s1.row t ht).lt_
      have Qtg1 := Lib.hid q1
      have hltg1 : Hid (∀ i, i < g1n → (us1.getD i sd0).2.1 ≤ 1048576) := Lib.hid fun i hi => by rw [q1 i hi]; exact hlg1.out i hi
      clear s1 b1 q1
      go_wp2_with fail
      refine (toSS g2A g2n g2c g2v g2x w1 (Hg2.out.up B1.out) hng2 hlg2).mono ?_
      rintro e w2 ⟨A2, c2, us2, rfl, s2, q2, b2⟩
      have Z2 : Hid (w1.heap.size ≤ w2.heap.size) := Lib.hid b2.size
      have B2 : Hid (Below w.heap.size w w2) := Lib.hid (btr B1.out b2)
      have Ftg1_2 := Lib.hid (Ftg1_1.out.up b2)
      clear Ftg1_1
      have Ftg2_2 := Lib.hid s2
      have Ltg2 : Hid (Lies A2 g2n c2 w1.heap.size w2.heap.size) := Lib.hid s2.lt_
      have Itg2 : Hid (∀ t, t < g2n → ∀ k, (sval (us2.getD t sd0)).ownBlock = some k → w1.heap.size ≤ k ∧ k < w2.heap.size) := Lib.hid fun t ht => (s2.row t ht).lt_
      have Qtg2 := Lib.hid q2
      have hltg2 : Hid (∀ i, i < g2n → (us2.getD i sd0).2.1 ≤ 1048576) := Lib.hid fun i hi => by rw [q2 i hi]; exact hlg2.out i hi
      clear s2 b2 q2
      go_wp2_with fail
      have K3 := ctIdx i0 A1 g1n c1 us1 g1x A2 g2n c2 us2 g2x w2 ⟨Ftg1_2.out.rr, hng1, hltg1.out⟩ ⟨Ftg2_2.out.rr, hng2, hltg2.out⟩ wfi0
      refine K3.mono ?_
      clear K3
      rintro e w3 ⟨v3, rfl, r3, b3⟩
      have Z3 : Hid (w2.heap.size ≤ w3.heap.size) := Lib.hid b3.size
      have B3 : Hid (Below w.heap.size w w3) := Lib.hid (btr B2.out b3)
      have Ftg1_3 := Lib.hid (Ftg1_2.out.up b3)
      clear Ftg1_2
      have Ftg2_3 := Lib.hid (Ftg2_2.out.up b3)
      clear Ftg2_2
      have HR := Lib.hid r3
      clear r3
      clear b3
      clear Ftg1_3
      clear Ftg2_3
      go_wp2_with fail
      refine (toSS g1A g1n g1c g1v g1x w3 (Hg1.out.up B3.out) hng1 hlg1).mono ?_
      rintro e w4 ⟨A4, c4, us4, rfl, s4, q4, b4⟩
      have Z4 : Hid (w3.heap.size ≤ w4.heap.size) := Lib.hid b4.size
      have B4 : Hid (Below w.heap.size w w4) := Lib.hid (btr B3.out b4)
      have Fxg1_4 := Lib.hid s4
      have Lxg1 : Hid (Lies A4 g1n c4 w3.heap.size w4.heap.size) := Lib.hid s4.lt_
      have Ixg1 : Hid (∀ t, t < g1n → ∀ k, (sval (us4.getD t sd0)).ownBlock = some k → w3.heap.size ≤ k ∧ k < w4.heap.size) := Lib.hid fun t ht => (s4.row t ht).lt_
      have Qxg1 := Lib.hid q4
      have hlxg1 : Hid (∀ i, i < g1n → (us4.getD i sd0).2.1 ≤ 1048576) := Lib.hid fun i hi => by rw [q4 i hi]; exact hlg1.out i hi
      clear s4 b4 q4
      go_wp2_with fail
      refine (toSS g2A g2n g2c g2v g2x w4 (Hg2.out.up B4.out) hng2 hlg2).mono ?_
      rintro e w5 ⟨A5, c5, us5, rfl, s5, q5, b5⟩
      have Z5 : Hid (w4.heap.size ≤ w5.heap.size) := Lib.hid b5.size
      have B5 : Hid (Below w.heap.size w w5) := Lib.hid (btr B4.out b5)
      have Fxg1_5 := Lib.hid (Fxg1_4.out.up b5)
      clear Fxg1_4
      have Fxg2_5 := Lib.hid s5
      have Lxg2 : Hid (Lies A5 g2n c5 w4.heap.size w5.heap.size) := Lib.hid s5.lt_
      have Ixg2 : Hid (∀ t, t < g2n → ∀ k, (sval (us5.getD t sd0)).ownBlock = some k → w4.heap.size ≤ k ∧ k < w5.heap.size) := Lib.hid fun t ht => (s5.row t ht).lt_
      have Qxg2 := Lib.hid q5
      have hlxg2 : Hid (∀ i, i < g2n → (us5.getD i sd0).2.1 ≤ 1048576) := Lib.hid fun i hi => by rw [q5 i hi]; exact hlg2.out i hi
      clear s5 b5 q5
      go_wp2_with fail
      have K6 := IM i0 A4 g1n c4 us4 g1x A5 g2n c5 us5 g2x w5 ⟨Fxg1_5.out.rr, hng1, hlxg1.out⟩ ⟨Fxg2_5.out.rr, hng2, hlxg2.out⟩ wfi0
      refine K6.mono ?_
      clear K6
      rintro e w6 ⟨v6, rfl, r6, b6⟩
      have Z6 : Hid (w5.heap.size ≤ w6.heap.size) := Lib.hid b6.size
      have B6 : Hid (Below w.heap.size w w6) := Lib.hid (btr B5.out b6)
      have Fxg1_6 := Lib.hid (Fxg1_5.out.up b6)
      clear Fxg1_5
      have Fxg2_6 := Lib.hid (Fxg2_5.out.up b6)
      clear Fxg2_5
      have e6 := HR.out.uniq r6
      subst e6
      clear r6
      clear b6
      go_wp2_with fail
      refine (toSS g1A g1n g1c g1v g1x w6 (Hg1.out.up B6.out) hng1 hlg1).mono ?_
      rintro e w7 ⟨A7, c7, us7, rfl, s7, q7, b7⟩
      have Z7 : Hid (w6.heap.size ≤ w7.heap.size) := Lib.hid b7.size
      have B7 : Hid (Below w.heap.size w w7) := Lib.hid (btr B6.out b7)
      have Fxg1_7 := Lib.hid (Fxg1_6.out.up b7)
      clear Fxg1_6
      have Fxg2_7 := Lib.hid (Fxg2_6.out.up b7)
      clear Fxg2_6
      have Fyg1_7 := Lib.hid s7
      have Lyg1 : Hid (Lies A7 g1n c7 w6.heap.size w7.heap.size) := Lib.hid s7.lt_
      have Iyg1 : Hid (∀ t, t < g1n → ∀ k, (sval (us7.getD t sd0)).ownBlock = some k → w6.heap.size ≤ k ∧ k < w7.heap.size) := Lib.hid fun t ht => (s7.row t ht).lt_
      have Qyg1 := Lib.hid q7
      have hlyg1 : Hid (∀ i, i < g1n → (us7.getD i sd0).2.1 ≤ 1048576) := Lib.hid fun i hi => by rw [q7 i hi]; exact hlg1.out i hi
      clear s7 b7 q7
      go_wp2_with fail
      refine (eqRR_same A4 A7 g1n c4 g1n c7 us4 us7 _ w7 Fxg1_7.out.rr Fyg1_7.out.rr (by omega) hylg1).mono ?_
      rintro e w8 ⟨rfl, b8⟩
      have Z8 : Hid (w7.heap.size ≤ w8.heap.size) := Lib.hid b8.size
      have B8 : Hid (Below w.heap.size w w8) := Lib.hid (btr B7.out b8)
      have Fxg1_8 := Lib.hid (Fxg1_7.out.up b8)
      clear Fxg1_7
      have Fxg2_8 := Lib.hid (Fxg2_7.out.up b8)
      clear Fxg2_7
      have Fyg1_8 := Lib.hid (Fyg1_7.out.up b8)
      clear Fyg1_7
      clear b8
      clear Fyg1_8
      go_wp2_with fail
      refine (toSS g2A g2n g2c g2v g2x w8 (Hg2.out.up B8.out) hng2 hlg2).mono ?_
      rintro e w9 ⟨A9, c9, us9, rfl, s9, q9, b9⟩
      have Z9 : Hid (w8.heap.size ≤ w9.heap.size) := Lib.hid b9.size
      have B9 : Hid (Below w.heap.size w w9) := Lib.hid (btr B8.out b9)
      have Fxg1_9 := Lib.hid (Fxg1_8.out.up b9)
      clear Fxg1_8
      have Fxg2_9 := Lib.hid (Fxg2_8.out.up b9)
      clear Fxg2_8
      have Fyg2_9 := Lib.hid s9
      have Lyg2 : Hid (Lies A9 g2n c9 w8.heap.size w9.heap.size) := Lib.hid s9.lt_
      have Iyg2 : Hid (∀ t, t < g2n → ∀ k, (sval (us9.getD t sd0)).ownBlock = some k → w8.heap.size ≤ k ∧ k < w9.heap.size) := Lib.hid fun t ht => (s9.row t ht).lt_
      have Qyg2 := Lib.hid q9
      have hlyg2 : Hid (∀ i, i < g2n → (us9.getD i sd0).2.1 ≤ 1048576) := Lib.hid fun i hi => by rw [q9 i hi]; exact hlg2.out i hi
      clear s9 b9 q9
      go_wp2_with fail
      refine (eqRR_same A5 A9 g2n c5 g2n c9 us5 us9 _ w9 Fxg2_9.out.rr Fyg2_9.out.rr (by omega) hylg2).mono ?_
      rintro e w10 ⟨rfl, b10⟩
      have Z10 : Hid (w9.heap.size ≤ w10.heap.size) := Lib.hid b10.size
      have B10 : Hid (Below w.heap.size w w10) := Lib.hid (btr B9.out b10)
      have Fxg1_10 := Lib.hid (Fxg1_9.out.up b10)
      clear Fxg1_9
      have Fxg2_10 := Lib.hid (Fxg2_9.out.up b10)
      clear Fxg2_9
      have Fyg2_10 := Lib.hid (Fyg2_9.out.up b10)
      clear Fyg2_9
      clear b10
      clear Fyg2_10
      go_wp2_with fail
      go_ret
      exact ⟨rfl, B10.out⟩
    · skip
      have HT1 := Lib.hid hT1
      clear hT0 hT1
      go_enter Try.func7, Try.ntmps7
      go_wp2_with fail
      have K0 := szSS2 g1A g1n g1c 1048576 g1v g1x w Hg1.out hmg1 hkg1 (by decide) (by decide)
      refine K0.mono ?_
      rintro e w0 ⟨rfl, rfl⟩
      clear K0
      rw [if_pos HT0.out]
      rw [EL1.out]
      go_wp2_with fail
      have K0 := szSS2 g2A g2n g2c L1 g2v g2x w Hg2.out hmg2 hkg2 hl1.1 hl1.2
      refine K0.mono ?_
      rintro e w0 ⟨rfl, rfl⟩
      clear K0
      rw [if_neg (Int.not_le.2 HT1.out)]
      go_wp2
      go_ret
      exact ⟨rfl, Below.refl _ _⟩
  · skip
    have HT0 := Lib.hid hT0
    clear hT0
    go_enter Try.func7, Try.ntmps7
    go_wp2_with fail
    have K0 := szSS2 g1A g1n g1c 1048576 g1v g1x w Hg1.out hmg1 hkg1 (by decide) (by decide)
    refine K0.mono ?_
    rintro e w0 ⟨rfl, rfl⟩
    clear K0
    rw [if_neg (Int.not_le.2 HT0.out)]
    go_wp2
    go_ret
    exact ⟨rfl, Below.refl _ _⟩
end Go.Proofs.Ytcjcmhoalomjfaa

/- The walk of the law FnExactSameCoset: it returns true at every input, and writes nothing that was there. No condition but the program's own contract. -/
namespace Go.Proofs.Ytcjcmhoalomjfaa
open Go.RowKit

set_option maxHeartbeats 4000000 in
set_option maxRecDepth 100000 in
/-- The law FnExactSameCoset. -/
theorem lawSameCoset (IM : CtImssB 25 IsSco) (i0 : Int) (g1A : Option Addr) (g1n g1c : Nat) (g1v : List SV) (g1x : List (List Int)) (s2A : Option Addr) (s2n s2c : Nat) (s2x : List Int) (s3A : Option Addr) (s3n s3c : Nat) (s3x : List Int) (w : World) (wfi0 : I64 i0) (hg1 : RR w w.heap.size g1A g1n g1v g1x) (hmg1 : g1n ≤ maxLen) (hkg1 : Hid (∀ i, i < g1n → (g1v.getD i sd0).2.1 ≤ maxLen)) (hs2 : RI w w.heap.size s2A s2x) (ls2 : Hid (s2x.length = s2n)) (hs3 : RI w w.heap.size s3A s3x) (ls3 : Hid (s3x.length = s3n)) :
    Calls Try.prog 8 #[.int .i64 i0, .slice g1A g1n g1c, .slice s2A s2n s2c, .slice s3A s3n s3c] w fun e w' => e = .returned (.bool true) ∧ Below w.heap.size w w' := by
  have Hg1 := Lib.hid hg1
  have hlxg1 := Lib.hid hg1.lx
  have hllg1 := Lib.hid hg1.lens
  have Hs2 := Lib.hid hs2
  have Hs3 := Lib.hid hs3
  clear hg1 hs2 hs3
  by_cases hns2 : s2n ≤ 1048576
  · skip
    by_cases hns3 : s3n ≤ 1048576
    · skip
      by_cases hT0 : ((g1n + tot g1v g1n : Nat) : Int) ≤ (1048576 : Int)
      · skip
        have HT0 := Lib.hid hT0
        obtain ⟨LE, eLE⟩ : ∃ L : Int, (1048576 : Int) - ((g1n + tot g1v g1n : Nat) : Int) = L := ⟨_, rfl⟩
        have hLE : ¬ LE < 0 := by omega
        have dLE : decide (LE < 0) = false := by simp; omega
        have ELE := Lib.hid eLE
        clear eLE
        have hng1 : g1n ≤ 1048576 := by omega
        have KTg1 : Hid (tot g1v g1n ≤ 1048576) := Lib.hid (by omega)
        have hlg1 : Hid (∀ i, i < g1n → (g1v.getD i sd0).2.1 ≤ 1048576) := Lib.hid fun i hi => by have := tot_row (vs := g1v) hi; have := KTg1.out; omega
        have hylg1 : Hid (∀ i, i < g1n → (g1x.getD i []).length ≤ 1048576) := Lib.hid fun i hi => by rw [hllg1.out i hi]; exact hlg1.out i hi
        clear hT0 
        go_enter Try.func8, Try.ntmps8
        go_wp2_with fail
        have K0 := szSS2 g1A g1n g1c 1048576 g1v g1x w Hg1.out hmg1 hkg1 (by decide) (by decide)
        refine K0.mono ?_
        rintro e w0 ⟨rfl, rfl⟩
        clear K0
        rw [if_pos HT0.out]
        rw [ELE.out]
        go_wp2_with fail
        refine (toSS g1A g1n g1c g1v g1x w Hg1.out hng1 hlg1).mono ?_
        rintro e w1 ⟨A1, c1, us1, rfl, s1, q1, b1⟩
        have Z1 : Hid (w.heap.size ≤ w1.heap.size) := Lib.hid b1.size
        have B1 : Hid (Below w.heap.size w w1) := Lib.hid b1
        have Ftg1_1 := Lib.hid s1
        have Ltg1 : Hid (Lies A1 g1n c1 w.heap.size w1.heap.size) := Lib.hid s1.lt_
        have Itg1 : Hid (∀ t, t < g1n → ∀ k, (sval (us1.getD t sd0)).ownBlock = some k → w.heap.size ≤ k ∧ k < w1.heap.size) := Lib.hid fun t ht => (s1.row t ht).lt_
        have Qtg1 := Lib.hid q1
        have hltg1 : Hid (∀ i, i < g1n → (us1.getD i sd0).2.1 ≤ 1048576) := Lib.hid fun i hi => by rw [q1 i hi]; exact hlg1.out i hi
        clear s1 b1 q1
        go_wp2_with fail
        refine (toS_any s2A s2c s2n s2x w1 (Hs2.out.up B1.out) ls2 (by omega)).mono ?_
        rintro e w2 ⟨A2, c2, rfl, s2, b2⟩
        have Z2 : Hid (w1.heap.size ≤ w2.heap.size) := Lib.hid b2.size
        have B2 : Hid (Below w.heap.size w w2) := Lib.hid (btr B1.out b2)
        have Ftg1_2 := Lib.hid (Ftg1_1.out.up b2)
        clear Ftg1_1
        have Fts2_2 := Lib.hid s2
        have Lts2 : Hid (Lies A2 s2n c2 w1.heap.size w2.heap.size) := Lib.hid s2.lies
        have lets2 := s2.le.1
        clear s2 b2
        go_wp2_with fail
        refine (toS_any s3A s3c s3n s3x w2 (Hs3.out.up B2.out) ls3 (by omega)).mono ?_
        rintro e w3 ⟨A3, c3, rfl, s3, b3⟩
        have Z3 : Hid (w2.heap.size ≤ w3.heap.size) := Lib.hid b3.size
        have B3 : Hid (Below w.heap.size w w3) := Lib.hid (btr B2.out b3)
        have Ftg1_3 := Lib.hid (Ftg1_2.out.up b3)
        clear Ftg1_2
        have Fts2_3 := Lib.hid (Fts2_2.out.up b3)
        clear Fts2_2
        have Fts3_3 := Lib.hid s3
        have Lts3 : Hid (Lies A3 s3n c3 w2.heap.size w3.heap.size) := Lib.hid s3.lies
        have lets3 := s3.le.1
        clear s3 b3
        go_wp2_with fail
        have K4 := ctSco i0 A1 g1n c1 us1 g1x A2 s2n c2 s2x A3 s3n c3 s3x w3 ⟨Ftg1_3.out.rr, hng1, hltg1.out⟩ ⟨Fts2_3.out.ri_, ls2.out, hns2, lets2⟩ ⟨Fts3_3.out.ri_, ls3.out, hns3, lets3⟩ wfi0
        refine K4.mono ?_
        clear K4
        rintro e w4 ⟨v4, rfl, r4, b4⟩
        have Z4 : Hid (w3.heap.size ≤ w4.heap.size) := Lib.hid b4.size
        have B4 : Hid (Below w.heap.size w w4) := Lib.hid (btr B3.out b4)
        have Ftg1_4 := Lib.hid (Ftg1_3.out.up b4)
        clear Ftg1_3
        have Fts2_4 := Lib.hid (Fts2_3.out.up b4)
        clear Fts2_3
        have Fts3_4 := Lib.hid (Fts3_3.out.up b4)
        clear Fts3_3
        have HR := Lib.hid r4
        clear r4
        clear b4
        clear Ftg1_4
        clear Fts2_4
        clear Fts3_4
        go_wp2_with fail
        refine (toSS g1A g1n g1c g1v g1x w4 (Hg1.out.up B4.out) hng1 hlg1).mono ?_
        rintro e w5 ⟨A5, c5, us5, rfl, s5, q5, b5⟩
        have Z5 : Hid (w4.heap.size ≤ w5.heap.size) := Lib.hid b5.size
        have B5 : Hid (Below w.heap.size w w5) := Lib.hid (btr B4.out b5)
        have Fxg1_5 := Lib.hid s5
        have Lxg1 : Hid (Lies A5 g1n c5 w4.heap.size w5.heap.size) := Lib.hid s5.lt_
        have Ixg1 : Hid (∀ t, t < g1n → ∀ k, (sval (us5.getD t sd0)).ownBlock = some k → w4.heap.size ≤ k ∧ k < w5.heap.size) := Lib.hid fun t ht => (s5.row t ht).lt_
        have Qxg1 := Lib.hid q5
        have hlxg1 : Hid (∀ i, i < g1n → (us5.getD i sd0).2.1 ≤ 1048576) := Lib.hid fun i hi => by rw [q5 i hi]; exact hlg1.out i hi
        clear s5 b5 q5
        go_wp2_with fail
        refine (toS_any s2A s2c s2n s2x w5 (Hs2.out.up B5.out) ls2 (by omega)).mono ?_
        rintro e w6 ⟨A6, c6, rfl, s6, b6⟩
        have Z6 : Hid (w5.heap.size ≤ w6.heap.size) := Lib.hid b6.size
        have B6 : Hid (Below w.heap.size w w6) := Lib.hid (btr B5.out b6)
        have Fxg1_6 := Lib.hid (Fxg1_5.out.up b6)
        clear Fxg1_5
        have Fxs2_6 := Lib.hid s6
        have Lxs2 : Hid (Lies A6 s2n c6 w5.heap.size w6.heap.size) := Lib.hid s6.lies
        have lexs2 := s6.le.1
        clear s6 b6
        go_wp2_with fail
        refine (toS_any s3A s3c s3n s3x w6 (Hs3.out.up B6.out) ls3 (by omega)).mono ?_
        rintro e w7 ⟨A7, c7, rfl, s7, b7⟩
        have Z7 : Hid (w6.heap.size ≤ w7.heap.size) := Lib.hid b7.size
        have B7 : Hid (Below w.heap.size w w7) := Lib.hid (btr B6.out b7)
        have Fxg1_7 := Lib.hid (Fxg1_6.out.up b7)
        clear Fxg1_6
        have Fxs2_7 := Lib.hid (Fxs2_6.out.up b7)
        clear Fxs2_6
        have Fxs3_7 := Lib.hid s7
        have Lxs3 : Hid (Lies A7 s3n c7 w6.heap.size w7.heap.size) := Lib.hid s7.lies
        have lexs3 := s7.le.1
        clear s7 b7
        go_wp2_with fail
        have K8 := IM i0 A5 g1n c5 us5 g1x A6 s2n c6 s2x A7 s3n c7 s3x w7 ⟨Fxg1_7.out.rr, hng1, hlxg1.out⟩ ⟨Fxs2_7.out.ri_, ls2.out, hns2, lexs2⟩ ⟨Fxs3_7.out.ri_, ls3.out, hns3, lexs3⟩ wfi0
        refine K8.mono ?_
        clear K8
        rintro e w8 ⟨v8, rfl, r8, b8⟩
        have Z8 : Hid (w7.heap.size ≤ w8.heap.size) := Lib.hid b8.size
        have B8 : Hid (Below w.heap.size w w8) := Lib.hid (btr B7.out b8)
        have Fxg1_8 := Lib.hid (Fxg1_7.out.up b8)
        clear Fxg1_7
        have Fxs2_8 := Lib.hid (Fxs2_7.out.up b8)
        clear Fxs2_7
        have Fxs3_8 := Lib.hid (Fxs3_7.out.up b8)
        clear Fxs3_7
        have e8 := HR.out.uniq r8
        subst e8
        clear r8
        clear b8
        go_wp2_with fail
        refine (toSS g1A g1n g1c g1v g1x w8 (Hg1.out.up B8.out) hng1 hlg1).mono ?_
        rintro e w9 ⟨A9, c9, us9, rfl, s9, q9, b9⟩
        have Z9 : Hid (w8.heap.size ≤ w9.heap.size) := Lib.hid b9.size
        have B9 : Hid (Below w.heap.size w w9) := Lib.hid (btr B8.out b9)
        have Fxg1_9 := Lib.hid (Fxg1_8.out.up b9)
        clear Fxg1_8
        have Fxs2_9 := Lib.hid (Fxs2_8.out.up b9)
        clear Fxs2_8
        have Fxs3_9 := Lib.hid (Fxs3_8.out.up b9)
        clear Fxs3_8
        have Fyg1_9 := Lib.hid s9
        have Lyg1 : Hid (Lies A9 g1n c9 w8.heap.size w9.heap.size) := Lib.hid s9.lt_
        have Iyg1 : Hid (∀ t, t < g1n → ∀ k, (sval (us9.getD t sd0)).ownBlock = some k → w8.heap.size ≤ k ∧ k < w9.heap.size) := Lib.hid fun t ht => (s9.row t ht).lt_
        have Qyg1 := Lib.hid q9
        have hlyg1 : Hid (∀ i, i < g1n → (us9.getD i sd0).2.1 ≤ 1048576) := Lib.hid fun i hi => by rw [q9 i hi]; exact hlg1.out i hi
        clear s9 b9 q9
        go_wp2_with fail
        refine (eqRR_same A5 A9 g1n c5 g1n c9 us5 us9 _ w9 Fxg1_9.out.rr Fyg1_9.out.rr (by omega) hylg1).mono ?_
        rintro e w10 ⟨rfl, b10⟩
        have Z10 : Hid (w9.heap.size ≤ w10.heap.size) := Lib.hid b10.size
        have B10 : Hid (Below w.heap.size w w10) := Lib.hid (btr B9.out b10)
        have Fxg1_10 := Lib.hid (Fxg1_9.out.up b10)
        clear Fxg1_9
        have Fxs2_10 := Lib.hid (Fxs2_9.out.up b10)
        clear Fxs2_9
        have Fxs3_10 := Lib.hid (Fxs3_9.out.up b10)
        clear Fxs3_9
        have Fyg1_10 := Lib.hid (Fyg1_9.out.up b10)
        clear Fyg1_9
        clear b10
        clear Fyg1_10
        go_wp2_with fail
        refine (toS_any s2A s2c s2n s2x w10 (Hs2.out.up B10.out) ls2 (by omega)).mono ?_
        rintro e w11 ⟨A11, c11, rfl, s11, b11⟩
        have Z11 : Hid (w10.heap.size ≤ w11.heap.size) := Lib.hid b11.size
        have B11 : Hid (Below w.heap.size w w11) := Lib.hid (btr B10.out b11)
        have Fxg1_11 := Lib.hid (Fxg1_10.out.up b11)
        clear Fxg1_10
        have Fxs2_11 := Lib.hid (Fxs2_10.out.up b11)
        clear Fxs2_10
        have Fxs3_11 := Lib.hid (Fxs3_10.out.up b11)
        clear Fxs3_10
        have Fys2_11 := Lib.hid s11
        have Lys2 : Hid (Lies A11 s2n c11 w10.heap.size w11.heap.size) := Lib.hid s11.lies
        have leys2 := s11.le.1
        clear s11 b11
        go_wp2_with fail
        refine (eqS_same _ _ A6 A11 s2n c6 s2n c11 w11 Fxs2_11.out Fys2_11.out (by omega)).mono ?_
        rintro e w12 ⟨rfl, b12⟩
        have Z12 : Hid (w11.heap.size ≤ w12.heap.size) := Lib.hid b12.size
        have B12 : Hid (Below w.heap.size w w12) := Lib.hid (btr B11.out b12)
        have Fxg1_12 := Lib.hid (Fxg1_11.out.up b12)
        clear Fxg1_11
        have Fxs2_12 := Lib.hid (Fxs2_11.out.up b12)
        clear Fxs2_11
        have Fxs3_12 := Lib.hid (Fxs3_11.out.up b12)
        clear Fxs3_11
        have Fys2_12 := Lib.hid (Fys2_11.out.up b12)
        clear Fys2_11
        clear b12
        clear Fys2_12
        go_wp2_with fail
        refine (toS_any s3A s3c s3n s3x w12 (Hs3.out.up B12.out) ls3 (by omega)).mono ?_
        rintro e w13 ⟨A13, c13, rfl, s13, b13⟩
        have Z13 : Hid (w12.heap.size ≤ w13.heap.size) := Lib.hid b13.size
        have B13 : Hid (Below w.heap.size w w13) := Lib.hid (btr B12.out b13)
        have Fxg1_13 := Lib.hid (Fxg1_12.out.up b13)
        clear Fxg1_12
        have Fxs2_13 := Lib.hid (Fxs2_12.out.up b13)
        clear Fxs2_12
        have Fxs3_13 := Lib.hid (Fxs3_12.out.up b13)
        clear Fxs3_12
        have Fys3_13 := Lib.hid s13
        have Lys3 : Hid (Lies A13 s3n c13 w12.heap.size w13.heap.size) := Lib.hid s13.lies
        have leys3 := s13.le.1
        clear s13 b13
        go_wp2_with fail
        refine (eqS_same _ _ A7 A13 s3n c7 s3n c13 w13 Fxs3_13.out Fys3_13.out (by omega)).mono ?_
        rintro e w14 ⟨rfl, b14⟩
        have Z14 : Hid (w13.heap.size ≤ w14.heap.size) := Lib.hid b14.size
        have B14 : Hid (Below w.heap.size w w14) := Lib.hid (btr B13.out b14)
        have Fxg1_14 := Lib.hid (Fxg1_13.out.up b14)
        clear Fxg1_13
        have Fxs2_14 := Lib.hid (Fxs2_13.out.up b14)
        clear Fxs2_13
        have Fxs3_14 := Lib.hid (Fxs3_13.out.up b14)
        clear Fxs3_13
        have Fys3_14 := Lib.hid (Fys3_13.out.up b14)
        clear Fys3_13
        clear b14
        clear Fys3_14
        go_wp2_with fail
        go_ret
        exact ⟨rfl, B14.out⟩
      · skip
        have HT0 := Lib.hid hT0
        clear hT0
        go_enter Try.func8, Try.ntmps8
        go_wp2_with fail
        have K0 := szSS2 g1A g1n g1c 1048576 g1v g1x w Hg1.out hmg1 hkg1 (by decide) (by decide)
        refine K0.mono ?_
        rintro e w0 ⟨rfl, rfl⟩
        clear K0
        rw [if_neg (Int.not_le.2 HT0.out)]
        go_wp2
        go_ret
        exact ⟨rfl, Below.refl _ _⟩
    · skip
      have d1 : decide ((1048576 : Int) < s3n) = true := by simp; omega
      go_enter Try.func8, Try.ntmps8
      go_wp2
      go_ret
      exact ⟨rfl, Below.refl _ _⟩
  · skip
    have d1 : decide ((1048576 : Int) < s2n) = true := by simp; omega
    go_enter Try.func8, Try.ntmps8
    go_wp2
    go_ret
    exact ⟨rfl, Below.refl _ _⟩
end Go.Proofs.Ytcjcmhoalomjfaa
