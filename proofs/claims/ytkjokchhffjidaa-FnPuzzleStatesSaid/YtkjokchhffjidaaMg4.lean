/- Part 4 of the texts: PcI, PcA, PcC, Ins, ChR, ChT, ChX, ChY, ChZ, ChV, Stb, StbS, Ct4, PcF, PcG, PcN, PcS, Supp, PcT, PcU, WsB, WsL, PzA, PzB, Sz2, Hel4. No condition of its own: each text tells its own. -/
import Derived.Test.YtkjokchhffjidaaMg3
import Derived.Test.YtkjokchhffjidaaMg2
import Derived.Test.YtkjokchhffjidaaMg1
import Derived.Maps.AppendAt
import Derived.Deep.RegionHeld3
import Derived.Deep.CutRange
import Derived.Deep.LoopGhost
import Derived.Deep.Upon
import Derived.Lib.AppendZerosOnto
import Derived.Lib.AppendZeros
import Derived.Deep.QuietTactic
import Derived.BigQuiet
set_option linter.unusedVariables false
set_option linter.unusedSimpArgs false

/- The program's include: one product is taken as a mover or divided away. Conditions: at most 20 points; the chain whole above the link; add one link on keeps its contract. -/
namespace Go.Proofs.Ytkjokchhffjidaa
open Go.RowKit

/-- append of one number onto a row of the call's own, and where the new row lies. -/
theorem wpList_appI {w : World} {ops : Array Oper} {rest : List Oper} {o : Oper} {a : Act} {Q : Exit → Act → World → Prop} (hgd : o.guard = none) (s x : Operand)
    (ho : o.op = .call { callee := .builtin .append, args := #[s, x], argTypes := #[27, 27] })
    (base : Nat) (A : Option Addr) (n c : Nat) (xs : List Int) (hs : a.eval s = .slice A n c) (hown : Slc w base A n c xs) (g : Nat) (u : Int) (hx : a.eval x = .slice (some ⟨g, 0, none⟩) 1 1)
    (hcell : w.cell? ⟨g, 0, none⟩ = some (.int .i64 u)) (hn : n ≤ 1000000000) (hbase : base ≤ w.heap.size)
    (h : ∀ A' c' w', Slc w' base A' (n + 1) c' (xs ++ [u]) → w.grownBy w' (Value.slice A n c).ownBlock → ((Value.slice A' (n + 1) c').ownBlock = (Value.slice A n c).ownBlock ∨ (Value.slice A' (n + 1) c').ownBlock = some w.heap.size) → wpList Try.prog ops Q rest (a.put o.dst (.slice A' (n + 1) c')) w') : wpList Try.prog ops Q (o :: rest) a w := by
  obtain ⟨i0, hi, hz0, hz1, hz2⟩ := info_parts infoI
  obtain ⟨hl, ho'⟩ := hown
  subst hl
  refine wpList_append_own_at w hgd s x 27 ho base 2 i0 (.int .i64 0) 1 8 Try.underlying27 hi hz0 hz1 hz2 rfl (by decide) _ xs.length _ hs ho' ⟨g, 0, none⟩ 1 1 [.int .i64 u] hx rfl ?_ ?_ ?_ (by omega) hbase ?_
  · intro j v hj
    match j, hj with
    | 0, hj => simp at hj; subst hj; simpa [Addr.add] using hcell
    | j + 1, hj => simp at hj
  · intro v hv; simp at hv; subst hv; rfl
  · unfold maxLen; omega
  · intro v' w' hown' hg _ hat
    have hO : Own w' base v' (xs ++ [u]) := by
      unfold Own
      rw [List.length_append, List.map_append]
      exact hown'
    obtain ⟨A', c', rfl, hS⟩ := Slc.of_own (n := xs.length + 1) hO (by simp)
    exact h A' c' w' hS hg hat
theorem infoP : (Try.prog.info? 59).map (fun i => (i.zero, i.size, i.bytes)) = some (some (.slice none 0 0), 1, 24) := by kernel_rfl
/-- append of one permutation. -/
theorem wpList_appP {w : World} {ops : Array Oper} {rest : List Oper} {o : Oper} {a : Act} {Q : Exit → Act → World → Prop} (hgd : o.guard = none) (s x : Operand)
    (ho : o.op = .call { callee := .builtin .append, args := #[s, x], argTypes := #[91, 91] })
    (base : Nat) (v : Value) (n : Nat) (xs : List Value) (hs : a.eval s = v) (hown : w.ownsRow base 59 1 v n xs) (g : Nat) (d : SV) (hx : a.eval x = .slice (some ⟨g, 0, none⟩) 1 1)
    (hcell : w.cell? ⟨g, 0, none⟩ = some (sval d)) (hn : n ≤ 1000000000) (hbase : base ≤ w.heap.size)
    (h : ∀ A' c' w', w'.ownsRow base 59 1 (.slice A' (n + 1) c') (n + 1) (xs ++ [sval d]) → w.grownBy w' v.ownBlock → ((Value.slice A' (n + 1) c').ownBlock = v.ownBlock ∨ (Value.slice A' (n + 1) c').ownBlock = some w.heap.size) → wpList Try.prog ops Q rest (a.put o.dst (.slice A' (n + 1) c')) w') : wpList Try.prog ops Q (o :: rest) a w := by
  obtain ⟨i0, hi, hz0, hz1, hz2⟩ := info_parts infoP
  refine wpList_append_own_at w hgd s x 91 ho base 59 i0 (.slice none 0 0) 1 24 Try.underlying91 hi hz0 hz1 hz2 rfl (by decide) v n xs hs hown ⟨g, 0, none⟩ 1 1 [sval d] hx rfl ?_ ?_ ?_ (by omega) hbase ?_
  · intro j u hj
    match j, hj with
    | 0, hj => simp at hj; subst hj; simpa [Addr.add] using hcell
    | j + 1, hj => simp at hj
  · intro u hu; simp at hu; subst hu; rfl
  · unfold maxLen; omega
  · intro v' w' hown' hg _ hat
    have hform : ∃ A' c', v' = .slice A' (n + 1) c' := by
      rcases hown'.2 with ⟨rfl, h0⟩ | ⟨g', cap, cur, rfl, _⟩
      · omega
      · exact ⟨_, _, rfl⟩
    obtain ⟨A', c', rfl⟩ := hform
    exact h A' c' w' hown' hg hat

theorem cells_gw {w w' : World} {base N k : Nat} {M M' : Nat → Prop} {c : Ch} {L L' : Nat → LK} (g : Gw w w' N (k + 1) L L' M M') (h : Ck w base N k M c L) (hk : k < N) (b j : Nat) (hb : b = (L k).B ∨ b = (L k).mb) : w'.cell? ⟨b, j, none⟩ = w.cell? ⟨b, j, none⟩ := by
  have ht : ∃ t, t < 4 ∧ mu (L k) t = some b := by
    rcases hb with rfl | rfl
    · exact ⟨0, by decide, rfl⟩
    · exact ⟨3, by decide, rfl⟩
  obtain ⟨t, ht4, ht⟩ := ht
  refine World.cell?_of_block (g.chg.block b (h.mlt b (h.mm k t b (Nat.le_refl _) hk ht4 ht)).2 fun ⟨i, t', a1, a2, a3, e'⟩ => ?_)
  have := (h.dis k t i t' b (Nat.le_refl _) hk ht4 (by omega) a2 a3 ht e').1
  omega
/-- What add keeps at link k. -/
def ADs (base N k : Nat) : Prop := ∀ (M : Nat → Prop) (c : Ch) (L : Nat → LK) (A : Option Addr) (cp : Nat) (p : List Int) (w : World), Ck w base N k M c L → Orbs N k c L → Rd w M (A, N, cp) p → Pn N p → Fx k p → UpTo N c k →
  Calls Try.prog 88 #[.pointer (some ⟨(L k).B, 0, none⟩), .slice A N cp] w fun e w' => ∃ (c' : Ch) (L' : Nat → LK) (M' : Nat → Prop), e = .returned (.tuple #[]) ∧ Ck w' base N k M' c' L' ∧ Orbs N k c' L' ∧ Gw w w' N k L L' M M' ∧ Ap N k c c' p
/-- What include keeps at link k. -/
def INs (base N k : Nat) : Prop := ∀ (M : Nat → Prop) (c : Ch) (L : Nat → LK) (A : Option Addr) (cp : Nat) (q : List Int) (w : World), Ck w base N k M c L → Orbs N k c L → Rd w M (A, N, cp) q → Low N c k → Mb (c.gen k) N q →
  Calls Try.prog 108 #[.pointer (some ⟨(L k).B, 0, none⟩), .slice A N cp] w fun e w' => ∃ (c' : Ch) (L' : Nat → LK) (M' : Nat → Prop), e = .returned (.tuple #[]) ∧ Ck w' base N k M' c' L' ∧ Orbs N k c' L' ∧ Gw w w' N k L L' M M' ∧ Ic N k c c' q ∧ (L k).orb <+: (L' k).orb ∧ (L' k).g = (L k).g

set_option maxHeartbeats 4000000 in
set_option maxRecDepth 100000 in
theorem implInclude (base N k : Nat) (hkN : k + 1 < N) (h2N : N ≤ 20) (AD : ADs base N (k + 1)) : INs base N k := by
  intro M c L A cp q w hc ho hd hl hq
  have q24 : ∀ (w : World) (a : Option Addr) (n c n' c' : Nat), (binOp .eql 59 (.slice a n c) (.slice none n' c')).run Try.prog w = .ok (.bool a.isNone) w := fun w a n c n' c' => Lib.run_eql_slice_nil w _ _ a n c n' c' Try.underlying59
  have hk : k < N := by omega
  have hP := hq.pn hl.pn (by omega) h2N
  have hbs : base ≤ w.heap.size := by have := hc.mlt _ (hc.mm k 0 _ (Nat.le_refl _) hk (by decide) rfl); omega
  have HC := Lib.hid hc
  have HO := Lib.hid ho
  have HD := Lib.hid hd
  have HL := Lib.hid hl
  have HQ := Lib.hid hq
  have QP := Lib.hid hP
  obtain ⟨b, off, hA, hb, hnM, hcell⟩ := hd.at_ (by rw [hP.2]; omega)
  have hA : A = some ⟨b, off, none⟩ := hA
  subst hA
  have z1 := hcell k (by rw [hP.2]; exact hk)
  obtain ⟨y, ey⟩ : ∃ y, nx q k = y := ⟨_, rfl⟩
  have hy : y < N := by rw [← ey]; exact hP.lt hk
  rw [nx_val hP.1 (by rw [hP.2]; exact hk), ey] at z1
  have Ey := Lib.hid ey
  obtain ⟨x0, x1, x2, x3, x4⟩ := hc.cB (Nat.le_refl _) hk
  have x5 := hc.cM (Nat.le_refl _) hk hy
  have em := hc.eM (Nat.le_refl _) hk hy
  have p0 : (0 : Int) ≤ k := by omega
  have p1 : (k : Int) < N := by omega
  have p2 : (0 : Int) ≤ y := by omega
  have p3 : (y : Int) < N := by omega
  clear hc ho hd hl hq hP hb hnM hcell ey
  by_cases hz : c.rep k y = []
  · have Hz := Lib.hid hz
    rw [em.1 hz] at x5
    simp only [sval, sd0] at x5
    have hqne : q ≠ [] := by intro e; have := QP.out.2; rw [e] at this; simp at this; omega
    have Hqn := Lib.hid hqne
    have fz := (HC.out.lk k (Nat.le_refl _) hk).mown.frozenAt y
    obtain ⟨S1, G1⟩ := HC.out.store hk hy HD.out hqne (em.1 hz)
    have hx2 : w.setCell ⟨(L k).mb, y, none⟩ (.slice (some ⟨b, off, none⟩) N cp) = w.setCell ⟨(L k).mb, y, none⟩ (sval (some ⟨b, off, none⟩, N, cp)) := rfl
    rw [← hx2] at S1 G1
    obtain ⟨L1, hL1⟩ : ∃ L1, upd L k { L k with en := (L k).en.set y (some ⟨b, off, none⟩, N, cp) } = L1 := ⟨_, rfl⟩
    have e1 : L1 k = { L k with en := (L k).en.set y (some ⟨b, off, none⟩, N, cp) } := by rw [← hL1, upd_at]
    have e1n : ∀ i, i ≠ k → L1 i = L i := fun i hi => by rw [← hL1, upd_ne hi]
    rw [hL1] at S1 G1
    have E1 := Lib.hid e1
    have E1n := Lib.hid e1n
    have C1 := Lib.hid S1
    have Gw1 := Lib.hid G1
    obtain ⟨y0, y1, y2, y3, y4⟩ := S1.cB (Nat.le_refl _) hk
    have hs := (S1.lk k (Nat.le_refl _) hk).oown
    have hol := S1.olen (Nat.le_refl _) hk
    have hO20 := (HO.out k (Nat.le_refl _) hk).len HL.out.rep
    rw [e1] at y0 y1 y2 y3 hs hol
    rcases hoe : (L k).o with ⟨oA, on, oc⟩
    have hs : Slc (w.setCell ⟨(L k).mb, y, none⟩ (.slice (some ⟨b, off, none⟩) N cp)) base (L k).o.1 (L k).o.2.1 (L k).o.2.2 (ofP (L k).orb) := hs
    have hol : (L k).o.2.1 = (L k).orb.length := hol
    have y2 : (w.setCell ⟨(L k).mb, y, none⟩ (.slice (some ⟨b, off, none⟩) N cp)).cell? ⟨(L k).B, 2, none⟩ = some (sval (L k).o) := y2
    rw [hoe] at hs hol y2
    have hs : Slc (w.setCell ⟨(L k).mb, y, none⟩ (.slice (some ⟨b, off, none⟩) N cp)) base oA on oc (ofP (L k).orb) := hs
    have hol : on = (L k).orb.length := hol
    simp only [sval] at y2
    have Hoe := Lib.hid hoe
    have Orb0 := Lib.hid (HO.out k (Nat.le_refl _) hk)
    have hon : on ≤ 20 := by omega
    obtain ⟨wx, hwx⟩ : ∃ wx, w.setCell ⟨(L k).mb, y, none⟩ (.slice (some ⟨b, off, none⟩) N cp) = wx := ⟨_, rfl⟩
    rw [hwx] at y2 hs C1 Gw1
    have Hs := Lib.hid hs
    have Hzx : Hid (wx.heap.size = w.heap.size) := Lib.hid (by rw [← hwx]; simp)
    have Lit : Hid ((wx.alloc (.cells #[.int .i64 (y : Nat)] 2)).cell? ⟨wx.heap.size, 0, none⟩ = some (.int .i64 (y : Nat))) := Lib.hid (by rw [World.cell?_alloc_at _ _ _ _ rfl]; rfl)
    have BL : Hid (Below wx.heap.size wx (wx.alloc (.cells #[.int .i64 (y : Nat)] 2))) := Lib.hid ((Below.refl _ _).alloc (Nat.le_refl _) _)
    have PA : Hid (∀ (A4 : Option Addr) (c4 : Nat) (w4 : World), Slc w4 base A4 (on + 1) c4 (ofP (L k).orb ++ [(y : Int)]) → (wx.alloc (.cells #[.int .i64 (y : Nat)] 2)).grownBy w4 (Value.slice oA on oc).ownBlock →
        ((Value.slice A4 (on + 1) c4).ownBlock = (Value.slice oA on oc).ownBlock ∨ (Value.slice A4 (on + 1) c4).ownBlock = some (wx.alloc (.cells #[.int .i64 (y : Nat)] 2)).heap.size) →
        w4.cell? ⟨(L k).B, 2, none⟩ = some (.slice oA on oc) ∧ w4.frozen? ⟨(L k).B, 2, none⟩ = false ∧ ∃ (L' : Nat → LK) (M' : Nat → Prop), Ck (w4.setCell ⟨(L k).B, 2, none⟩ (.slice A4 (on + 1) c4)) base N k M' (c.set k y q) L' ∧ Orbs N k (c.set k y q) L' ∧ Gw w (w4.setCell ⟨(L k).B, 2, none⟩ (.slice A4 (on + 1) c4)) N k L L' M M' ∧ (L k).orb <+: (L' k).orb ∧ (L' k).g = (L k).g) := Lib.hid (by
      intro A4 c4 w4 s4 g4 hat
      have ho1 : (L1 k).o = (oA, on, oc) := by rw [E1.out]; exact Hoe.out
      have hb1 : (L1 k).orb = (L k).orb := by rw [E1.out]
      have hB1 : (L1 k).B = (L k).B := by rw [E1.out]
      have hg1 : (L1 k).g = (L k).g := by rw [E1.out]
      obtain ⟨M', K1, K2⟩ := C1.out.orbit hk BL.out (y := y) (A := A4) (n := on + 1) (cc := c4) (by rw [ho1]; exact g4) (by rw [hb1]; exact s4) (by rw [ho1]; exact hat)
      rw [hB1] at K1 K2
      have blk1 : Blk w4 (L k).B 93 #[.int .i64 (k : Nat), sval (L1 k).g, sval (L1 k).o, .slice (some ⟨(L1 k).mb, 0, none⟩) N N, ptr N L1 (k + 1)] := by
        have h0 := (C1.out.lk k (Nat.le_refl _) hk).blk
        rw [hB1] at h0
        have h1 := h0.chg (S := fun _ => False) (.of_below BL.out) (fun e => e)
        refine h1.grown g4 fun e => ?_
        have := (C1.out.dis k 0 k 2 (L k).B (Nat.le_refl _) hk (by decide) (Nat.le_refl _) hk (by decide) (by show some (L1 k).B = _; rw [hB1]) (by show (sval (L1 k).o).ownBlock = _; rw [ho1]; exact e.symm)).2
        omega
      refine ⟨by rw [blk1.cell 2, ho1]; rfl, blk1.frozen 2, _, M', K1, fun i a b => ?_, Gw1.out.trans K2, ?_, ?_⟩
      · by_cases ei : i = k
        · subst ei
          rw [upd_at]
          show Orb _ i ((L1 i).orb ++ [y])
          rw [hb1]
          exact Orb0.out.put Hz.out Hqn.out
        · rw [upd_ne ei, E1n.out i ei]
          exact (HO.out i a b).congr fun z => set_ne (.inl ei)
      · rw [upd_at]
        show (L k).orb <+: (L1 k).orb ++ [y]
        rw [hb1]; exact List.prefix_append _ _
      · rw [upd_at]; exact hg1)
    have Inc : Hid (Ic N k c (c.set k y q) q) := Lib.hid (by
      have h3 := Ic.put HL.out hk (by omega) h2N HQ.out (by rw [Ey.out]; exact hz)
      rw [Ey.out] at h3; exact h3)
    clear S1 G1 hx2 hL1 e1 e1n y0 y1 y3 y4 hs hol hO20 hoe em hz hqne
    try clear hol
    try clear hol
    go_enter Try.func108, Try.ntmps108
    go_wp2_with (first
      | (at_builtin; go_must (refine wpList_appI rfl _ _ rfl base oA on oc (ofP (L k).orb) rfl (Hs.out.alloc _) wx.heap.size (y : Int) rfl Lit.out (by omega) (by have := Hzx.out; simp; omega) ?_); intro A4 c4 w4 s4 g4 hat4; obtain ⟨v1, v2, v3⟩ := PA.out A4 c4 w4 s4 g4 hat4; have V3 := Lib.hid v3; clear s4 g4 hat4 v3))
    obtain ⟨L', M', K1, K2, K3, K4, K5⟩ := V3.out
    (try simp only [Exit.inBlock, Exit.then]); refine bodyPost_ret (results_none rfl _ _ _) rfl ?_
    exact ⟨rfl, c.set k y q, L', M', K1, K2, K3, Inc.out, K4, K5⟩
  · have hrd := em.2 hz
    rcases hde : (L k).en.getD y sd0 with ⟨dA, dn, dc⟩
    rw [hde] at x5 hrd
    obtain ⟨b2, off2, e⟩ := rd_not0 hrd hz
    have e : dA = some ⟨b2, off2, none⟩ := e
    subst e
    have RP := Lib.hid (HL.out.rep.at_ y hz).2.1
    obtain rfl : dn = N := by have h3 : (c.rep k y).length = dn := hrd.len; have := RP.out.2; omega
    have Rr : Hid (RI w w.heap.size (some ⟨b2, off2, none⟩) (c.rep k y)) := Lib.hid hrd.ri
    have Rq : Hid (RI w w.heap.size (some ⟨b, off, none⟩) q) := Lib.hid HD.out.ri
    have Rst := Lib.hid (HL.out.rest hk (by omega) h2N HQ.out (by rw [Ey.out]; exact hz))
    rw [Ey.out] at Rst
    have Hz := Lib.hid hz
    have eiv : Hid (invL (c.rep k y) dn = iv (c.rep k y)) := Lib.hid (by unfold iv; rw [RP.out.2])
    have ep : ptr dn L (k + 1) = .pointer (some ⟨(L (k + 1)).B, 0, none⟩) := if_pos hkN
    rw [ep] at x4
    have hB : (L k).B < w.heap.size := (HC.out.lk k (Nat.le_refl _) hk).blk.lt
    have hmb : (L k).mb < w.heap.size := (HC.out.mlt _ (HC.out.mm k 3 _ (Nat.le_refl _) hk (by decide) rfl)).2
    simp only [sval] at x5
    clear em hz hrd hde ep x1 x2
    go_enter Try.func108, Try.ntmps108
    go_wp2_with fail
    go_region_held3 (fun w' => w'.cell? ⟨(L k).B, 4, none⟩ = some (.pointer (some ⟨(L (k + 1)).B, 0, none⟩)) ∧ w'.cell? ⟨(L k).B, 3, none⟩ = some (.slice (some ⟨(L k).mb, 0, none⟩) dn dn) ∧ w'.cell? ⟨(L k).mb, y, none⟩ = some (.slice (some ⟨b2, off2, none⟩) dn dc))
      (first | exact ⟨x4, x3, x5⟩ | exact hS1 | exact hS2 | exact hS3 | go_keep)
      (first
        | (go_at_call 105; refine (implInv (some ⟨b2, off2, none⟩) dc dn (c.rep k y) _ ?_ ?_ ?_ h2N).mono ?_; (exact Rr.out); (exact Lib.hid RP.out.2); (exact Lib.hid RP.out.1); rintro e w1 ⟨A2, c2, rfl, s2, b1'⟩; have b1 : Below w.heap.size w w1 := ⟨b1'.os, b1'.tape, b1'.output, b1'.size, b1'.block⟩; have hS1 := And.intro ((b1.cell (p := ⟨(L k).B, 4, none⟩) hB).trans x4) (And.intro ((b1.cell (p := ⟨(L k).B, 3, none⟩) hB).trans x3) ((b1.cell (p := ⟨(L k).mb, y, none⟩) hmb).trans x5)))
        | (go_at_call 48; refine (implThen (some ⟨b, off, none⟩) A2 cp c2 dn q (invL (c.rep k y) dn) w1 ?_ ?_ ?_ ?_ ?_ h2N).mono ?_; (exact Rq.out.up b1); (exact s2.ri_); (exact Lib.hid QP.out.2); (exact s2.hid); (exact Lib.hid QP.out.1); rintro e w2 ⟨A3, c3, rfl, s3, b2'⟩; have hS2 := And.intro ((b2'.cell (p := ⟨(L k).B, 4, none⟩) (Nat.lt_of_lt_of_le hB b1.size)).trans hS1.1) (And.intro ((b2'.cell (p := ⟨(L k).B, 3, none⟩) (Nat.lt_of_lt_of_le hB b1.size)).trans hS1.2.1) ((b2'.cell (p := ⟨(L k).mb, y, none⟩) (Nat.lt_of_lt_of_le hmb b1.size)).trans hS1.2.2)))
        | (go_at_call 88; refine (AD M c L A3 c3 (compL q (invL (c.rep k y) dn)) w2 ?_ ?_ ?_ ?_ ?_ ?_).mono ?_; (exact ((HC.out.up b1).up b2').above (Nat.le_succ k)); (exact fun i a b => HO.out i (by omega) b); (exact Rd.of_slc (d := (A3, dn, c3)) s3 fun b e => Nat.lt_of_lt_of_le (HC.out.mlt b e).2 b1.size); (rw [eiv.out]; exact Rst.out.1); (rw [eiv.out]; exact Rst.out.2); (exact HL.out.up); rintro e w3 ⟨c', L', M', rfl, hc3, ho3, hg3, hap⟩; have hS3 := And.intro ((cells_gw hg3 ((HC.out.up b1).up b2') hk (L k).B 4 (.inl rfl)).trans hS2.1) (And.intro ((cells_gw hg3 ((HC.out.up b1).up b2') hk (L k).B 3 (.inl rfl)).trans hS2.2.1) ((cells_gw hg3 ((HC.out.up b1).up b2') hk (L k).mb y (.inr rfl)).trans hS2.2.2))))
    have er : c'.rep k = c.rep k := funext fun z => hap.grw.rep k z (by omega)
    have eg : c'.gen k = c.gen k := hap.grw.gen k (by omega)
    have C2 := (HC.out.up b1).up b2'
    have K1 := C2.down hk hc3 hg3 er eg
    have K3 : Gw w w3 dn k L L' M M' := (Gw.of_below (b1.trans (b2'.mono b1.size))).trans (hg3.down C2)
    have hLk := hg3.keep k (by omega)
    have K2 : Orbs dn k c' L' := fun i a b => by
      by_cases ei : i = k
      · subst ei
        rw [hLk]
        exact (HO.out i a b).congr fun z => by rw [er]
      · exact ho3 i (by omega) b
    have K4 : Ic dn k c c' q := Ic.old HL.out hk (by omega) h2N HQ.out (by rw [Ey.out]; exact Hz.out) (by rw [Ey.out, ← eiv.out]; exact hap)
    go_end0
    exact ⟨c', L', M', rfl, K1, K2, K3, K4, by rw [hLk]; exact List.prefix_rfl, by rw [hLk]⟩
end Go.Proofs.Ytkjokchhffjidaa

/- The program's add: a permutation that fixes every point before the base is added to a link. Conditions: at most 20 points; the chain whole from the link on. -/
namespace Go.Proofs.Ytkjokchhffjidaa
open Go.RowKit

theorem boolOf (P : Prop) : ∃ b : Bool, b = true ↔ P := by
  by_cases h : P
  · exact ⟨true, fun _ => h, fun _ => rfl⟩
  · exact ⟨false, fun e => (Bool.false_ne_true e).elim, fun e => (h e).elim⟩

set_option maxHeartbeats 8000000 in
set_option maxRecDepth 100000 in
theorem implAdd1 (base N k : Nat) (hk : k < N) (h2N : N ≤ 20) (IN : k + 1 < N → INs base N k) : ADs base N k := by
  intro M c L A cp p w hc ho hd hP hF hU
  obtain ⟨ans, hans⟩ := boolOf (Mb (c.gen k) N p)
  have Ha := Lib.hid hans
  have HC := Lib.hid hc
  have HO := Lib.hid ho
  have HD := Lib.hid hd
  have HP := Lib.hid hP
  have HF := Lib.hid hF
  have HU := Lib.hid hU
  have hbs : base ≤ w.heap.size := by have := hc.mlt _ (hc.mm k 0 _ (Nat.le_refl _) hk (by decide) rfl); omega
  clear hc ho hd hP hF hU hans
  go_enter Try.func88, Try.ntmps88
  go_wp2_with fail
  refine (implContains base N k cp M c L A p w HC.out hk HU h2N HD.out.ri HP HF ans Ha).mono ?_
  rintro e w1 ⟨rfl, b1⟩
  have C1 := Lib.hid (HC.out.up b1)
  have D1 := Lib.hid (HD.out.up b1)
  have B1 := Lib.hid b1
  rcases ans with _ | _
  · have NM : Hid (¬ Mb (c.gen k) N p) := Lib.hid fun h => Bool.false_ne_true (Ha.out.2 h)
    have NS : Hid (¬ Sv N c k p) := Lib.hid fun h => NM.out ((HU.out.sv k (Nat.le_refl _) (by omega) p).1 h)
    have hk1 : k + 1 < N := by
      rcases Nat.lt_or_ge (k + 1) N with h | h
      · exact h
      · exact absurd (sv_last HU.out (by omega) (by omega) h2N HP.out HF.out) NS.out
    obtain ⟨b, hA⟩ : ∃ b : Nat × Nat, A = some ⟨b.1, b.2, none⟩ := by
      obtain ⟨b, off, e, _⟩ := D1.out.at_ (by rw [HP.out.2]; omega)
      exact ⟨(b, off), e⟩
    obtain ⟨b, off⟩ := b
    have hA : A = some ⟨b, off, none⟩ := hA
    subst hA
    obtain ⟨x0, x1, x2, x3, x4⟩ := C1.out.cB (Nat.le_refl _) hk
    have hl := C1.out.lk k (Nat.le_refl _) hk
    have ho := hl.gown
    obtain ⟨G, hG⟩ : ∃ G, (c.gen k).length = G := ⟨_, rfl⟩
    have HG := Lib.hid hG
    have hG4 : G ≤ 400 := by
      rw [← hG]
      have h1 := HU.out.len k (Nat.le_refl _) hk
      have h2 := cnt_le N c k
      have h3 := Nat.mul_le_mul h2N h2N
      omega
    rcases hgv : (L k).g with ⟨gA, gn, gc⟩
    rw [hgv, hG] at ho
    rw [hgv] at x1
    obtain rfl : gn = G := by
      rcases ho.2 with ⟨e, h0⟩ | ⟨g', cap, cur, e, _⟩
      · unfold sval at e; injection e with _ e2 _; have e2 : gn = 0 := e2; omega
      · unfold sval at e; injection e with _ e2 _
    have ho : w1.ownsRow base 59 1 (.slice gA gn gc) gn ((L k).ge.map sval) := ho
    simp only [sval] at x1
    have Ho := Lib.hid ho
    have Hgv := Lib.hid hgv
    rcases hov : (L k).o with ⟨oA, on, oc⟩
    have hol := C1.out.olen (Nat.le_refl _) hk
    rw [hov] at hol
    have hol : on = (L k).orb.length := hol
    have Hol := Lib.hid hol
    have Hov := Lib.hid hov
    have hO20 := (HO.out k (Nat.le_refl _) hk).len (HU.out.rep k (Nat.le_refl _) hk)
    have hon : on ≤ N := by omega
    clear hol hO20
    try clear hol
    clear hov
    have fzB := hl.blk.frozen 1
    have bw1 : base ≤ w1.heap.size := by have := B1.out.size; omega
    obtain ⟨Lt, hLt⟩ : ∃ Lt, Obj.cells #[Value.slice (some ⟨b, off, none⟩) N cp] 59 = Lt := ⟨_, rfl⟩
    have Lit : Hid ((w1.alloc (.cells #[.slice (some ⟨b, off, none⟩) N cp] 59)).cell? ⟨w1.heap.size, 0, none⟩ = some (sval (some ⟨b, off, none⟩, N, cp))) := Lib.hid (by rw [World.cell?_alloc_at _ _ _ _ rfl]; rfl)
    have BL : Hid (Below w1.heap.size w1 (w1.alloc (.cells #[.slice (some ⟨b, off, none⟩) N cp] 59))) := Lib.hid ((Below.refl _ _).alloc (Nat.le_refl _) _)
    have PA : Hid (∀ (A4 : Option Addr) (c4 : Nat) (w4 : World), w4.ownsRow base 59 1 (.slice A4 (gn + 1) c4) (gn + 1) ((L k).ge.map sval ++ [sval (some ⟨b, off, none⟩, N, cp)]) → (w1.alloc (.cells #[.slice (some ⟨b, off, none⟩) N cp] 59)).grownBy w4 (Value.slice gA gn gc).ownBlock →
        ((Value.slice A4 (gn + 1) c4).ownBlock = (Value.slice gA gn gc).ownBlock ∨ (Value.slice A4 (gn + 1) c4).ownBlock = some (w1.alloc (.cells #[.slice (some ⟨b, off, none⟩) N cp] 59)).heap.size) →
        (w4.setCell ⟨(L k).B, 1, none⟩ (.slice A4 (gn + 1) c4)).cell? ⟨(L k).B, 2, none⟩ = some (.slice oA on oc) ∧ w4.cell? ⟨(L k).B, 1, none⟩ = some (.slice gA gn gc) ∧ w4.frozen? ⟨(L k).B, 1, none⟩ = false ∧ ∃ (L' : Nat → LK) (M' : Nat → Prop), Ck (w4.setCell ⟨(L k).B, 1, none⟩ (.slice A4 (gn + 1) c4)) base N k M' (c.push k p) L' ∧ Orbs N k (c.push k p) L' ∧ Gw w (w4.setCell ⟨(L k).B, 1, none⟩ (.slice A4 (gn + 1) c4)) N k L L' M M' ∧ (L' k).orb = (L k).orb ∧ (L' k).g = (A4, gn + 1, c4)) := Lib.hid (by
      intro A4 c4 w4 s4 g4 hat
      obtain ⟨M', K1, K2⟩ := C1.out.pushg hk BL.out (q := p) (d := (some ⟨b, off, none⟩, N, cp)) (A := A4) (n := gn + 1) (cc := c4) (by rw [Hgv.out]; exact g4) (by rw [HG.out]; exact s4) (by rw [Hgv.out]; exact hat) D1.out
      have blk1 : Blk w4 (L k).B 93 #[.int .i64 (k : Nat), sval (L k).g, sval (L k).o, .slice (some ⟨(L k).mb, 0, none⟩) N N, ptr N L (k + 1)] := by
        have h0 := (C1.out.lk k (Nat.le_refl _) hk).blk
        have h1 := h0.chg (S := fun _ => False) (.of_below BL.out) (fun e => e)
        refine h1.grown g4 fun e => ?_
        have := (C1.out.dis k 0 k 1 (L k).B (Nat.le_refl _) hk (by decide) (Nat.le_refl _) hk (by decide) rfl (by show (sval (L k).g).ownBlock = _; rw [Hgv.out]; exact e.symm)).2
        omega
      refine ⟨?_, by rw [blk1.cell 1, Hgv.out]; rfl, blk1.frozen 1, _, M', K1, fun i a b => ?_, (Gw.of_below B1.out).trans K2, ?_, ?_⟩
      · have h3 := (K1.cB (Nat.le_refl _) hk).2.2.1
        rw [upd_at] at h3
        have h3 : (w4.setCell ⟨(L k).B, 1, none⟩ (.slice A4 (gn + 1) c4)).cell? ⟨(L k).B, 2, none⟩ = some (sval (L k).o) := h3
        rw [Hov.out] at h3; exact h3
      · by_cases ei : i = k
        · subst ei
          rw [upd_at]
          exact (HO.out i a b).congr fun z => rfl
        · rw [upd_ne ei]
          exact (HO.out i a b).congr fun z => rfl
      · rw [upd_at]
      · rw [upd_at])
    have P0 : Hid (Low N (c.push k p) k) := Lib.hid (HU.out.pushed hk (by omega) h2N HP.out HF.out)
    clear hl ho hG hgv b1 HC HD hLt
    go_wp2_with (first
      | (at_builtin; go_must (refine wpList_appP rfl _ _ rfl base (.slice gA gn gc) gn ((L k).ge.map sval) rfl (World.ownsRow.alloc Ho.out _) w1.heap.size (some ⟨b, off, none⟩, N, cp) rfl Lit.out (by omega) (by simp; omega) ?_); intro A4 c4 w4 s4 g4 hat4; obtain ⟨v0, v1, v2, v3⟩ := PA.out A4 c4 w4 s4 g4 hat4; have V3 := Lib.hid v3; clear s4 g4 hat4 v3))
    obtain ⟨L3, M3, hc3, ho3, hg3, horb3, hgk3⟩ := V3.out
    generalize w4.setCell ⟨(L k).B, 1, none⟩ (.slice A4 (gn + 1) c4) = w5 at v0 hc3 hg3 ⊢
    have St : Hid (Bf N k (c.push k p) (c.push k p) (L3 k).orb p on 0 0) := Lib.hid (by
      have h3 := Bf.start (p := p) P0.out (ho3 k (Nat.le_refl _) hk)
      have e3 : (L3 k).orb.length = on := by rw [horb3, Hol.out]
      rw [e3] at h3; exact h3)
    have C3 := Lib.hid hc3
    have O3 := Lib.hid ho3
    have G3 := Lib.hid hg3
    have glen : ((c.push k p).gen k).length = gn + 1 := by rw [push_at, List.length_append, HG.out]; rfl
    have Gl := Lib.hid glen
    clear hc3 ho3 hg3 horb3 hgk3 v1 v2 V3 PA glen BL Lit fzB x1 x0 x2 x3 x4
    go_loopg [5, 6, 7, 9] N (fun gg iv _ _ _ wr => ∃ (i : Nat) (cj : Ch) (Lj : Nat → LK) (Mj : Nat → Prop), i ≤ (Lj k).orb.length ∧ N - i ≤ gg ∧ iv = .int .i64 (i : Nat) ∧ Ck wr base N k Mj cj Lj ∧ Orbs N k cj Lj ∧ Gw w wr N k L Lj M Mj ∧ Bf N k (c.push k p) cj (Lj k).orb p on i 0)
    case atStart => exact ⟨0, c.push k p, L3, M3, Nat.zero_le _, by omega, rfl, C3.out, O3.out, G3.out, St.out⟩
    case round =>
      clear C3 O3 G3 St
      obtain ⟨i, cj, Lj, Mj, hi, hgg, rfl, hc, ho, hg, hbf⟩ := hrel
      have Cj := Lib.hid hc
      have Oj := Lib.hid ho
      have Gj := Lib.hid hg
      have Bj := Lib.hid hbf
      have hBk : (Lj k).B = (L k).B := hg.ptr k
      obtain ⟨x0, x1, x2, x3, x4⟩ := hc.cB (Nat.le_refl _) hk
      rw [hBk] at x0 x1 x2 x3 x4
      have hlenj := hc.olen (Nat.le_refl _) hk
      have hOr := ho k (Nat.le_refl _) hk
      have h20 := hOr.len hbf.low.rep
      have hbl := hbf.len
      have eg : (cj.gen k).length = gn + 1 := by rw [hbf.gen]; exact Gl.out
      obtain ⟨m, hm⟩ : ∃ m, (Lj k).orb.length = m := ⟨_, rfl⟩
      have Hm := Lib.hid hm
      rw [hm] at hi h20 hbl hlenj
      by_cases hlt : i < m
      · obtain ⟨ob, oc2, hoe, x6⟩ := hc.cO (Nat.le_refl _) hk (j := i) (by rw [hm]; exact hlt)
        rw [hoe] at x2
        rw [hm] at x2
        obtain ⟨y, ey⟩ : ∃ y, (Lj k).orb.getD i 0 = y := ⟨_, rfl⟩
        rw [ey] at x6
        have hyO : y ∈ (Lj k).orb := by rw [← ey, List.getD_eq_getElem?_getD, List.getElem?_eq_getElem (by rw [hm]; exact hlt)]; exact List.getElem_mem _
        have hry : cj.rep k y ≠ [] := (hOr.2 y).1 hyO
        obtain ⟨hy, hrP, hrF, hrk⟩ := hbf.low.rep.at_ y hry
        have x7 := hc.cM (Nat.le_refl _) hk hy
        have hrd := (hc.eM (Nat.le_refl _) hk hy).2 hry
        rcases hde : (Lj k).en.getD y sd0 with ⟨dA, dn, dc⟩
        rw [hde] at x7 hrd
        obtain ⟨gq, gcq, hge, hcap, x8, hrg⟩ := hc.cG (Nat.le_refl _) hk (j := 0) (by omega)
        rw [hge] at x1
        rw [eg] at x1 hcap
        simp only [sval] at x1 x2 x7
        have q0 : (0 : Int) ≤ i := by omega
        have q1 : (i : Int) < m := by omega
        have q2 : (0 : Int) ≤ y := by omega
        have q3 : (y : Int) < N := by omega
        have Ey := Lib.hid ey
        have Hry := Lib.hid hry
        have Rd0 := Lib.hid hrd
        have Hge := Lib.hid hge
        have RP := Lib.hid hrP
        clear hc ho hg hbf hlenj hOr hm hoe hyO hry hrP hrF hrk hde hrd hge x8 hrg ey eg
        go_wp2_with fail
        go_quiet (fail)
        have B3 : Hid (Below wr.heap.size wr (wr.drewN nq)) := Lib.hid (pcDrewBelow wr nq)
        obtain ⟨wz, hwz⟩ : ∃ wz, wr.drewN nq = wz := ⟨_, rfl⟩
        rw [hwz] at B3 ⊢
        have Cz := Lib.hid (Cj.out.up B3.out)
        have Rz := Lib.hid (Rd0.out.up B3.out)
        have Gz : Hid (Gw w wz N k L Lj M Mj) := Lib.hid (Gj.out.trans (.of_below B3.out))
        clear hwz B3 Cj Rd0 Gj
        go_upto_if 56 with fail
        go_cut [7] from 28 to 73 (fun gv wx => wx = wz ∧ ∃ (of gl cc : Nat), gv = .slice (some ⟨gq, of, none⟩) gl cc ∧ ((i < on ∧ of = gn ∧ gl = 1) ∨ (on ≤ i ∧ of = 0 ∧ gl = gn + 1)))
        case first =>
          by_cases hin : i < on
          · have d0 : decide ((i : Int) < (on : Int)) = true := by simp; omega
            go_wp2_with fail
            go_meet
            exact ⟨rfl, gn, 1, _, rfl, .inl ⟨hin, rfl, rfl⟩⟩
          · have d0 : decide ((i : Int) < (on : Int)) = false := by simp; omega
            go_wp2_with fail
            go_meet
            exact ⟨rfl, 0, gn + 1, _, rfl, .inr ⟨by omega, rfl, rfl⟩⟩
        case rest =>
          obtain ⟨rfl, of, gl, cc, rfl, hgs⟩ := hcut
          have Gs := Lib.hid hgs
          have Gal : Hid ((gsA on ((c.push k p).gen k) p i).length = gl) := Lib.hid (by
            unfold gsA
            rcases hgs with ⟨h1, _, h3⟩ | ⟨h1, _, h3⟩
            · rw [if_pos h1, h3]; rfl
            · rw [if_neg (by omega), Gl.out, h3])
          have hgl4 : gl ≤ 401 := by omega
          have hofl : of + gl = gn + 1 := by omega
          obtain rfl : dn = N := by have h3 : (cj.rep k y).length = dn := Rz.out.len; have := RP.out.2; omega
          clear hgs
          go_wp2_with fail
          go_loopg [9, 64] gl (fun gg _ jv wr => ∃ (j : Nat) (ci : Ch) (Li : Nat → LK) (Mi : Nat → Prop), j ≤ gl ∧ gl - j ≤ gg ∧ jv = .int .i64 (j : Nat) ∧ Ck wr base dn k Mi ci Li ∧ Orbs dn k ci Li ∧ Gw w wr dn k L Li M Mi ∧ Bf dn k (c.push k p) ci (Li k).orb p on i j ∧ (Li k).g = (Lj k).g ∧ (Lj k).orb <+: (Li k).orb ∧ ci.rep k y = cj.rep k y ∧ Rd wr Mi (dA, dn, dc) (cj.rep k y))
          case atStart => exact ⟨0, cj, Lj, Mj, Nat.zero_le _, by omega, rfl, Cz.out, Oj.out, Gz.out, Bj.out, rfl, List.prefix_rfl, rfl, Rz.out⟩
          case round =>
            clear Cz Gz Rz
            obtain ⟨j, ci, Li, Mi, hj, hgg2, rfl, hc, ho, hg, hbf, hgk, hpre, hrep, hrd⟩ := hrel
            have Ci := Lib.hid hc
            have Oi := Lib.hid ho
            have Gi := Lib.hid hg
            have Bi := Lib.hid hbf
            have Gk := Lib.hid hgk
            have Pre := Lib.hid hpre
            have Rep := Lib.hid hrep
            have Rdi := Lib.hid hrd
            have gen1 : ci.gen k = c.gen k ++ [p] := by rw [hbf.gen, push_at]
            by_cases hjl : j < gl
            · obtain ⟨gq', gc', hge', _, x8, hrg⟩ := hc.cG (Nat.le_refl _) hk (j := of + j) (by rw [gen1, List.length_append, HG.out]; simp; omega)
              rw [hgk, Hge.out] at hge'
              obtain ⟨rfl, rfl⟩ : gq = gq' ∧ gcq = gc' := by
                injection hge' with h1 h2
                injection h1 with h1
                injection h1 with h1
                injection h2 with _ h2
                exact ⟨h1, h2⟩
              rcases hde : (Li k).ge.getD (of + j) sd0 with ⟨eA, en, ec⟩
              rw [hde] at x8 hrg
              obtain ⟨h, eh⟩ : ∃ h, (ci.gen k).getD (of + j) [] = h := ⟨_, rfl⟩
              rw [eh] at hrg
              have egs : (gsA on ((c.push k p).gen k) p i).getD j [] = h := by
                rw [← eh, gen1]
                unfold gsA
                rcases Gs.out with ⟨h1, h2, h3⟩ | ⟨h1, h2, h3⟩
                · obtain rfl : j = 0 := by omega
                  rw [if_pos h1, h2, getD_snoc _ _ _ (gn + 0) (by rw [HG.out]; rfl)]; rfl
                · rw [if_neg (by omega), h2, push_at, Nat.zero_add]
              have hilt : i < (Li k).orb.length := Nat.lt_of_lt_of_le (by rw [Hm.out]; exact hlt) hpre.length_le
              have eyi : (Li k).orb.getD i 0 = y := by rw [getD_pre hpre (by rw [Hm.out]; exact hlt)]; exact Ey.out
              obtain ⟨k1, k2, k3⟩ := hbf.mb (ho k (Nat.le_refl _) hk) hilt (by rw [Gal.out]; exact hjl)
              rw [egs, eyi, hrep] at k1
              rw [egs] at k3
              have hP2 := (hbf.low.gp h k3).1
              obtain rfl : en = dn := by have h3 : h.length = en := hrg.len; have := hP2.2; omega
              have K1 := Lib.hid k1
              have Egs := Lib.hid egs
              have Eyi := Lib.hid eyi
              have Hp2 := Lib.hid hP2
              have Rgi := Lib.hid hrg
              have Hil := Lib.hid hilt
              simp only [sval] at x8
              have q4 : (0 : Int) ≤ j := by omega
              have q5 : (j : Int) < gl := by omega
              clear hc ho hg hbf hgk hpre hrep hrd gen1 hge' hde eh egs hilt eyi k1 k2 k3 hP2 hrg
              go_wp2_with fail
              refine (implThen dA eA dc ec en (cj.rep k y) h wr Rdi.out.ri Rgi.out.ri (Lib.hid RP.out.2) (Lib.hid Hp2.out.2) (Lib.hid RP.out.1) h2N).mono ?_
              rintro e w3 ⟨A3, c3, rfl, s3, b3⟩
              have C4 := Lib.hid (Ci.out.up b3)
              have R4 : Hid (Rd w3 Mi (A3, en, c3) (compL (cj.rep k y) h)) := Lib.hid (Rd.of_slc (d := (A3, en, c3)) s3 fun b e => (Ci.out.mlt b e).2)
              have G4 : Hid (Gw w w3 en k L Li M Mi) := Lib.hid (Gi.out.trans (.of_below b3))
              have D4 := Lib.hid (Rdi.out.up b3)
              have eBi : (Li k).B = (L k).B := Gi.out.ptr k
              have EBi := Lib.hid eBi
              clear s3 b3 eBi
              go_wp2_with fail
              have KI := IN hk1 Mi ci Li A3 c3 (compL (cj.rep k y) h) w3 C4.out Oi.out R4.out Bi.out.low K1.out
              rw [EBi.out] at KI
              refine KI.mono ?_
              rintro e w4 ⟨c', L', M', rfl, hc4, ho4, hg4, hic, hpre4, hgk4⟩
              have C5 := Lib.hid hc4
              have O5 := Lib.hid ho4
              have G5 : Hid (Gw w w4 en k L L' M M') := Lib.hid (G4.out.trans hg4)
              have Bf5 : Hid (Bf en k (c.push k p) c' (L' k).orb p on i (j + 1)) := Lib.hid (Bi.out.next (Oi.out k (Nat.le_refl _) hk) Hil.out hpre4 (by rw [Egs.out, Eyi.out, Rep.out]; exact hic))
              have Gk5 : Hid ((L' k).g = (Lj k).g) := Lib.hid (hgk4.trans Gk.out)
              have Pre5 : Hid ((Lj k).orb <+: (L' k).orb) := Lib.hid (Pre.out.trans hpre4)
              have Rep5 : Hid (c'.rep k y = cj.rep k y) := Lib.hid (by
                rw [← Rep.out]; exact hic.grw.keep _ _ (by rw [Rep.out]; exact Hry.out))
              have D5 : Hid (Rd w4 M' (dA, en, dc) (cj.rep k y)) := Lib.hid (D4.out.gw hg4 C4.out.muM)
              clear KI hc4 ho4 hg4 hic hpre4 hgk4
              go_wp2_with fail
              go_roundg (gl - (j + 1))
              case rel => exact ⟨j + 1, c', L', M', by omega, by omega, by go_num, C5.out, O5.out, G5.out, Bf5.out, Gk5.out, Pre5.out, Rep5.out, D5.out⟩
              case measure => omega
            · obtain rfl : j = gl := by omega
              have Bf6 : Hid (Bf dn k (c.push k p) ci (Li k).orb p on (i + 1) 0) := Lib.hid (Bf.round (by rw [Gal.out]; exact Bi.out))
              have hil : i + 1 ≤ (Li k).orb.length := Nat.lt_of_lt_of_le (by rw [Hm.out]; exact hlt) hpre.length_le
              clear hc ho hg hbf hgk hpre hrep hrd gen1
              go_wp2_with fail
              go_roundg (dn - (i + 1))
              case rel => exact ⟨i + 1, ci, Li, Mi, hil, by omega, by go_num, Ci.out, Oi.out, Gi.out, Bf6.out⟩
              case measure => omega
      · obtain rfl : i = m := by omega
        have Fin : Hid (Ap N k c cj p) := Lib.hid (Bf.all HU.out hk (by omega) h2N HP.out HF.out NS.out (by rw [Hm.out]; exact Bj.out) hOr)
        simp only [sval] at x2
        clear hc ho hg hbf
        rcases hoe : (Lj k).o with ⟨oA2, on2, oc2⟩
        rw [hoe] at x2 hlenj
        have hlenj : on2 = i := hlenj
        subst hlenj
        simp only at x2
        clear hoe
        go_wp2_with fail
        go_end0
        exact ⟨rfl, cj, Lj, Mj, Cj.out, Oj.out, Gj.out, Fin.out⟩
  · have Fin : Hid (Ap N k c c p) := Lib.hid (.same HU.out (by omega) (by omega) h2N ((HU.out.sv k (Nat.le_refl _) (by omega) p).2 (Ha.out.1 rfl)))
    go_wp2_with fail
    (try simp only [Exit.inBlock, Exit.then]); refine bodyPost_ret (results_none rfl _ _ _) rfl ?_
    first
      | exact ⟨c, L, M, rfl, C1.out, HO.out, .of_below B1.out, Fin.out⟩
      | exact ⟨rfl, c, L, M, C1.out, HO.out, .of_below B1.out, Fin.out⟩
theorem implAdd (base N : Nat) (h2N : N ≤ 20) : ∀ m k, k + m + 1 = N → ADs base N k
  | 0, k, e => implAdd1 base N k (by omega) h2N fun h => absurd h (by omega)
  | m + 1, k, e => implAdd1 base N k (by omega) h2N fun h => implInclude base N k h h2N (implAdd base N h2N m (k + 1) (by omega))
end Go.Proofs.Ytkjokchhffjidaa

/- The program's chainOf: a chain whole from link 0 on, of what the generators generate. Conditions: at most 20 points, 8 generators. -/
namespace Go.Proofs.Ytkjokchhffjidaa
open Go.RowKit

/-- One link more, ahead of the others, in blocks of its own. -/
theorem ck_cons {w w' : World} {base N k : Nat} {M : Nat → Prop} {c : Ch} {L : Nat → LK} {l : LK} (h : Ck w base N (k + 1) M c L) (hb : Below w.heap.size w w') (hbs : base ≤ w.heap.size)
    (hl : Lk w' base N k (fun b => M b ∨ ∃ t, t < 4 ∧ mu l t = some b) (c.rep k) (c.gen k) (ptr N L (k + 1)) l)
    (hf : ∀ t b, t < 4 → mu l t = some b → w.heap.size ≤ b ∧ b < w'.heap.size) (hd : ∀ t t' b, t < 4 → t' < 4 → mu l t = some b → mu l t' = some b → t = t') :
    Ck w' base N k (fun b => M b ∨ ∃ t, t < 4 ∧ mu l t = some b) c (upd L k l) := by
  have hp : ∀ i, k ≤ i → ptr N (upd L k l) (i + 1) = ptr N L (i + 1) := fun i hi => by unfold ptr; rw [upd_ne (by omega)]
  have hx : ∀ i t t' b, k < i → i < N → t < 4 → t' < 4 → mu (L i) t = some b → mu l t' = some b → False := fun i t t' b a1 a2 a3 a4 e e' => by
    have := (h.mlt b (h.mm i t b a1 a2 a3 e)).2
    have := (hf t' b a4 e').1
    omega
  refine ⟨fun i a b => ?_, fun i t b a1 a2 a3 e => ?_, fun b e => ?_, fun i t i' t' b a1 a2 a3 a4 a5 a6 e e' => ?_⟩
  · rw [hp i a]
    by_cases ei : i = k
    · subst ei; rw [upd_at]; exact hl
    · rw [upd_ne ei]
      exact (h.lk i (by omega) b).keep (S := fun _ => False) (.of_below hb) (fun _ _ _ _ e => e) (fun _ e => e.elim) fun b e => by
        rcases e with e | ⟨t, a, e⟩
        · exact .inl e
        · exact .inr (hf t b a e).1
  · by_cases ei : i = k
    · subst ei; rw [upd_at] at e; exact .inr ⟨t, a3, e⟩
    · rw [upd_ne ei] at e; exact .inl (h.mm i t b (by omega) a2 a3 e)
  · have := hb.size
    rcases e with e | ⟨t, a, e⟩
    · have := h.mlt b e; omega
    · have := hf t b a e; omega
  · by_cases ei : i = k <;> by_cases ei' : i' = k
    · subst ei; subst ei'
      rw [upd_at] at e e'
      exact ⟨rfl, hd t t' b a3 a6 e e'⟩
    · subst ei
      rw [upd_at] at e
      rw [upd_ne ei'] at e'
      exact (hx i' t' t b (by omega) a5 a6 a3 e' e).elim
    · subst ei'
      rw [upd_at] at e'
      rw [upd_ne ei] at e
      exact (hx i t t' b (by omega) a2 a3 a6 e e').elim
    · rw [upd_ne ei] at e
      rw [upd_ne ei'] at e'
      exact h.dis i t i' t' b (by omega) a2 a3 (by omega) a5 a6 e e'
theorem orb0 {N k : Nat} (h1 : 1 ≤ N) : Orb (ch0 N) k [k] := by
  refine ⟨by simp, fun y => ?_⟩
  rw [List.mem_singleton]
  show y = k ↔ (if y = k then idL N else []) ≠ []
  by_cases e : y = k
  · rw [if_pos e]; exact ⟨fun _ e2 => by have := idL_length N; rw [e2] at this; simp at this; omega, fun _ => e⟩
  · rw [if_neg e]; exact ⟨fun h => absurd h e, fun h => absurd rfl h⟩
def lk0 : LK := ⟨0, sd0, [], sd0, 0, [], []⟩
/-- The rows of a new link. -/
theorem madeP {w : World} {base g n : Nat} (h : w.ownsRow base 59 1 (.slice (some ⟨g, 0, none⟩) n n) n (madeCells (Value.slice none 0 0).cells (n * 1)).toList) : w.ownsRow base 59 1 (.slice (some ⟨g, 0, none⟩) n n) n ((List.replicate n sd0).map sval) := by
  have e : (madeCells (Value.slice none 0 0).cells (n * 1)).toList = (List.replicate n sd0).map sval := by
    show (madeCells #[Value.slice none 0 0] (n * 1)).toList = _
    rw [toList_madeCells_one]; simp [sval, sd0]
  rw [← e]; exact h

theorem ck_new {wr wA : World} {base N k B1 c2 : Nat} {M : Nat → Prop} {L : Nat → LK} {po : Option Addr} {A2 : Option Addr} (h : Ck wr base N (k + 1) M (ch0 N) L) (hk : k < N) (hpo : ptr N L (k + 1) = .pointer po) (BA : Below wr.heap.size wr wA)
    (RA : wA.ownsRow base 59 1 (.slice (some ⟨wr.heap.size, 0, none⟩) N N) N (((List.replicate N sd0).set k (A2, N, c2)).map sval)) (hB1 : wr.heap.size < B1) (SA : Slc wA B1 A2 N c2 (idL N)) (hbs : base ≤ wr.heap.size) :
    ∃ (L' : Nat → LK) (M' : Nat → Prop), Ck ((wA.alloc (.cells #[.int .i64 (k : Nat)] 2)).alloc (.cells #[.int .i64 (k : Nat), .slice none 0 0, .slice (some ⟨wA.heap.size, 0, none⟩) 1 1, .slice (some ⟨wr.heap.size, 0, none⟩) N N, .pointer po] 93)) base N k M' (ch0 N) L' ∧
      (L' k).B = wA.heap.size + 1 ∧ (∀ i, k < i → L' i = L i) ∧ (L' k).orb = [k] ∧ (∀ b, M b → M' b) ∧ (∀ b, Mu N k L' b → Mu N (k + 1) L b ∨ wr.heap.size ≤ b) ∧ ((L' k).en.getD k sd0 = (A2, N, c2) ∧ Slc ((wA.alloc (.cells #[.int .i64 (k : Nat)] 2)).alloc (.cells #[.int .i64 (k : Nat), .slice none 0 0, .slice (some ⟨wA.heap.size, 0, none⟩) 1 1, .slice (some ⟨wr.heap.size, 0, none⟩) N N, .pointer po] 93)) base A2 N c2 (idL N) ∧ ∀ b, (Value.slice A2 N c2).ownBlock = some b → ¬ M' b) := by
  obtain ⟨l, hl⟩ : ∃ l : LK, l = ⟨wA.heap.size + 1, sd0, [], (some ⟨wA.heap.size, 0, none⟩, 1, 1), wr.heap.size, (List.replicate N sd0).set k (A2, N, c2), [k]⟩ := ⟨_, rfl⟩
  obtain ⟨W, hW⟩ : ∃ W, (wA.alloc (.cells #[.int .i64 (k : Nat)] 2)).alloc (.cells #[.int .i64 (k : Nat), .slice none 0 0, .slice (some ⟨wA.heap.size, 0, none⟩) 1 1, .slice (some ⟨wr.heap.size, 0, none⟩) N N, .pointer po] 93) = W := ⟨_, rfl⟩
  have hz : W.heap.size = wA.heap.size + 2 := by rw [← hW]; simp
  have bAW : Below wA.heap.size wA W := by rw [← hW]; exact ((Below.refl _ _).alloc (Nat.le_refl _) _).alloc (by simp) _
  have hzA := BA.size
  have hA0 : wr.heap.size < wA.heap.size := (World.ownsRow.lt RA wr.heap.size rfl).2
  have hmu : ∀ t b, t < 4 → mu l t = some b → b = wA.heap.size + 1 ∨ b = wA.heap.size ∨ b = wr.heap.size := fun t b ht e => by
    subst hl
    rcases t with _ | _ | _ | t
    · injection e with e; exact .inl e.symm
    · cases e
    · injection e with e; exact .inr (.inl e.symm)
    · injection e with e; exact .inr (.inr e.symm)
  rw [hW]
  refine ⟨upd L k l, fun b => M b ∨ ∃ t, t < 4 ∧ mu l t = some b, ck_cons h (BA.trans (bAW.mono hzA)) hbs ?_ (fun t b ht e => ?_) (fun t t' b a1 a2 e e' => ?_), by rw [upd_at, hl], fun i hi => upd_ne (by omega), by rw [upd_at, hl], fun b e => .inl e, fun b ⟨i, t, a1, a2, a3, e⟩ => by
    by_cases ei : i = k
    · subst ei
      rw [upd_at] at e
      have := hmu t b a3 e
      exact .inr (by omega)
    · rw [upd_ne ei] at e
      exact .inl ⟨i, t, by omega, a2, a3, e⟩, by rw [upd_at, hl]; exact getD_set_eq (by simp; exact hk), hW ▸ ((SA.alloc _).alloc _).mono (by omega), fun b hb hm => by
    have h1 := SA.lt_ b hb
    rcases hm with e | ⟨t, a, e⟩
    · have := (h.mlt b e).2
      omega
    · have := hmu t b a e
      omega⟩
  · have hM : ∀ b, (M b ∨ ∃ t, t < 4 ∧ mu l t = some b) → b < wr.heap.size ∨ b = wA.heap.size + 1 ∨ b = wA.heap.size ∨ b = wr.heap.size := fun b e => by
      rcases e with e | ⟨t, a, e⟩
      · exact .inl (h.mlt b e).2
      · exact .inr (hmu t b a e)
    refine ⟨?_, by subst hl; show base ≤ wA.heap.size + 1; omega, ?_, by subst hl; rfl, fun y hy => absurd hy (by show ¬ y < 0; omega), ?_, ?_, by subst hl; simp, fun y hy => ?_⟩
    · rw [hpo, ← hW]
      have := Blk.new (wA.alloc (.cells #[.int .i64 (k : Nat)] 2)) 93 #[.int .i64 (k : Nat), .slice none 0 0, .slice (some ⟨wA.heap.size, 0, none⟩) 1 1, .slice (some ⟨wr.heap.size, 0, none⟩) N N, .pointer po]
      rw [World.size_alloc] at this
      subst hl; exact this
    · subst hl; exact World.ownsRow_nil _ _ _ _
    · subst hl
      show Slc W base (some ⟨wA.heap.size, 0, none⟩) 1 1 (ofP [k])
      have h1 : (wA.alloc (.cells #[.int .i64 (k : Nat)] 2)).ownsRow base 2 1 (.slice (some ⟨wA.heap.size, 0, none⟩) 1 1) 1 [.int .i64 (k : Nat)] := World.ownsRow_lit (size := 1) wA #[.int .i64 (k : Nat)] 1 (by omega) (by decide) rfl
      rw [← hW]
      exact ⟨rfl, World.ownsRow.alloc h1 _⟩
    · subst hl
      rw [← hW]
      exact World.ownsRow.alloc (World.ownsRow.alloc RA _) _
    · subst hl
      show ((if y = k then idL N else []) = [] → ((List.replicate N sd0).set k (A2, N, c2)).getD y sd0 = sd0) ∧ ((if y = k then idL N else []) ≠ [] → Rd W _ (((List.replicate N sd0).set k (A2, N, c2)).getD y sd0) (if y = k then idL N else []))
      by_cases e : y = k
      · subst e
        rw [if_pos rfl, getD_set_eq (by simp; exact hy)]
        refine ⟨fun e => ?_, fun _ => ?_⟩
        · have := idL_length N; rw [e] at this; simp at this; omega
        · refine ⟨SA.1, SA.le.1, fun hp => ?_⟩
          obtain ⟨b, off, e, hb, hc⟩ := SA.ri_ hp
          have e : A2 = some ⟨b, off, none⟩ := e
          have hlo : B1 ≤ b := by
            rcases SA.at_ with ⟨e0, _⟩ | ⟨g, e0, h1, _⟩
            · rw [e0] at e; cases e
            · rw [e0] at e; injection e with e; injection e with e _; omega
          refine ⟨b, off, e, by omega, fun hm => ?_, fun j hj => (bAW.cell (p := ⟨b, off + j, none⟩) hb).trans (hc j hj)⟩
          have := hM b hm
          omega
      · rw [if_neg e, getD_set_ne (fun e2 => e e2.symm), getD_rep]
        exact ⟨fun _ => rfl, fun h => absurd rfl h⟩
  · have := hmu t b ht e
    omega
  · subst hl
    have hx : ∀ t, t < 4 → mu (⟨wA.heap.size + 1, sd0, [], (some ⟨wA.heap.size, 0, none⟩, 1, 1), wr.heap.size, (List.replicate N sd0).set k (A2, N, c2), [k]⟩ : LK) t = some b → (t = 0 ∧ b = wA.heap.size + 1) ∨ (t = 2 ∧ b = wA.heap.size) ∨ (t = 3 ∧ b = wr.heap.size) := fun t ht e => by
      rcases t with _ | _ | _ | t
      · injection e with e; exact .inl ⟨rfl, e.symm⟩
      · cases e
      · injection e with e; exact .inr (.inl ⟨rfl, e.symm⟩)
      · injection e with e; exact .inr (.inr ⟨by omega, e.symm⟩)
    have h3 := hx t a1 e
    have h4 := hx t' a2 e'
    omega

/-- The identity, a row of its own, stands at the first entry of the first link's movers. -/
def IdM (w : World) (base N : Nat) (L : Nat → LK) (M : Nat → Prop) : Prop := ∃ A c, (L 0).en.getD 0 sd0 = (A, N, c) ∧ Slc w base A N c (idL N) ∧ ∀ b, (Value.slice A N c).ownBlock = some b → ¬ M b
theorem IdM.gw {w w' : World} {base N : Nat} {c : Ch} {L L' : Nat → LK} {M M' : Nat → Prop} (h : IdM w base N L M) (h1 : 1 ≤ N) (hc : Ck w base N 0 M c L) (g : Gw w w' N 0 L L' M M') : IdM w' base N L' M' := by
  obtain ⟨A, cc, e, hs, hm⟩ := h
  refine ⟨A, cc, ?_, hs.chgS g.chg fun b hb h => hm b hb (hc.muM b h), fun b hb h => ?_⟩
  · rw [g.en 0 0 (by rw [e]; intro e2; injection e2 with _ e2; injection e2 with e2 _; omega)]; exact e
  · rcases g.new_ b h with h | h
    · exact hm b hb h
    · have := (hs.lt_ b hb).2
      omega

set_option maxHeartbeats 8000000 in
set_option maxRecDepth 100000 in
/-- With blocks X, from base on, that stay apart from the chain. -/
theorem implChainOfI (base N n cc : Nat) (X : Nat → Prop) (A : Option Addr) (vs : List SV) (gs : List (List Int)) (w : World) (hx : RR w base A n vs gs) (hbs : base ≤ w.heap.size) (hX : Hid (∀ b, X b → base ≤ b ∧ b < w.heap.size)) (hN1 : 1 ≤ N) (hN : N ≤ 20) (hn : n ≤ 8) (ok : Hid (∀ g ∈ gs, IsP g ∧ g.length = N)) :
    Calls Try.prog 57 #[.int .i64 (N : Nat), .slice A n cc] w fun e w' => ∃ (c : Ch) (L : Nat → LK) (M : Nat → Prop), e = .returned (.pointer (some ⟨(L 0).B, 0, none⟩)) ∧ Ck w' base N 0 M c L ∧ Orbs N 0 c L ∧ Whole N gs c ∧ (∀ b, X b → M b) ∧ (∀ b, Mu N 0 L b → w.heap.size ≤ b) ∧ IdM w' base N L M ∧ Below w.heap.size w w' := by
  obtain ⟨i0, hi, hz0, hz1, hz2⟩ := info_parts infoP
  have HXb := Lib.hid hx
  have HX : Hid (RR w w.heap.size A n vs gs) := Lib.hid (hx.more hbs)
  have hlx : Hid (gs.length = n) := Lib.hid hx.lx
  clear hx
  go_enter Try.func57, Try.ntmps57
  go_wp2_with fail
  go_loopg [5, 6, 7] N (fun gg ch bv _ wr => ∃ (m : Nat) (L : Nat → LK) (M : Nat → Prop), m ≤ N ∧ m ≤ gg ∧ bv = .int .i64 ((m : Int) - 1) ∧ ch = ptr N L m ∧ Ck wr base N m M (ch0 N) L ∧ Orbs N m (ch0 N) L ∧ (∀ b, X b → M b) ∧ (∀ b, Mu N m L b → w.heap.size ≤ b) ∧ (m = 0 → IdM wr base N L M) ∧ Below w.heap.size w wr)
  case atStart => exact ⟨N, fun _ => lk0, X, Nat.le_refl _, Nat.le_refl _, by go_num, (if_neg (by omega)).symm, ⟨fun i a b => absurd b (by omega), fun i _ _ a b => absurd b (by omega), fun b e => hX.out b e, fun i _ _ _ _ a b => absurd b (by omega)⟩, fun i a b => absurd b (by omega), fun _ e => e, fun b ⟨i, t, a1, a2, _⟩ => absurd a2 (by omega), fun e => absurd e (by omega), Below.refl _ _⟩
  case round =>
    obtain ⟨m, L, M, hm, hgg, rfl, rfl, hc, ho, hxm, hmu0, him, bel⟩ := hrel
    have IM := Lib.hid him
    have XM := Lib.hid hxm
    have MU := Lib.hid hmu0
    have C1 := Lib.hid hc
    have O1 := Lib.hid ho
    have Be := Lib.hid bel
    have hzr := bel.size
    clear hc ho hxm hmu0 him bel
    rcases m with _ | k
    · have ep : ptr N L 0 = .pointer (some ⟨(L 0).B, 0, none⟩) := if_pos (by omega)
      rw [ep]
      have d0 : decide ((((0 : Nat) : Int) - 1) ≥ 0) = false := by decide
      have U0 := Lib.hid (upTo0 N hN1 hN)
      clear ep
      go_wp2_with fail
      go_loopg [9, 32] n (fun gg _ jv wr => ∃ (j : Nat) (c : Ch) (L' : Nat → LK) (M : Nat → Prop), j ≤ n ∧ n - j ≤ gg ∧ jv = .int .i64 (j : Nat) ∧ (L' 0).B = (L 0).B ∧ Ck wr base N 0 M c L' ∧ Orbs N 0 c L' ∧ Whole N (gs.take j) c ∧ (∀ b, X b → M b) ∧ (∀ b, Mu N 0 L' b → w.heap.size ≤ b) ∧ IdM wr base N L' M ∧ Below w.heap.size w wr)
      case atStart => exact ⟨0, ch0 N, L, M, Nat.zero_le _, by omega, rfl, rfl, C1.out, O1.out, ⟨U0.out, fun q => by rw [List.take_zero]; exact Iff.rfl⟩, XM.out, MU.out, IM.out (by trivial), Be.out⟩
      case round =>
        clear C1 O1 U0 Be XM MU IM
        obtain ⟨j, c, L', M, hj, hg2, rfl, hB, hc, ho, hw, hxm, hmu0, him, bel⟩ := hrel
        have IM := Lib.hid him
        have XM := Lib.hid hxm
        have MU := Lib.hid hmu0
        have C2 := Lib.hid hc
        have O2 := Lib.hid ho
        have W2 := Lib.hid hw
        have HB := Lib.hid hB
        have Be := Lib.hid bel
        clear hc ho hw hB hxm hmu0 him
        by_cases hlt : j < n
        · obtain ⟨b, off, A5, l, c5, y, rfl, hb, hv, ey, x1, ri, ly, hl5⟩ := (HX.out.up Be.out).at_ hlt
          have ri0 : RI w base A5 y := by
            have := HXb.out.rows j hlt
            rw [hv, ey] at this; exact this
          have hyP := ok.out y (by rw [← ey]; exact getD_memL (by rw [hlx.out]; exact hlt))
          obtain rfl : l = N := by omega
          have Rdy : Hid (Rd wr M (A5, l, c5) y) := Lib.hid (.of_ri (ri0.below Be.out hbs) ly hl5 (Nat.le_trans hbs Be.out.size) fun b e => (C2.out.mlt b e).1)
          have YP : Hid (Pn l y) := Lib.hid hyP
          have Ey := Lib.hid ey
          have q0 : (0 : Int) ≤ j := by omega
          have q1 : (j : Int) < n := by omega
          clear hv ey hb ri ri0 hyP bel
          go_wp2_with fail
          have K := implAdd base l hN (l - 1) 0 (by omega) M c L' A5 c5 y wr C2.out O2.out Rdy.out YP.out Fx.zero W2.out.up
          rw [HB.out] at K
          refine K.mono ?_
          rintro e w3 ⟨c', L3, M', rfl, hc3, ho3, hg3, hap⟩
          have C4 := Lib.hid hc3
          have O4 := Lib.hid ho3
          have B4 : Hid ((L3 0).B = (L 0).B) := Lib.hid ((hg3.ptr 0).trans HB.out)
          have Be3 : Hid (Below w.heap.size w w3) := Lib.hid (Be.out.trans (hg3.chg.below (fun k hk => MU.out k hk) Be.out.size))
          have IM3 : Hid (IdM w3 base l L3 M') := Lib.hid (IM.out.gw hN1 C2.out hg3)
          have XM3 : Hid (∀ b, X b → M' b) := Lib.hid fun b e => hg3.mm b (XM.out b e)
          have MU3 : Hid (∀ b, Mu l 0 L3 b → w.heap.size ≤ b) := Lib.hid fun b e => by
            rcases hg3.mu b e with h | h
            · exact MU.out b h
            · exact Nat.le_trans Be.out.size h
          have W4 : Hid (Whole l (gs.take (j + 1)) c') := Lib.hid (by
            rw [List.take_succ_eq_append_getElem (by rw [hlx.out]; exact hlt)]
            have e1 : gs[j]'(by rw [hlx.out]; exact hlt) = y := by rw [← Ey.out, List.getD_eq_getElem?_getD, List.getElem?_eq_getElem (by rw [hlx.out]; exact hlt)]; rfl
            rw [e1]
            exact W2.out.next hN1 hN (fun g hg => ok.out g (List.mem_of_mem_take hg)) YP.out hap)
          clear K hc3 ho3 hg3 hap
          go_wp2_with fail
          go_roundg (n - (j + 1))
          case rel => exact ⟨j + 1, c', L3, M', by omega, by omega, by go_num, B4.out, C4.out, O4.out, W4.out, XM3.out, MU3.out, IM3.out, Be3.out⟩
          case measure => omega
        · obtain rfl : j = n := by omega
          have W3 : Hid (Whole N gs c) := Lib.hid (by have := W2.out; rwa [List.take_of_length_le (by rw [hlx.out]; exact Nat.le_refl _)] at this)
          go_wp2_with fail
          go_ret
          exact ⟨c, L', M, by rw [HB.out]; rfl, C2.out, O2.out, W3.out, XM.out, MU.out, IM.out, Be.out⟩
    · obtain ⟨po, hpo⟩ : ∃ po, ptr N L (k + 1) = .pointer po := by
        unfold ptr
        by_cases h : k + 1 < N
        · exact ⟨_, if_pos h⟩
        · exact ⟨_, if_neg h⟩
      have Hpo := Lib.hid hpo
      rw [hpo]
      clear hpo
      have ek : (((k + 1 : Nat) : Int) - 1) = (k : Int) := by omega
      rw [ek]
      have p0 : (0 : Int) ≤ k := by omega
      have p1 : (k : Int) < N := by omega
      have d0 : decide ((k : Int) ≥ 0) = true := by simp
      clear ek
      go_wp2_with (first | (at_make; go_must (refine wpList_make_full _ rfl _ _ 91 rfl base 59 i0 (.slice none 0 0) 1 Try.underlying91 hi hz0 hz1 .i64 .i64 _ _ N rfl rfl rfl rfl (by rw [hz2]; omega) (by unfold maxLen; omega) (by omega) ?_); intro w1 hown1 hgrow1))
      have b1 : Below wr.heap.size wr w1 := (Below.refl _ _).grown hgrow1 (Nat.le_refl _) (fun k e => nomatch e)
      have r1 := madeP hown1
      have R1 := Lib.hid r1
      have B1 := Lib.hid b1
      clear hown1 hgrow1 r1 b1
      go_wp2_with fail
      refine (implId_core N w1 hN1 hN).mono ?_
      rintro e w2 ⟨A2, c2, rfl, s2, b2⟩
      have S2 := Lib.hid s2
      have B2 := Lib.hid b2
      have hr2 := ownsRow_chg R1.out (.of_below (M := fun _ => False) b2) fun _ _ e => e
      have R2 := Lib.hid hr2
      have y1 := hr2.cellAt k (by omega)
      have ey : ((List.replicate N sd0).map sval)[k]? = some (Value.slice none 0 0) := by
        rw [List.getElem?_map, List.getElem?_replicate, if_pos (by omega)]; rfl
      rw [ey] at y1
      have fz := hr2.frozenAt k
      clear s2 b2 hr2 ey
      obtain ⟨wA, hwA⟩ : ∃ wA, w2.setCell ⟨wr.heap.size, k, none⟩ (.slice A2 N c2) = wA := ⟨_, rfl⟩
      have zA : Hid (wA.heap.size = w2.heap.size) := Lib.hid (by rw [← hwA]; simp)
      have St := R2.out.stored k (.slice A2 N c2)
      rw [hwA] at St
      have SA : Hid (Slc wA w1.heap.size A2 N c2 (idL N)) := Lib.hid (S2.out.chgS (.of_grown St.2 (M := fun b => b = wr.heap.size) (by intro b e; injection e with e; exact e.symm)) fun b e e2 => by
        have h1 := (S2.out.lt_ b e).1
        have h2 := (World.ownsRow.lt R1.out wr.heap.size rfl).2
        omega)
      have RA : Hid (wA.ownsRow base 59 1 (.slice (some ⟨wr.heap.size, 0, none⟩) N N) N (((List.replicate N sd0).set k (A2, N, c2)).map sval)) := Lib.hid (by rw [List.map_set]; exact St.1)
      have Bw1 : Hid (wr.heap.size < w1.heap.size) := Lib.hid (World.ownsRow.lt R1.out wr.heap.size rfl).2
      have BA : Hid (Below wr.heap.size wr wA) := Lib.hid ((B1.out.trans (B2.out.mono B1.out.size)).grown St.2 (Nat.le_trans B1.out.size B2.out.size) (by intro b e; injection e with e; omega))
      have NW := Lib.hid (ck_new C1.out (by omega) Hpo.out BA.out RA.out Bw1.out SA.out (Nat.le_trans hbs hzr))
      clear St R1 R2 S2
      go_wp2_with fail
      obtain ⟨L', M', K1, K2, K3, K4, K5, K6, K7⟩ := NW.out
      go_roundg k
      case rel =>
        refine ⟨k, L', M', by omega, by omega, rfl, ?_, K1, fun i a b => ?_, fun b e => K5 b (XM.out b e), fun b e => ?_, fun e => (by subst e; exact ⟨_, _, K7.1, K7.2.1, K7.2.2⟩), ?_⟩
        · have e1 : ptr N L' k = .pointer (some ⟨(L' k).B, 0, none⟩) := if_pos (by omega)
          rw [e1, K2]
        · by_cases ei : i = k
          · subst ei; rw [K4]; exact orb0 hN1
          · rw [K3 i (by omega)]; exact O1.out i (by omega) b
        · rcases K6 b e with h | h
          · exact MU.out b h
          · exact Nat.le_trans hzr h
        · exact (Be.out.trans (BA.out.mono hzr)).trans ((((Below.refl wA.heap.size wA).alloc (Nat.le_refl _) _).alloc (by simp) _).mono (by have := BA.out.size; omega))
      case measure => omega
theorem implChainOfX (base N n cc : Nat) (X : Nat → Prop) (A : Option Addr) (vs : List SV) (gs : List (List Int)) (w : World) (hx : RR w base A n vs gs) (hbs : base ≤ w.heap.size) (hX : Hid (∀ b, X b → base ≤ b ∧ b < w.heap.size)) (hN1 : 1 ≤ N) (hN : N ≤ 20) (hn : n ≤ 8) (ok : Hid (∀ g ∈ gs, IsP g ∧ g.length = N)) :
    Calls Try.prog 57 #[.int .i64 (N : Nat), .slice A n cc] w fun e w' => ∃ (c : Ch) (L : Nat → LK) (M : Nat → Prop), e = .returned (.pointer (some ⟨(L 0).B, 0, none⟩)) ∧ Ck w' base N 0 M c L ∧ Orbs N 0 c L ∧ Whole N gs c ∧ (∀ b, X b → M b) ∧ (∀ b, Mu N 0 L b → w.heap.size ≤ b) ∧ Below w.heap.size w w' :=
  (implChainOfI base N n cc X A vs gs w hx hbs hX hN1 hN hn ok).mono fun _ _ ⟨c, L, M, e, a, b, d, x, y, _, bel⟩ => ⟨c, L, M, e, a, b, d, x, y, bel⟩
theorem implChainOf (N n cc : Nat) (A : Option Addr) (vs : List SV) (gs : List (List Int)) (w : World) (hx : RR w w.heap.size A n vs gs) (hN1 : 1 ≤ N) (hN : N ≤ 20) (hn : n ≤ 8) (ok : Hid (∀ g ∈ gs, IsP g ∧ g.length = N)) :
    Calls Try.prog 57 #[.int .i64 (N : Nat), .slice A n cc] w fun e w' => ∃ (c : Ch) (L : Nat → LK) (M : Nat → Prop), e = .returned (.pointer (some ⟨(L 0).B, 0, none⟩)) ∧ Ck w' w.heap.size N 0 M c L ∧ Orbs N 0 c L ∧ Whole N gs c ∧ Below w.heap.size w w' :=
  (implChainOfX w.heap.size N n cc (fun _ => False) A vs gs w hx (Nat.le_refl _) (Lib.hid fun _ e => e.elim) hN1 hN hn ok).mono fun _ _ ⟨c, L, M, e, a, b, d, _, _, bel⟩ => ⟨c, L, M, e, a, b, d, bel⟩
end Go.Proofs.Ytkjokchhffjidaa

/- insertSorted and sortedInts of the model. No condition but lengths. -/
namespace Go.Proofs.Ytkjokchhffjidaa
open Go.RowKit

/-- The sorted list with v put in at k. -/
def putIn (ys : List Int) (k : Nat) (v : Int) : List Int := ys.take k ++ [v] ++ ys.drop k
theorem putIn_perm (ys : List Int) (k : Nat) (v : Int) : (putIn ys k v).Perm (v :: ys) := by
  unfold putIn
  have h : (ys.take k ++ [v]).Perm (v :: ys.take k) := List.perm_append_comm
  have := h.append_right (ys.drop k)
  rw [List.cons_append, List.take_append_drop] at this
  exact this
theorem putIn_sorted {ys : List Int} {k : Nat} {v : Int} (hs : ys.Pairwise (· ≤ ·)) (h1 : ∀ j, j < k → ys.getD j 0 < v) (h2 : k < ys.length → v ≤ ys.getD k 0) : (putIn ys k v).Pairwise (· ≤ ·) := by
  unfold putIn
  have hd : ∀ b ∈ ys.drop k, v ≤ b := fun b hb => by
    obtain ⟨j, hj, e⟩ := List.mem_iff_getElem.1 hb
    rw [List.length_drop] at hj
    rw [List.getElem_drop] at e
    have h3 := h2 (by omega)
    rw [List.getD_eq_getElem?_getD, List.getElem?_eq_getElem (by omega : k < ys.length)] at h3
    rw [List.pairwise_iff_getElem] at hs
    rw [← e]
    by_cases e0 : j = 0
    · subst e0; simpa using h3
    · have := hs k (k + j) (by omega) (by omega) (by omega)
      have h3' : v ≤ ys[k] := by simpa using h3
      omega
  have ht : ∀ a ∈ ys.take k, a < v := fun a ha => by
    obtain ⟨j, hj, e⟩ := List.mem_iff_getElem.1 ha
    rw [List.length_take] at hj
    rw [List.getElem_take] at e
    have := h1 j (by omega)
    rw [List.getD_eq_getElem?_getD, List.getElem?_eq_getElem (by omega)] at this
    rw [← e]; simpa using this
  rw [List.append_assoc, List.pairwise_append]
  refine ⟨hs.sublist (List.take_sublist _ _), ?_, fun a ha b hb => ?_⟩
  · rw [List.singleton_append, List.pairwise_cons]
    exact ⟨hd, hs.sublist (List.drop_sublist _ _)⟩
  · have := ht a ha
    rcases List.mem_append.1 hb with hb | hb
    · obtain rfl : b = v := by simpa using hb
      omega
    · have := hd b hb; omega


end Go.Proofs.Ytkjokchhffjidaa

/- Members with given entries, by the model's chain. Conditions: at most 20 points, 8 generators. -/
namespace Go.Proofs.Ytkjokchhffjidaa
open Go.RowKit

/-- The entries that level i allows behind p, among the first m points. -/
def chL (c : Ch) (i : Nat) (p : List Int) (m : Nat) : List Int := ((List.range m).filter fun y => !(c.rep i y).isEmpty).map fun y => (nx p y : Int)
theorem chL_yes {c : Ch} {i m : Nat} {p : List Int} (h : c.rep i m ≠ []) : chL c i p (m + 1) = chL c i p m ++ [(nx p m : Int)] := by
  unfold chL; rw [List.range_succ, List.filter_append]; simp [List.isEmpty_eq_false_iff.2 h]
theorem chL_no {c : Ch} {i m : Nat} {p : List Int} (h : c.rep i m = []) : chL c i p (m + 1) = chL c i p m := by
  unfold chL; rw [List.range_succ, List.filter_append]; simp [h]
theorem chL_mem {c : Ch} {i m : Nat} {p : List Int} {v : Int} : v ∈ chL c i p m ↔ ∃ y, y < m ∧ c.rep i y ≠ [] ∧ (nx p y : Int) = v := by
  simp only [chL, List.mem_map, List.mem_filter, List.mem_range, Bool.not_eq_true', List.isEmpty_eq_false_iff, and_assoc]
theorem chL_len (c : Ch) (i : Nat) (p : List Int) (m : Nat) : (chL c i p m).length ≤ m := by
  unfold chL; rw [List.length_map]
  have := List.length_filter_le (fun y => !(c.rep i y).isEmpty) (List.range m)
  simpa using this


end Go.Proofs.Ytkjokchhffjidaa

/- The smallest member with a prefix: what it is, and that the model finds it. Conditions: at most 20 points, 8 generators. -/
namespace Go.Proofs.Ytkjokchhffjidaa
open Go.RowKit

/-- m is the member with the prefix whose further entries are as small as can be, one after the other. -/
def Greedy (N : Nat) (gs : List (List Int)) (pre m : List Int) : Prop :=
  Mb gs N m ∧ ∀ i, i < N → (i < pre.length → (nx m i : Int) = pre.getD i 0) ∧ (pre.length ≤ i → ∀ q, Mb gs N q → (∀ t, t < i → nx q t = nx m t) → nx m i ≤ nx q i)
def NoMem (N : Nat) (gs : List (List Int)) (pre : List Int) : Prop := ∀ q, Mb gs N q → ¬ ∀ t, t < pre.length → (nx q t : Int) = pre.getD t 0
/-- What MemberWithPrefix answers. -/
def IsMwp (N : Nat) (gs : List (List Int)) (pre m : List Int) (ok : Bool) : Prop := (ok = true ∧ Greedy N gs pre m) ∨ (ok = false ∧ m = [] ∧ NoMem N gs pre)
section
variable {N : Nat} {gs : List (List Int)} {pre m m' : List Int}
theorem Greedy.uniq (h1 : 1 ≤ N) (h2 : N ≤ 20) (hg : ∀ g ∈ gs, Pn N g) (h : Greedy N gs pre m) (h' : Greedy N gs pre m') : m = m' := by
  have hp := h.1.pn hg h1 h2
  have hp' := h'.1.pn hg h1 h2
  refine hp.ext hp' fun x hx => ?_
  induction x using Nat.strongRecOn with
  | ind x ih =>
    by_cases hl : x < pre.length
    · have a := (h.2 x hx).1 hl
      have b := (h'.2 x hx).1 hl
      omega
    · have a := (h.2 x hx).2 (by omega) m' h'.1 fun t ht => (ih t ht (by omega)).symm
      have b := (h'.2 x hx).2 (by omega) m h.1 fun t ht => ih t ht (by omega)
      omega
theorem Greedy.has (h : Greedy N gs pre m) (hl : pre.length ≤ N) : ¬ NoMem N gs pre := fun hn => hn m h.1 fun t ht => (h.2 t (by omega)).1 ht
theorem IsMwp.uniq {ok ok' : Bool} (h1 : 1 ≤ N) (h2 : N ≤ 20) (hg : ∀ g ∈ gs, Pn N g) (hl : pre.length ≤ N) (h : IsMwp N gs pre m ok) (h' : IsMwp N gs pre m' ok') : m = m' ∧ ok = ok' := by
  rcases h with ⟨rfl, a⟩ | ⟨rfl, rfl, a⟩ <;> rcases h' with ⟨rfl, b⟩ | ⟨rfl, rfl, b⟩
  · exact ⟨a.uniq h1 h2 hg b, rfl⟩
  · exact absurd b (a.has hl)
  · exact absurd a (b.has hl)
  · exact ⟨rfl, rfl⟩
/-- m keeps to it in its first k entries. -/
def GrTo (N : Nat) (gs : List (List Int)) (pre m : List Int) (k : Nat) : Prop :=
  Mb gs N m ∧ ∀ i, i < k → (i < pre.length → (nx m i : Int) = pre.getD i 0) ∧ (pre.length ≤ i → ∀ q, Mb gs N q → (∀ t, t < i → nx q t = nx m t) → nx m i ≤ nx q i)
/-- The entries that level i allows are those of the members that agree before. -/
theorem Whole.choice {c : Ch} (h : Whole N gs c) (h1 : 1 ≤ N) (h2 : N ≤ 20) (hg : ∀ g ∈ gs, Pn N g) {i : Nat} (hi : i < N) (hm : Mb gs N m) {v : Int} : v ∈ chL c i m N ↔ ∃ q, Mb gs N q ∧ (∀ t, t < i → nx q t = nx m t) ∧ (nx q i : Int) = v := by
  have hp := hm.pn hg h1 h2
  rw [chL_mem]
  constructor
  · rintro ⟨y, hy, hr, rfl⟩
    obtain ⟨a, b, d, _⟩ := h.rep_mb h1 h2 hi hr
    have hr' := a.pn hg h1 h2
    refine ⟨compL (c.rep i y) m, a.comp hg h1 h2 hm, fun t ht => ?_, ?_⟩
    · rw [hr'.nxc (by omega), b t ht]
    · rw [hr'.nxc hi, d]
  · rintro ⟨q, hq, ha, rfl⟩
    have hq' := hq.pn hg h1 h2
    have hmi := hp.iv
    refine ⟨nx (iv m) (nx q i), hmi.lt (hq'.lt hi), (h.rep_iff h1 h2 hi).2 ⟨compL q (iv m), hq.comp hg h1 h2 (hm.inv hg h1 h2), fun t ht => ?_, ?_⟩, ?_⟩
    · rw [hq'.nxc (by omega), ha t ht, hp.nxi (by omega)]
    · rw [hq'.nxc hi]
    · rw [hp.nxi' (hq'.lt hi)]
theorem GrTo.step {c : Ch} {k : Nat} (h : GrTo N gs pre m k) (hw : Whole N gs c) (h1 : 1 ≤ N) (h2 : N ≤ 20) (hg : ∀ g ∈ gs, Pn N g) (hk : k < N) {y : Nat} (hr : c.rep k y ≠ []) (hv : (k < pre.length → (nx m y : Int) = pre.getD k 0) ∧ (pre.length ≤ k → ∀ v ∈ chL c k m N, (nx m y : Int) ≤ v)) : GrTo N gs pre (compL (c.rep k y) m) (k + 1) := by
  obtain ⟨a, b, d, _⟩ := hw.rep_mb h1 h2 hk hr
  have hr' := a.pn hg h1 h2
  have e : ∀ t, t < k → nx (compL (c.rep k y) m) t = nx m t := fun t ht => by rw [hr'.nxc (by omega), b t ht]
  have e2 : nx (compL (c.rep k y) m) k = nx m y := by rw [hr'.nxc hk, d]
  refine ⟨a.comp hg h1 h2 h.1, fun i hi => ?_⟩
  rcases Nat.lt_or_ge i k with hl | hl
  · rw [e i hl]
    exact ⟨(h.2 i hl).1, fun hp q hq hag => (h.2 i hl).2 hp q hq fun t ht => (hag t ht).trans (e t (by omega))⟩
  · obtain rfl : i = k := by omega
    rw [e2]
    refine ⟨hv.1, fun hp q hq hag => ?_⟩
    have := hv.2 hp (nx q i : Int) ((hw.choice h1 h2 hg hk h.1).2 ⟨q, hq, fun t ht => (hag t ht).trans (e t ht), rfl⟩)
    omega
theorem GrTo.no {c : Ch} {k : Nat} (h : GrTo N gs pre m k) (hw : Whole N gs c) (h1 : 1 ≤ N) (h2 : N ≤ 20) (hg : ∀ g ∈ gs, Pn N g) (hk : k < N) (hl : k < pre.length) (hn : pre.getD k 0 ∉ chL c k m N) : NoMem N gs pre := fun q hq hag =>
  hn ((hw.choice h1 h2 hg hk h.1).2 ⟨q, hq, fun t ht => by
    have a := hag t (by omega)
    have b := (h.2 t ht).1 (by omega)
    omega, hag k hl⟩)
theorem hasB_in (xs : List Int) (x : Int) : hasB xs x = decide (x ∈ xs) := by
  unfold hasB
  rw [Bool.eq_iff_iff]
  simp only [decide_eq_true_eq]
  constructor
  · rintro ⟨k, hk, e⟩
    rw [← e, List.getD_eq_getElem?_getD, List.getElem?_eq_getElem hk]; exact List.getElem_mem _
  · intro h
    obtain ⟨k, hk, e⟩ := List.mem_iff_getElem.1 h
    exact ⟨k, hk, by rw [List.getD_eq_getElem?_getD, List.getElem?_eq_getElem hk, ← e]; rfl⟩
end

end Go.Proofs.Ytkjokchhffjidaa

/- GroupOrder, OrbitSizes, IsMember and MemberWithPrefix of the model: what they answer. Conditions: at most 1048576 lists of at most 1048576 numbers. -/
namespace Go.Proofs.Ytkjokchhffjidaa
open Go.RowKit

/-- What GroupOrder answers. -/
def IsOrd (a : Int) (gs : List (List Int)) (v : Int) : Prop := (gB a gs = true ∧ ∃ xs, IsOS a.toNat gs xs ∧ v = prodL xs) ∨ (gB a gs = false ∧ v = 0)
theorem IsOrd.uniq {a v v' : Int} {gs : List (List Int)} (h : IsOrd a gs v) (h' : IsOrd a gs v') : v = v' := by
  rcases h with ⟨e, xs, h, rfl⟩ | ⟨e, rfl⟩ <;> rcases h' with ⟨e', ys, h', rfl⟩ | ⟨e', rfl⟩
  · rw [h.uniq h']
  · rw [e] at e'; cases e'
  · rw [e] at e'; cases e'
  · rfl
/-- What OrbitSizes answers. -/
def IsSiz (a : Int) (gs : List (List Int)) (xs : List Int) : Prop := (gB a gs = true ∧ IsOS a.toNat gs xs) ∨ (gB a gs = false ∧ xs = [])
theorem IsSiz.uniq {a : Int} {gs : List (List Int)} {xs ys : List Int} (h : IsSiz a gs xs) (h' : IsSiz a gs ys) : xs = ys := by
  rcases h with ⟨e, h⟩ | ⟨e, rfl⟩ <;> rcases h' with ⟨e', h'⟩ | ⟨e', rfl⟩
  · exact h.uniq h'
  · rw [e] at e'; cases e'
  · rw [e] at e'; cases e'
  · rfl
theorem IsSiz.len {a : Int} {gs : List (List Int)} {xs : List Int} (h : IsSiz a gs xs) : xs.length ≤ 20 := by
  rcases h with ⟨e, h⟩ | ⟨e, rfl⟩
  · obtain ⟨N, rfl, _, hN, _⟩ := gB_pm e
    rw [h.1]; simpa using hN
  · simp
/-- p is a member. -/
def Memb (a : Int) (gs : List (List Int)) (p : List Int) : Prop := gB a gs = true ∧ (p.length : Int) = a ∧ isP p = true ∧ Mb gs a.toNat p
theorem memb_uniq {a : Int} {gs : List (List Int)} {p : List Int} {b b' : Bool} (h : b = true ↔ Memb a gs p) (h' : b' = true ↔ Memb a gs p) : b = b' := by
  rw [Bool.eq_iff_iff, h, h']
/-- What MemberWithPrefix answers. -/
def IsMw (a : Int) (gs : List (List Int)) (pre m : List Int) (ok : Bool) : Prop :=
  (gB a gs = true ∧ (pre.length : Int) ≤ a ∧ IsMwp a.toNat gs pre m ok) ∨ (¬ (gB a gs = true ∧ (pre.length : Int) ≤ a) ∧ m = [] ∧ ok = false)
theorem IsMw.uniq {a : Int} {gs : List (List Int)} {pre m m' : List Int} {ok ok' : Bool} (h : IsMw a gs pre m ok) (h' : IsMw a gs pre m' ok') : m = m' ∧ ok = ok' := by
  rcases h with ⟨e, hl, h⟩ | ⟨e, rfl, rfl⟩ <;> rcases h' with ⟨e', hl', h'⟩ | ⟨e', rfl, rfl⟩
  · obtain ⟨N, rfl, h1, hN, _, _, ok⟩ := gB_pm e
    exact h.uniq (by simpa using h1) (by simpa using hN) (fun g hg => by rw [Int.toNat_natCast]; exact ok g hg) (by simp; omega) h'
  · exact absurd ⟨e, hl⟩ e'
  · exact absurd ⟨e', hl'⟩ e
  · exact ⟨rfl, rfl⟩
theorem IsMwp.len {N : Nat} {gs : List (List Int)} {pre m : List Int} {ok : Bool} (h1 : 1 ≤ N) (h2 : N ≤ 20) (hg : ∀ g ∈ gs, Pn N g) (h : IsMwp N gs pre m ok) : m.length ≤ 20 := by
  rcases h with ⟨_, h⟩ | ⟨_, rfl, _⟩
  · rw [(h.1.pn hg h1 h2).2]; exact h2
  · simp
theorem IsMw.len {a : Int} {gs : List (List Int)} {pre m : List Int} {ok : Bool} (h : IsMw a gs pre m ok) : m.length ≤ 20 := by
  rcases h with ⟨e, hl, h⟩ | ⟨e, rfl, rfl⟩
  · obtain ⟨N, rfl, h1, hN, _, _, ok⟩ := gB_pm e
    rw [Int.toNat_natCast] at h
    exact h.len h1 hN ok
  · simp

section
variable (a : Int) (A : Option Addr) (n c : Nat) (vs : List SV) (xss : List (List Int)) (w : World)
set_option maxHeartbeats 1000000 in
set_option maxRecDepth 100000 in
theorem specGroupOrder (hx : RR w w.heap.size A n vs xss) (hn : n ≤ 1048576) (hl : Hid (∀ i, i < n → (vs.getD i sd0).2.1 ≤ 1048576)) (ha : -9223372036854775808 ≤ a ∧ a ≤ 9223372036854775807) :
    Calls Try.prog 74 #[.int .i64 a, .slice A n c] w fun e w' => ∃ v, e = .returned (.int .i64 v) ∧ IsOrd a xss v ∧ Below w.heap.size w w' := by
  have HX := Lib.hid hx
  have hlx : Hid (xss.length = n) := Lib.hid hx.lx
  clear hx
  go_enter Try.func74, Try.ntmps74
  go_wp2_with fail
  refine (specGS a A n c vs xss w HX.out hn hl ha).mono ?_
  rintro e w1 ⟨rfl, b1⟩
  have B1 := Lib.hid b1
  have X1 := Lib.hid (HX.out.up b1)
  clear b1
  rcases hs : gB a xss with _ | _
  · have Fin : Hid (IsOrd a xss 0) := Lib.hid (.inr ⟨hs, rfl⟩)
    clear hs
    go_wp2_with fail
    go_ret
    exact ⟨0, rfl, Fin.out, B1.out⟩
  · obtain ⟨N, rfl, hN1, hN2, hg8, hpm, hok⟩ := gB_pm hs
    have Hs := Lib.hid hs
    have Ok := Lib.hid hok
    have hn8 : n ≤ 8 := by rw [← hlx.out]; exact hg8
    clear hs hpm hok hg8
    go_wp2_with fail
    refine (specBuild N n c A vs xss w1 X1.out hN1 hN2 hn8 Ok).mono ?_
    rintro e w2 ⟨g, L, ch, rfl, hc2, hw2, b2⟩
    have C2 := Lib.hid hc2
    have W2 := Lib.hid hw2
    have B2 : Hid (Below w.heap.size w w2) := Lib.hid (btr B1.out b2)
    clear hc2 hw2 b2
    go_wp2_with fail
    refine (specOrder w1.heap.size g N ch L xss w2 C2.out W2.out hN1 hN2).mono ?_
    rintro e w3 ⟨rfl, b3⟩
    have B3 : Hid (Below w.heap.size w w3) := Lib.hid (btr B2.out b3)
    have Fin : Hid (IsOrd (N : Int) xss (prodL (osL N ch N))) := Lib.hid (.inl ⟨Hs.out, _, by rw [Int.toNat_natCast]; exact W2.out.os hN1 hN2, rfl⟩)
    clear b3
    go_wp2_with fail
    go_ret
    exact ⟨_, rfl, Fin.out, B3.out⟩
end
end Go.Proofs.Ytkjokchhffjidaa

/- IsMember, LongestMemberPrefix and SameGroup of the model: what they answer. Conditions: at most 1048576 lists of at most 1048576 numbers. -/
namespace Go.Proofs.Ytkjokchhffjidaa
open Go.RowKit

/-- p's first k entries are those of a member, and no more of them are. -/
def LmpOK (N : Nat) (gs : List (List Int)) (p : List Int) (k : Nat) : Prop := k ≤ N ∧ (∃ q, Mb gs N q ∧ ∀ t, t < k → nx q t = nx p t) ∧ (k < N → ¬ ∃ q, Mb gs N q ∧ ∀ t, t ≤ k → nx q t = nx p t)
theorem LmpOK.uniq {N k k' : Nat} {gs : List (List Int)} {p : List Int} (h : LmpOK N gs p k) (h' : LmpOK N gs p k') : k = k' := by
  obtain ⟨a, ⟨q, hq, hq2⟩, b⟩ := h
  obtain ⟨a', ⟨q', hq', hq2'⟩, b'⟩ := h'
  rcases Nat.lt_trichotomy k k' with hl | hl | hl
  · exact absurd ⟨q', hq', fun t ht => hq2' t (by omega)⟩ (b (by omega))
  · exact hl
  · exact absurd ⟨q, hq, fun t ht => hq2 t (by omega)⟩ (b' (by omega))
/-- What LongestMemberPrefix answers. -/
def IsLmp (a : Int) (gs : List (List Int)) (p : List Int) (v : Int) : Prop :=
  (gB a gs = true ∧ (p.length : Int) = a ∧ isP p = true ∧ ∃ k : Nat, v = k ∧ LmpOK a.toNat gs p k) ∨ (¬ (gB a gs = true ∧ (p.length : Int) = a ∧ isP p = true) ∧ v = -1)
theorem IsLmp.uniq {a v v' : Int} {gs : List (List Int)} {p : List Int} (h : IsLmp a gs p v) (h' : IsLmp a gs p v') : v = v' := by
  rcases h with ⟨e1, e2, e3, k, rfl, h⟩ | ⟨e, rfl⟩ <;> rcases h' with ⟨e1', e2', e3', k', rfl, h'⟩ | ⟨e', rfl⟩
  · rw [h.uniq h']
  · exact absurd ⟨e1, e2, e3⟩ e'
  · exact absurd ⟨e1', e2', e3'⟩ e
  · rfl
/-- The two lists generate the same group. -/
def SameG (a : Int) (xs ys : List (List Int)) : Prop := gB a xs = true ∧ gB a ys = true ∧ (∀ g ∈ ys, Mb xs a.toNat g) ∧ ∀ g ∈ xs, Mb ys a.toNat g

theorem bool_of (P : Prop) : ∃ b : Bool, b = true ↔ P := by
  rcases Classical.em P with h | h
  · exact ⟨true, fun _ => h, fun _ => rfl⟩
  · exact ⟨false, fun e => (by cases e), fun e => absurd e h⟩
section
variable (a : Int) (A : Option Addr) (n c : Nat) (vs : List SV) (xss : List (List Int)) (w : World)
theorem specIsPB (N : Nat) (xs : List Int) (ans : Bool) (hx : RI w w.heap.size A xs) (lx : Hid (xs.length = n)) (hn : n ≤ 2097152) (hnc : n ≤ c) (ha : Hid (isP xs = ans)) :
    Calls Try.prog 86 #[.slice A n c] w fun e w' => e = .returned (.bool ans) ∧ Below w.heap.size w w' :=
  (quiet_below (specIsP A c n xs w hx lx hn hnc)).mono fun e w' ⟨he, hb⟩ => ⟨he.trans (ret_bool ha.out), hb⟩
set_option maxHeartbeats 1000000 in
theorem specIsPOf (N : Nat) (xs : List Int) (ans : Bool) (hx : RI w w.heap.size A xs) (lx : Hid (xs.length = n)) (hn : n ≤ 2097152) (hnc : n ≤ c) (ha : Hid ((decide (n = N) && isP xs) = ans)) :
    Calls Try.prog 53 #[.int .i64 (N : Nat), .slice A n c] w fun e w' => e = .returned (.bool ans) ∧ Below w.heap.size w w' := by
  have HX := Lib.hid hx
  clear hx
  by_cases e1 : n = N
  · subst e1
    have e0 : ((n : Int) == (n : Int)) = true := by simp
    have h1 : Hid (isP xs = ans) := Lib.hid (by rw [← ha.out]; simp)
    go_enter Try.func53, Try.ntmps53
    go_wp2_with (first | (go_at_call 86; refine (specIsPB A n c w n xs ans HX.out lx hn hnc h1).mono ?_; rintro e w1 ⟨rfl, b1⟩))
    go_ret
    exact ⟨rfl, b1⟩
  · have e0 : ((n : Int) == (N : Int)) = false := by simp; omega
    have h1 : Hid (ans = false) := Lib.hid (by rw [← ha.out]; simp [e1])
    go_enter Try.func53, Try.ntmps53
    go_wp2_with fail
    go_ret
    exact ⟨ret_bool h1.out.symm, Below.refl _ _⟩
set_option maxHeartbeats 2000000 in
set_option maxRecDepth 100000 in
theorem specIsMember (P : Option Addr) (np cp : Nat) (p : List Int) (hx : RR w w.heap.size A n vs xss) (hn : n ≤ 1048576) (hl : Hid (∀ i, i < n → (vs.getD i sd0).2.1 ≤ 1048576)) (hp : RI w w.heap.size P p) (lp : Hid (p.length = np)) (hnp : np ≤ 1048576) (hpc : np ≤ cp) (ha : -9223372036854775808 ≤ a ∧ a ≤ 9223372036854775807) :
    Calls Try.prog 76 #[.int .i64 a, .slice A n c, .slice P np cp] w fun e w' => ∃ b, e = .returned (.bool b) ∧ (b = true ↔ Memb a xss p) ∧ Below w.heap.size w w' := by
  have HX := Lib.hid hx
  have HP := Lib.hid hp
  have hlx : Hid (xss.length = n) := Lib.hid hx.lx
  clear hx hp
  go_enter Try.func76, Try.ntmps76
  go_wp2_with fail
  refine (specGS a A n c vs xss w HX.out hn hl ha).mono ?_
  rintro e w1 ⟨rfl, b1⟩
  have B1 := Lib.hid b1
  have X1 := Lib.hid (HX.out.up b1)
  have P1 := Lib.hid (HP.out.up b1)
  clear b1
  rcases hs : gB a xss with _ | _
  · have Fin : Hid (false = true ↔ Memb a xss p) := Lib.hid ⟨fun h => (by cases h), fun h => by have := h.1; rw [hs] at this; cases this⟩
    clear hs
    go_wp2_with fail
    go_ret
    exact ⟨_, rfl, Fin.out, B1.out⟩
  · by_cases e1 : (np : Int) = a
    · obtain ⟨N, rfl, hN1, hN2, hg8, hpm, hok⟩ := gB_pm hs
      obtain rfl : np = N := by omega
      have Hs := Lib.hid hs
      have Ok := Lib.hid hok
      have hn8 : n ≤ 8 := by rw [← hlx.out]; exact hg8
      have e0 : ((np : Int) == (np : Int)) = true := by simp
      clear hs hpm hok hg8 e1
      rcases hq : isP p with _ | _
      · have Fin : Hid (false = true ↔ Memb np xss p) := Lib.hid ⟨fun h => (by cases h), fun h => by have := h.2.2.1; rw [hq] at this; cases this⟩
        have Hq := Lib.hid hq
        clear hq
        go_wp2_with fail
        refine (specIsPB P np cp w1 np p false P1.out lp (by omega) hpc Hq).mono ?_
        rintro e w2 ⟨rfl, b2⟩
        have B2 : Hid (Below w.heap.size w w2) := Lib.hid (btr B1.out b2)
        clear b2
        go_wp2_with fail
        go_ret
        exact ⟨_, rfl, Fin.out, B2.out⟩
      · have PP : Hid (Pn np p) := Lib.hid ⟨isP_iff.1 hq, lp.out⟩
        have Hq := Lib.hid hq
        clear hq
        go_wp2_with fail
        refine (specIsPB P np cp w1 np p true P1.out lp (by omega) hpc Hq).mono ?_
        rintro e w2 ⟨rfl, b2⟩
        have X2 := Lib.hid (X1.out.up b2)
        have P2 := Lib.hid (P1.out.up b2)
        have B2 : Hid (Below w.heap.size w w2) := Lib.hid (btr B1.out b2)
        clear b2
        go_wp2_with fail
        refine (specBuild np n c A vs xss w2 X2.out hN1 hN2 hn8 Ok).mono ?_
        rintro e w3 ⟨g, L, ch, rfl, hc3, hw3, b3⟩
        have C3 := Lib.hid hc3
        have W3 := Lib.hid hw3
        have P3 := Lib.hid (P2.out.up b3)
        have B3 : Hid (Below w.heap.size w w3) := Lib.hid (btr B2.out b3)
        clear hc3 hw3 b3
        obtain ⟨ans, hans⟩ : ∃ ans : Bool, ans = true ↔ Mb xss np p := by
          rcases Classical.em (Mb xss np p) with h | h
          · exact ⟨true, fun _ => h, fun _ => rfl⟩
          · exact ⟨false, fun e => (by cases e), fun e => absurd e h⟩
        have Ha := Lib.hid hans
        have Fin : Hid (ans = true ↔ Memb np xss p) := Lib.hid ⟨fun h => ⟨Hs.out, by rw [lp.out], Hq.out, by rw [Int.toNat_natCast]; exact hans.1 h⟩, fun h => hans.2 (by have := h.2.2.2; rwa [Int.toNat_natCast] at this)⟩
        clear hans
        go_wp2_with fail
        refine (specHas w2.heap.size g np cp P ch L xss p w3 C3.out W3.out P3.out PP ans Ha).mono ?_
        rintro e w4 ⟨rfl, b4⟩
        have B4 : Hid (Below w.heap.size w w4) := Lib.hid (btr B3.out b4)
        clear b4
        go_wp2_with fail
        go_ret
        exact ⟨_, rfl, Fin.out, B4.out⟩
    · have e0 : ((np : Int) == a) = false := by simpa using e1
      have Fin : Hid (false = true ↔ Memb a xss p) := Lib.hid ⟨fun h => (by cases h), fun h => by have := h.2.1; rw [lp.out] at this; exact absurd this e1⟩
      clear hs
      go_wp2_with fail
      go_ret
      exact ⟨_, rfl, Fin.out, B1.out⟩

end
end Go.Proofs.Ytkjokchhffjidaa

/- LongestMemberPrefix and StrongGeneratingSet of the model: what they answer. Conditions: at most 1048576 lists of at most 1048576 numbers. -/
namespace Go.Proofs.Ytkjokchhffjidaa
open Go.RowKit

section
variable (a : Int) (A : Option Addr) (n c : Nat) (vs : List SV) (xss : List (List Int)) (w : World)

/-! ### StrongGeneratingSet -/
end
/-- The prefix for level i and point y. -/
def preOf (pr : Nat × Nat) : List Int := idL pr.1 ++ [(pr.2 : Int)]
/-- The smallest members for a list of levels and points, where there are any. -/
def Sgs (N : Nat) (gs : List (List Int)) : List (Nat × Nat) → List (List Int) → Prop
  | [], l => l = []
  | pr :: ps, l => ∃ m ok rest, IsMwp N gs (preOf pr) m ok ∧ Sgs N gs ps rest ∧ l = (if ok = true then [m] else []) ++ rest
theorem Sgs.snoc {N : Nat} {gs : List (List Int)} {m : List Int} {ok : Bool} {pr : Nat × Nat} (hm : IsMwp N gs (preOf pr) m ok) : ∀ {ps : List (Nat × Nat)} {l : List (List Int)}, Sgs N gs ps l → Sgs N gs (ps ++ [pr]) (l ++ if ok = true then [m] else [])
  | [], l, h => by
    obtain rfl : l = [] := h
    exact ⟨m, ok, [], hm, rfl, by simp⟩
  | p :: ps, l, h => by
    obtain ⟨m', ok', rest, h1, h2, rfl⟩ := h
    exact ⟨m', ok', _, h1, h2.snoc hm, by rw [List.append_assoc]⟩
theorem Sgs.uniq {N : Nat} {gs : List (List Int)} (h1 : 1 ≤ N) (h2 : N ≤ 20) (hg : ∀ g ∈ gs, Pn N g) : ∀ {ps : List (Nat × Nat)} {l l' : List (List Int)}, (∀ pr ∈ ps, pr.1 < N) → Sgs N gs ps l → Sgs N gs ps l' → l = l'
  | [], l, l', _, h, h' => by rw [show l = [] from h, show l' = [] from h']
  | p :: ps, l, l', hp, h, h' => by
    obtain ⟨m, ok, rest, a1, a2, rfl⟩ := h
    obtain ⟨m', ok', rest', b1, b2, rfl⟩ := h'
    have hl : (preOf p).length ≤ N := by
      have := hp p (by simp)
      unfold preOf; rw [List.length_append, idL_length]; simp; omega
    obtain ⟨e1, e2⟩ := a1.uniq h1 h2 hg hl b1
    rw [e1, e2, Sgs.uniq h1 h2 hg (fun pr hpr => hp pr (by simp [hpr])) a2 b2]
theorem Sgs.ok {N : Nat} {gs : List (List Int)} (h1 : 1 ≤ N) (h2 : N ≤ 20) (hg : ∀ g ∈ gs, Pn N g) : ∀ {ps : List (Nat × Nat)} {l : List (List Int)}, Sgs N gs ps l → l.length ≤ ps.length ∧ ∀ y ∈ l, Mb gs N y ∧ y.length = N
  | [], l, h => by rw [show l = [] from h]; simp
  | p :: ps, l, h => by
    obtain ⟨m, ok, rest, a1, a2, rfl⟩ := h
    obtain ⟨b1, b2⟩ := a2.ok h1 h2 hg
    rcases a1 with ⟨rfl, a1⟩ | ⟨rfl, _, _⟩
    · refine ⟨by simp; omega, fun y hy => ?_⟩
      simp at hy
      rcases hy with rfl | hy
      · exact ⟨a1.1, (a1.1.pn hg h1 h2).2⟩
      · exact b2 y hy
    · refine ⟨by simp; omega, fun y hy => b2 y (by simpa using hy)⟩
/-- The levels below k, and the points behind each. -/
def prsI (N i m : Nat) : List (Nat × Nat) := (List.range m).map fun t => (i, i + 1 + t)
def prs (N : Nat) : Nat → List (Nat × Nat)
  | 0 => []
  | k + 1 => prs N k ++ prsI N k (N - (k + 1))
theorem prsI_succ (N i m : Nat) : prsI N i (m + 1) = prsI N i m ++ [(i, i + 1 + m)] := by simp [prsI, List.range_succ]
theorem prs_lt (N : Nat) : ∀ k, k ≤ N → ∀ pr ∈ prs N k, pr.1 < N
  | 0, _, pr, h => by simp [prs] at h
  | k + 1, hk, pr, h => by
    rcases List.mem_append.1 h with h | h
    · exact prs_lt N k (by omega) pr h
    · simp only [prsI, List.mem_map] at h
      obtain ⟨t, _, rfl⟩ := h
      exact hk
theorem prs_len (N : Nat) : ∀ k, (prs N k).length ≤ k * N
  | 0 => by simp [prs]
  | k + 1 => by
    have := prs_len N k
    simp only [prs, prsI, List.length_append, List.length_map, List.length_range, Nat.add_mul, Nat.one_mul]
    omega
/-- What StrongGeneratingSet answers. -/
def IsSgs (a : Int) (gs l : List (List Int)) : Prop := (gB a gs = true ∧ Sgs a.toNat gs (prs a.toNat a.toNat) l) ∨ (gB a gs = false ∧ l = [])
theorem IsSgs.uniq {a : Int} {gs l l' : List (List Int)} (h : IsSgs a gs l) (h' : IsSgs a gs l') : l = l' := by
  rcases h with ⟨e, h⟩ | ⟨e, rfl⟩ <;> rcases h' with ⟨e', h'⟩ | ⟨e', rfl⟩
  · obtain ⟨N, rfl, h1, hN, _, _, ok⟩ := gB_pm e
    rw [Int.toNat_natCast] at h h'
    exact h.uniq h1 hN ok (prs_lt N N (Nat.le_refl _)) h'
  · rw [e] at e'; cases e'
  · rw [e] at e'; cases e'
  · rfl
end Go.Proofs.Ytkjokchhffjidaa

/- StrongGeneratingSet of the model. Conditions: at most 1048576 lists of at most 1048576 numbers. -/
namespace Go.Proofs.Ytkjokchhffjidaa
open Go.RowKit

theorem ownsRow_mid {w w' : World} {base n size lo : Nat} {e : TypeId} {v : Value} {xs : List Value} (h : w.ownsRow base e size v n xs) (hm : ∀ k, lo ≤ k → k < w.heap.size → w'.heap[k]? = w.heap[k]?) (hl : lo ≤ base) : w'.ownsRow base e size v n xs := by
  refine ⟨h.1, ?_⟩
  rcases h.2 with h0 | ⟨g, cap, cur, e2, hb, hg, rest⟩
  · exact .inl h0
  · exact .inr ⟨g, cap, cur, e2, hb, by rw [hm g (by omega) (Array.getElem?_eq_some_iff.1 hg).1]; exact hg, rest⟩
/-- The chain lies where its blocks lie. -/
theorem Cn.mid {w w' : World} {base g N lo : Nat} {c : Ch} {L : LY} (h : Cn w base g N c L) (hm : ∀ k, lo ≤ k → k < w.heap.size → w'.heap[k]? = w.heap[k]?) (hl : lo ≤ base) : Cn w' base g N c L :=
  ⟨(hm g (Nat.le_trans hl h.hg) h.blk.lt).trans h.blk, h.hg, ownsRow_mid h.own1 hm hl, fun i hi => ownsRow_mid (h.row1 i hi) hm hl, h.len1, fun i hi y hy => (h.ent1 i hi y hy).mid hm hl,
    ownsRow_mid h.own2 hm hl, fun i hi => ownsRow_mid (h.row2 i hi) hm hl, h.len2, fun i hi y hy => (h.ent2 i hi y hy).mid hm hl, h.dRG, h.dro, h.drg, h.dgv⟩

end Go.Proofs.Ytkjokchhffjidaa

/- What StabilizerOrder answers; isPointSet and moveToFront of the model. Conditions: at most 20 points; lists of at most 1048576 numbers. -/
namespace Go.Proofs.Ytkjokchhffjidaa
open Go.RowKit

/-- A strictly increasing list of points. -/
def PtS (N : Nat) (pts : List Int) : Prop := pts.length ≤ N ∧ ∀ i, i < pts.length → 0 ≤ pts.getD i 0 ∧ pts.getD i 0 < N ∧ (0 < i → pts.getD (i - 1) 0 < pts.getD i 0)
/-- What StabilizerOrder answers: how many members fix the points. -/
def IsStb (a : Int) (gs : List (List Int)) (pts : List Int) (v : Int) : Prop :=
  (gB a gs = true ∧ PtS a.toNat pts ∧ ∃ c : Nat, Crd (fun p => Mb gs a.toNat p ∧ Fxs pts p) c ∧ v = (c : Int)) ∨ (¬ (gB a gs = true ∧ PtS a.toNat pts) ∧ v = 0)
theorem IsStb.uniq {a v v' : Int} {gs : List (List Int)} {pts : List Int} (h : IsStb a gs pts v) (h' : IsStb a gs pts v') : v = v' := by
  rcases h with ⟨e, f, c, hc, rfl⟩ | ⟨e, rfl⟩ <;> rcases h' with ⟨e', f', c', hc', rfl⟩ | ⟨e', rfl⟩
  · rw [hc.uniq hc']
  · exact absurd ⟨e, f⟩ e'
  · exact absurd ⟨e', f'⟩ e
  · rfl
section
variable {N : Nat} {pts : List Int}
theorem PtS.lt (h : PtS N pts) {i : Nat} : ∀ j, i < j → j < pts.length → pts.getD i 0 < pts.getD j 0
  | 0, hij, _ => absurd hij (Nat.not_lt_zero _)
  | j + 1, hij, hj => by
    have h1 := (h.2 (j + 1) hj).2.2 (Nat.succ_pos j)
    rw [Nat.add_sub_cancel] at h1
    by_cases e : i = j
    · rw [e]; exact h1
    · have := h.lt (i := i) j (by omega) (by omega)
      omega
theorem gdx {l : List Int} {i : Nat} (h : i < l.length) : l.getD i 0 = l[i] := by
  rw [List.getD_eq_getElem?_getD, List.getElem?_eq_getElem h]; rfl
theorem PtS.nodup (h : PtS N pts) : pts.Nodup := List.pairwise_iff_getElem.2 fun i j hi hj hij => by
  have := h.lt j hij hj
  rw [gdx hi, gdx hj] at this
  exact fun e => by rw [e] at this; omega
theorem PtS.mem (h : PtS N pts) {x : Int} (hx : x ∈ pts) : 0 ≤ x ∧ x < N := by
  obtain ⟨i, hi, rfl⟩ := List.mem_iff_getElem.1 hx
  have := h.2 i hi
  rw [gdx hi] at this
  exact ⟨this.1, this.2.1⟩
theorem hasB_mem {l : List Int} {x : Int} : hasB l x = true ↔ x ∈ l := by
  unfold hasB
  rw [decide_eq_true_eq, List.mem_iff_getElem]
  exact ⟨fun ⟨j, hj, e⟩ => ⟨j, hj, by rw [← gdx hj, e]⟩, fun ⟨j, hj, e⟩ => ⟨j, hj, by rw [gdx hj, e]⟩⟩
/-- The points in a new order: those of the list, then the others. -/
def mtf (pts : List Int) (k : Nat) : List Int := pts ++ ((List.range k).map Int.ofNat).filter fun x => !hasB pts x
theorem mtf_zero : mtf pts 0 = pts := by simp [mtf]
theorem mtf_yes {k : Nat} (h : hasB pts (k : Int) = true) : mtf pts (k + 1) = mtf pts k := by
  unfold mtf
  rw [List.range_succ, List.map_append, List.filter_append]
  simp [h]
theorem mtf_no {k : Nat} (h : hasB pts (k : Int) = false) : mtf pts (k + 1) = mtf pts k ++ [(k : Int)] := by
  unfold mtf
  rw [List.range_succ, List.map_append, List.filter_append]
  simp [h]
theorem mtf_le (k : Nat) : (mtf pts k).length ≤ pts.length + k := by
  unfold mtf
  rw [List.length_append]
  have := List.length_filter_le (fun x => !hasB pts x) ((List.range k).map Int.ofNat)
  simp at this ⊢; omega
theorem mtf_pre (k : Nat) {j : Nat} (hj : j < pts.length) : (mtf pts k).getD j 0 = pts.getD j 0 := getD_app _ _ _ _ hj
theorem PtS.mtf_mem (h : PtS N pts) (x : Int) : x ∈ mtf pts N ↔ 0 ≤ x ∧ x < N := by
  unfold mtf
  rw [List.mem_append, List.mem_filter, List.mem_map]
  constructor
  · rintro (hx | ⟨⟨i, hi, rfl⟩, _⟩)
    · exact h.mem hx
    · have := List.mem_range.1 hi
      exact ⟨Int.natCast_nonneg _, by show (i : Int) < N; omega⟩
  · rintro ⟨h0, h1⟩
    by_cases hx : x ∈ pts
    · exact .inl hx
    · refine .inr ⟨⟨x.toNat, List.mem_range.2 (by omega), by show ((x.toNat : Nat) : Int) = x; omega⟩, ?_⟩
      rw [Bool.not_eq_true', ← Bool.not_eq_true, hasB_mem]; exact hx
theorem PtS.mtf_nd (h : PtS N pts) : (mtf pts N).Nodup := by
  unfold mtf
  refine List.nodup_append.2 ⟨h.nodup, (nd_mapA List.nodup_range fun x _ y _ e => Int.ofNat.inj e).filter _, fun a ha b hb e => ?_⟩
  subst e
  have h2 := (List.mem_filter.1 hb).2
  rw [Bool.not_eq_true', ← Bool.not_eq_true, hasB_mem] at h2
  exact h2 ha
theorem PtS.mtf_pn (h : PtS N pts) (h1 : 1 ≤ N) (h2 : N ≤ 20) : Pn N (mtf pts N) := by
  have hr : ((List.range N).map Int.ofNat).Nodup := nd_mapA List.nodup_range fun x _ y _ e => Int.ofNat.inj e
  have hl : (mtf pts N).length = N := by
    have a := nd_subA (l := (List.range N).map Int.ofNat) h.mtf_nd fun x hx => by
      have := (h.mtf_mem x).1 hx
      exact List.mem_map.2 ⟨x.toNat, List.mem_range.2 (by omega), by show ((x.toNat : Nat) : Int) = x; omega⟩
    have b := nd_subA (l := mtf pts N) hr fun x hx => by
      obtain ⟨i, hi, rfl⟩ := List.mem_map.1 hx
      have := List.mem_range.1 hi
      exact (h.mtf_mem _).2 ⟨Int.natCast_nonneg _, by show (i : Int) < N; omega⟩
    simp at a b; omega
  have hm : ∀ i, i < (mtf pts N).length → 0 ≤ (mtf pts N).getD i 0 ∧ (mtf pts N).getD i 0 < N := fun i hi => by
    rw [gdx hi]; exact (h.mtf_mem _).1 (List.getElem_mem hi)
  refine ⟨⟨by omega, by omega, fun i hi => (hm i hi).1, fun i hi => by have := (hm i hi).2; omega, fun i j hi hj e => ?_⟩, hl⟩
  rw [gdx hi, gdx hj] at e
  have hp := List.pairwise_iff_getElem.1 h.mtf_nd
  rcases Nat.lt_trichotomy i j with hl | hl | hl
  · exact absurd e (hp i j hi hj hl)
  · exact hl
  · exact absurd e.symm (hp j i hj hi hl)
end

/-- append of nothing. -/
theorem wpList_app0 {w : World} {ops : Array Oper} {rest : List Oper} {o : Oper} {a : Act} {Q : Exit → Act → World → Prop} (hgd : o.guard = none) (s x : Operand)
    (ho : o.op = .call { callee := .builtin .append, args := #[s, x], argTypes := #[27, 27] })
    (b : Option Addr) (sl sc : Nat) (hle : sl ≤ sc) (hs : a.eval s = .slice b sl sc) (A : Option Addr) (c : Nat) (hx : a.eval x = .slice A 0 c)
    (h : wpList Try.prog ops Q rest (a.put o.dst (.slice b sl sc)) w) : wpList Try.prog ops Q (o :: rest) a w := by
  obtain ⟨i0, hi, hz0, hz1, hz2⟩ := info_parts infoI
  refine wpList_plain hgd fun _ hK => ?_
  have hr := run_append_nothing (P := Try.prog) w 27 27 o.type 2 i0 Try.underlying27 hi b sl sc hle (.slice A 0 c)
    ⟨.inl ⟨_, Try.underlying27⟩, fun w' => by cases A <;> rfl, by cases A <;> simp [Builtin.firstCells, loadCells, loadCellsFrom], by cases A <;> simp [Builtin.firstCells, loadCells, loadCellsFrom], by simp, fun u hu => by cases hu⟩
  unfold Oper.wp execOp
  simp only [ho, resolve, invoke, builtin, Sem.run_bind, Sem.run_pure, Result.andThen_ok, List.map_toArray, List.map_cons, List.map_nil, hs, hx, hr]
  exact hK _ _ h

/-- copyInts of whatever can be read. -/
theorem copyAny (A : Option Addr) (n c : Nat) (xs : List Int) (w : World) (h : RI w w.heap.size A xs) (lx : Hid (xs.length = n)) (hn : n ≤ 1000000) :
    Calls Try.prog 117 #[.slice A n c] w fun e w' => ∃ A' c', e = .returned (.slice A' n c') ∧ Slc w' w.heap.size A' n c' xs ∧ Below w.heap.size w w' := by
  by_cases h0 : 0 < n
  · obtain ⟨b, off, rfl, hb, hc⟩ := h (by rw [lx.out]; exact h0)
    exact copyRI b off n c xs w h lx.out hn
  · obtain rfl : n = 0 := by omega
    obtain rfl : xs = [] := List.length_eq_zero_iff.1 lx.out
    have H0 := Lib.hid (Slc.lit0 w w.heap.size (Nat.le_refl _))
    have B0 : Hid (Below w.heap.size w (w.alloc (.cells #[] 2))) := Lib.hid ((Below.refl _ w).alloc (Nat.le_refl _) _)
    clear h lx
    go_enter Try.func117, Try.ntmps117
    go_wp2_with (first | (at_builtin; refine wpList_app0 rfl _ _ rfl _ 0 0 (Nat.le_refl _) rfl A c rfl ?_))
    go_ret
    exact ⟨_, _, rfl, H0.out, B0.out⟩



end Go.Proofs.Ytkjokchhffjidaa

/- StabilizerOrder of the model. Conditions: at most 1048576 lists of at most 1048576 numbers. -/
namespace Go.Proofs.Ytkjokchhffjidaa
open Go.RowKit

theorem Whole.pr_le {N : Nat} {gs : List (List Int)} {c : Ch} (h : Whole N gs c) (h1 : 1 ≤ N) (k : Nat) : ∀ m, k + m ≤ N → 1 ≤ pr (osL N c N) k m ∧ pr (osL N c N) k m ≤ (facts N (k + m) : Int)
  | 0, hm => by
    have := facts_pos (N := N) (m := k) (by omega)
    exact ⟨Int.le_refl _, by show (1 : Int) ≤ (facts N (k + 0) : Int); rw [Nat.add_zero]; omega⟩
  | m + 1, hm => by
    obtain ⟨a, b⟩ := h.pr_le h1 k m (by omega)
    obtain ⟨d, e⟩ := h.nr_pos h1 (i := k + m) (by omega)
    have ex : pr (osL N c N) k (m + 1) = pr (osL N c N) k m * (nr N c (k + m) N : Int) := by
      show _ * (osL N c N).getD (k + m) 0 = _
      rw [osL_at (by omega)]
    rw [ex]
    refine ⟨?_, ?_⟩
    · have := Int.mul_le_mul a (show (1 : Int) ≤ (nr N c (k + m) N : Int) by omega) (by omega) (by omega)
      simpa using this
    · have := Int.mul_le_mul b (show (nr N c (k + m) N : Int) ≤ ((N - (k + m) : Nat) : Int) by omega) (by omega) (by omega)
      show _ ≤ ((facts N (k + m) * (N - (k + m)) : Nat) : Int)
      rw [Int.natCast_mul]; exact this
theorem take_cj {gs : List (List Int)} {o : List Int} {k : Nat} {y : List Int} (hk : k < gs.length) (ey : gs.getD k [] = y) : (gs.take (k + 1)).map (cj o) = (gs.take k).map (cj o) ++ [cj o y] := by
  rw [List.getD_eq_getElem?_getD, List.getElem?_eq_getElem hk] at ey
  have e' : gs[k] = y := ey
  rw [List.take_succ_eq_append_getElem hk, List.map_append, e']; rfl

/-- One slice more on a slice of slices of the call's own. -/
theorem SS.snocV {w w' : World} {base bi n c : Nat} {A : Option Addr} {vs : List SV} {xss : List (List Int)} {A' : Option Addr} {c' : Nat} {d : SV} {ys : List Int} (hss : SS w base bi A n c vs xss) (hys : Slc w bi d.1 d.2.1 d.2.2 ys)
    (hdis : ∀ i, i < n → (sval (vs.getD i sd0)).ownBlock = none ∨ (sval (vs.getD i sd0)).ownBlock ≠ (sval d).ownBlock) (hown : w'.ownsRow base 27 1 (.slice A' (n + 1) c') (n + 1) (vs.map sval ++ [sval d])) (hg : w.grownBy w' (Value.slice A n c).ownBlock) :
    SS w' base bi A' (n + 1) c' (vs ++ [d]) (xss ++ [ys]) := by
  refine ⟨?_, by simp [hss.lv], by simp [hss.lx], fun i hi' => ?_, fun i j hij hj => ?_⟩
  · rw [List.map_append]; exact hown
  · by_cases e : i < n
    · rw [getD_app _ _ _ _ (by rw [hss.lv]; exact e), getD_app _ _ _ _ (by rw [hss.lx]; exact e)]
      exact (hss.row i e).kept hg (apart_types (hss.row i e) hss.own)
    · obtain rfl : i = n := by omega
      rw [getD_snoc _ _ _ _ hss.lv.symm, getD_snoc _ _ _ _ hss.lx.symm]
      exact hys.kept hg (apart_types hys hss.own)
  · rw [getD_app _ _ _ i (by rw [hss.lv]; omega)]
    by_cases e : j < n
    · rw [getD_app _ _ _ j (by rw [hss.lv]; exact e)]; exact hss.dis i j hij e
    · obtain rfl : j = n := by omega
      rw [getD_snoc _ _ _ _ hss.lv.symm]
      exact hdis i hij
end Go.Proofs.Ytkjokchhffjidaa

/- What the functions of chapter 4 answer, and that the model's do. No condition. -/
namespace Go.Proofs.Ytkjokchhffjidaa
open Go.RowKit

def IsMem (a : Int) (gs : List (List Int)) (p : List Int) (b : Bool) : Prop := b = true ↔ Memb a gs p
def IsSam (a : Int) (xs ys : List (List Int)) (b : Bool) : Prop := b = true ↔ SameG a xs ys
theorem IsMem.uniq {a : Int} {gs : List (List Int)} {p : List Int} {b b' : Bool} (h : IsMem a gs p b) (h' : IsMem a gs p b') : b = b' := memb_uniq h h'
theorem IsSam.uniq {a : Int} {xs ys : List (List Int)} {b b' : Bool} (h : IsSam a xs ys b) (h' : IsSam a xs ys b') : b = b' := by
  unfold IsSam at h h'; rw [Bool.eq_iff_iff, h, h']
theorem boundSgs {a : Int} {gs l : List (List Int)} (h : IsSgs a gs l) : l.length ≤ 1048576 ∧ (∀ i, i < l.length → (l.getD i []).length ≤ 1048576) ∧ sumL l ≤ 1048576 := by
  rcases h with ⟨e, h⟩ | ⟨e, rfl⟩
  · obtain ⟨N, rfl, h1, hN, _, _, ok⟩ := gB_pm e
    rw [Int.toNat_natCast] at h
    obtain ⟨a1, a2⟩ := h.ok h1 hN ok
    have a3 := prs_len N N
    have a4 : N * N ≤ 20 * 20 := Nat.mul_le_mul hN hN
    exact bound_all (m := 400) (k := 20) (by omega) (fun y hy => by rw [(a2 y hy).2]; exact hN) (by omega)
  · exact bound_all (m := 0) (k := 0) (Nat.le_refl _) (fun y hy => by cases hy) (by omega)

theorem ctOrd : CtImI 74 IsOrd := fun a A n c vs xss w g ha => specGroupOrder a A n c vs xss w g.rr g.hn (Lib.hid g.hl) ha
theorem ctMem : CtImsB 76 IsMem := fun a A n c vs xss P np cp p w g s ha => specIsMember a A n c vs xss w P np cp p g.rr g.hn (Lib.hid g.hl) s.ri (Lib.hid s.lp) s.hn s.hc ha
end Go.Proofs.Ytkjokchhffjidaa

/- The program's order, OrbitSizes, GroupOrder, IsMember, LongestMemberPrefix. Conditions: at most 1048576 lists of at most 1048576 numbers. -/
namespace Go.Proofs.Ytkjokchhffjidaa
open Go.RowKit

section
variable {N k i : Nat} {c : Ch} {L : Nat → LK} {O : List Nat} {gs : List (List Int)}
theorem orb_nr (h : Orb c i O) (hr : RepOK N c i) : nr N c i N = O.length := by
  have a : ((List.range N).filter fun y => !(c.rep i y).isEmpty).length ≤ O.length := nd_subP (List.nodup_range.filter _) fun y hy => by
    rw [List.mem_filter, Bool.not_eq_true', List.isEmpty_eq_false_iff] at hy
    exact (h.2 y).2 hy.2
  have b : O.length ≤ ((List.range N).filter fun y => !(c.rep i y).isEmpty).length := nd_subP h.1 fun y hy => by
    rw [List.mem_filter, Bool.not_eq_true', List.isEmpty_eq_false_iff, List.mem_range]
    exact ⟨h.lt hr hy, (h.2 y).1 hy⟩
  unfold nr; omega
theorem ptr_at (hi : i < N) : ptr N L i = .pointer (some ⟨(L i).B, 0, none⟩) := if_pos hi
theorem ptr_end (hi : N ≤ i) : ptr N L i = .pointer none := if_neg (by omega)
end

set_option maxHeartbeats 2000000 in
/-- order, from link k on. -/
theorem implOrder (base N k0 k : Nat) (M : Nat → Prop) (c : Ch) (L : Nat → LK) (gs : List (List Int)) (w : World) (hc : Ck w base N k0 M c L) (ho : Orbs N k0 c L) (hw : Hid (Whole N gs c)) (hk : k0 ≤ k) (hkN : k ≤ N) (h1 : 1 ≤ N) (h2 : N ≤ 20) (hg : Hid (∀ g ∈ gs, Pn N g)) :
    Calls Try.prog 95 #[ptr N L k] w fun e w' => e = .returned (.int .i64 (pr (osL N c N) k (N - k))) ∧ w = w' := by
  have HC := Lib.hid hc
  have HO := Lib.hid ho
  have Hos := Lib.hid (hw.out.os h1 h2)
  clear hc ho
  go_enter Try.func95, Try.ntmps95
  go_wp2_with fail
  go_loopg [3, 4] N (fun gg o l wr => ∃ j : Nat, k ≤ j ∧ j ≤ N ∧ N - j ≤ gg ∧ l = ptr N L j ∧ o = .int .i64 (pr (osL N c N) k (j - k)) ∧ w = wr)
  case atStart => exact ⟨k, Nat.le_refl _, hkN, by omega, rfl, by rw [Nat.sub_self]; rfl, rfl⟩
  case round =>
    obtain ⟨j, hkj, hjN, hgg, rfl, rfl, rfl⟩ := hrel
    by_cases hlt : j < N
    · rw [ptr_at hlt]
      obtain ⟨x0, x1, x2, x3, x4⟩ := HC.out.cB (by omega) hlt
      have hol := HC.out.olen (by omega) hlt
      rcases hoe : (L j).o with ⟨oA, on, oc⟩
      rw [hoe] at x2 hol
      have hol : on = (L j).orb.length := hol
      have en : (osL N c N).getD j 0 = (on : Int) := by
        rw [osL_at hlt, orb_nr (HO.out j (by omega) hlt) (hw.out.up.rep j (Nat.zero_le _) hlt), hol]
      have e1 : pr (osL N c N) k (j - k) * (on : Int) = pr (osL N c N) k (j + 1 - k) := by
        rw [show j + 1 - k = (j - k) + 1 by omega]
        show _ = pr (osL N c N) k (j - k) * (osL N c N).getD (k + (j - k)) 0
        rw [show k + (j - k) = j by omega, en]
      have b1 := Hos.out.pr_le hg.out h1 h2 k (j + 1 - k) (by omega)
      have b2 := facts_le h2 (k + (j + 1 - k)) (by omega)
      have wr1 : IntKind.i64.wrap (pr (osL N c N) k (j - k) * (on : Int)) = pr (osL N c N) k (j + 1 - k) := by rw [e1, IntKind.wrap_i64]; omega
      simp only [sval] at x2
      clear hol hoe en e1 b1 b2 x0 x1 x3
      go_wp2_with fail
      go_roundg (N - (j + 1))
      case rel => exact ⟨j + 1, by omega, by omega, by omega, rfl, rfl, rfl⟩
      case measure => omega
    · obtain rfl : j = N := by omega
      rw [ptr_end (Nat.le_refl _)]
      go_wp2_with fail
      go_ret
      exact ⟨rfl, rfl⟩

set_option maxHeartbeats 1000000 in
theorem implIsPOf (a : Int) (A : Option Addr) (n c : Nat) (xs : List Int) (ans : Bool) (w : World) (hx : RI w w.heap.size A xs) (lx : Hid (xs.length = n)) (hn : n ≤ 2097152) (ha : Hid ((decide ((n : Int) = a) && isP xs) = ans)) :
    Calls Try.prog 52 #[.int .i64 a, .slice A n c] w fun e w' => e = .returned (.bool ans) ∧ Below w.heap.size w w' := by
  have HX := Lib.hid hx
  clear hx
  by_cases e1 : (n : Int) = a
  · subst e1
    have e0 : ((n : Int) == (n : Int)) = true := by simp
    have h1 : Hid (isP xs = ans) := Lib.hid (by rw [← ha.out]; simp)
    go_enter Try.func52, Try.ntmps52
    go_wp2_with (first | (go_at_call 85; refine (implIsP A c n xs w HX.out lx hn).mono ?_; rintro e w1 ⟨rfl, b1⟩; rw [h1.out]))
    go_ret
    exact ⟨rfl, b1⟩
  · have e0 : ((n : Int) == a) = false := by simpa using e1
    have h1 : Hid (ans = false) := Lib.hid (by rw [← ha.out]; simp [e1])
    go_enter Try.func52, Try.ntmps52
    go_wp2_with fail
    go_ret
    exact ⟨ret_bool h1.out.symm, Below.refl _ _⟩
theorem implIsPOfT (A : Option Addr) (n c : Nat) (xs : List Int) (w : World) (hx : RI w w.heap.size A xs) (lx : Hid (xs.length = n)) (hn : n ≤ 2097152) (ha : Hid (isP xs = true)) :
    Calls Try.prog 52 #[.int .i64 (n : Nat), .slice A n c] w fun e w' => e = .returned (.bool true) ∧ Below w.heap.size w w' :=
  implIsPOf n A n c xs true w hx lx hn (Lib.hid (by simp [ha.out]))

set_option maxHeartbeats 2000000 in
/-- GroupOrder. -/
theorem implGroupOrder : CtImI 75 IsOrd := by
  intro a A n c vs xss w g _
  have HX := Lib.hid g.rr
  have hlx : Hid (xss.length = n) := Lib.hid g.rr.lx
  have hn := g.hn
  have hl := Lib.hid g.hl
  clear g
  go_enter Try.func75, Try.ntmps75
  go_wp2_with fail
  refine (implGS a A n c vs xss w HX.out hn hl).mono ?_
  rintro e w1 ⟨rfl, b1⟩
  have B1 := Lib.hid b1
  have X1 := Lib.hid (HX.out.up b1)
  clear b1
  rcases hs : gB a xss with _ | _
  · have Fin : Hid (IsOrd a xss 0) := Lib.hid (.inr ⟨hs, rfl⟩)
    clear hs
    go_wp2_with fail
    go_ret
    exact ⟨_, rfl, Fin.out, B1.out⟩
  · obtain ⟨N, rfl, hN1, hN2, hg8, hpm, hok⟩ := gB_pm hs
    have Hs := Lib.hid hs
    have Ok := Lib.hid hok
    have hn8 : n ≤ 8 := by rw [← hlx.out]; exact hg8
    clear hs hpm hok hg8
    go_wp2_with fail
    refine (implChainOf N n c A vs xss w1 X1.out hN1 hN2 hn8 Ok).mono ?_
    rintro e w2 ⟨ch, L, M, rfl, hc, ho, hw, b2⟩
    have W2 := Lib.hid hw
    have B2 : Hid (Below w.heap.size w w2) := Lib.hid (btr B1.out b2)
    have K := implOrder w1.heap.size N 0 0 M ch L xss w2 hc ho W2 (Nat.le_refl _) (Nat.zero_le _) hN1 hN2 (Lib.hid Ok.out)
    rw [ptr_at (by omega)] at K
    have Fin : Hid (IsOrd N xss (pr (osL N ch N) 0 (N - 0))) := Lib.hid (.inl ⟨Hs.out, osL N ch N, by rw [Int.toNat_natCast]; exact hw.os hN1 hN2, by rw [prodL_pr, osL_len]; rfl⟩)
    clear hc ho hw b2
    go_wp2_with fail
    refine K.mono ?_
    rintro e w3 ⟨rfl, rfl⟩
    clear K
    go_wp2_with fail
    go_ret
    exact ⟨_, rfl, Fin.out, B2.out⟩


set_option maxHeartbeats 4000000 in
set_option maxRecDepth 100000 in
/-- IsMember. -/
theorem implIsMember : CtImsB 21 IsMem := by
  intro a A n c vs xss P np cp p w g s _
  have HX := Lib.hid g.rr
  have hlx : Hid (xss.length = n) := Lib.hid g.rr.lx
  have hn := g.hn
  have hl := Lib.hid g.hl
  have HP := Lib.hid s.ri
  have lp := Lib.hid s.lp
  have hnp := s.hn
  clear g s
  obtain ⟨ip, hip⟩ : ∃ ip, (decide ((np : Int) = a) && isP p) = ip := ⟨_, rfl⟩
  have Hip := Lib.hid hip
  clear hip
  go_enter Try.func21, Try.ntmps21
  rcases hs : gB a xss with _ | _
  · have Fin : Hid (IsMem a xss p false) := Lib.hid ⟨fun h => (by cases h), fun h => by have := h.1; rw [hs] at this; cases this⟩
    have Hs := Lib.hid hs
    clear hs
    go_wp2_with (first
      | (go_at_call 56; refine (implGS a A n c vs xss w HX.out hn hl).mono ?_; rintro e w1 ⟨rfl, b1⟩; rw [Hs.out]; have B1 := Lib.hid b1; clear b1))
    go_ret
    exact ⟨_, rfl, Fin.out, B1.out⟩
  · have Hs := Lib.hid hs
    rcases ip with _ | _
    · have Fin : Hid (IsMem a xss p false) := Lib.hid ⟨fun h => (by cases h), fun h => by
        have h1 := h.2.1
        have h2 := h.2.2.1
        have h3 := Hip.out
        rw [lp.out] at h1
        rw [h2] at h3
        simp [h1] at h3⟩
      clear hs
      go_wp2_with (first
        | (go_at_call 56; refine (implGS a A n c vs xss w HX.out hn hl).mono ?_; rintro e w1 ⟨rfl, b1⟩; rw [Hs.out]; have B1 := Lib.hid b1; clear b1)
        | (go_at_call 52; refine (implIsPOf a P np cp p false w1 (HP.out.up B1.out) lp (by omega) Hip).mono ?_; rintro e w2 ⟨rfl, b2⟩; have B2 := Lib.hid b2; clear b2))
      go_ret
      exact ⟨_, rfl, Fin.out, btr B1.out B2.out⟩
    · obtain ⟨N, rfl, hN1, hN2, hg8, hpm, hok⟩ := gB_pm hs
      have h3 := Hip.out
      rw [Bool.and_eq_true, decide_eq_true_eq] at h3
      obtain rfl : np = N := by omega
      have PP : Hid (Pn np p) := Lib.hid ⟨isP_iff.1 h3.2, lp.out⟩
      have Hq := Lib.hid h3.2
      have Ok := Lib.hid hok
      have hn8 : n ≤ 8 := by rw [← hlx.out]; exact hg8
      obtain ⟨ans, hans⟩ := boolOf (Mb xss np p)
      have Ha := Lib.hid hans
      have Fin : Hid (IsMem np xss p ans) := Lib.hid ⟨fun h => ⟨Hs.out, by rw [lp.out], Hq.out, by rw [Int.toNat_natCast]; exact hans.1 h⟩, fun h => hans.2 (by have := h.2.2.2; rwa [Int.toNat_natCast] at this)⟩
      clear hs hpm hok hg8 h3 hans
      go_wp2_with (first
        | (go_at_call 56; refine (implGS np A n c vs xss w HX.out hn hl).mono ?_; rintro e w1 ⟨rfl, b1⟩; rw [Hs.out]; have B1 := Lib.hid b1; clear b1)
        | (go_at_call 52; refine (implIsPOfT P np cp p w1 (HP.out.up B1.out) lp (by omega) Hq).mono ?_; rintro e w2 ⟨rfl, b2⟩; have B2 : Hid (Below w.heap.size w w2) := Lib.hid (btr B1.out b2); clear b2)
        | (go_at_call 57; refine (implChainOf np n c A vs xss w2 (HX.out.up B2.out) hN1 hN2 hn8 Ok).mono ?_; rintro e w3 ⟨ch, L, M, rfl, hc, ho, hw, b3⟩; have W3 := Lib.hid hw; have C3 := Lib.hid hc; have B3 : Hid (Below w.heap.size w w3) := Lib.hid (btr B2.out b3); clear hc ho hw b3)
        | (go_at_call 58; refine (implContains w2.heap.size np 0 cp M ch L P p w3 C3.out (by omega) (Lib.hid W3.out.up) hN2 (HP.out.up B3.out) PP (Lib.hid Fx.zero) ans (Lib.hid (Ha.out.trans (W3.out.mem p).symm))).mono ?_; rintro e w4 ⟨rfl, b4⟩; have B4 : Hid (Below w.heap.size w w4) := Lib.hid (btr B3.out b4); clear b4))
      go_ret
      exact ⟨_, rfl, Fin.out, B4.out⟩

end Go.Proofs.Ytkjokchhffjidaa

/- The program's smallestLike and MemberWithPrefix. Conditions: at most 1048576 lists of at most 1048576 numbers. -/
namespace Go.Proofs.Ytkjokchhffjidaa
open Go.RowKit


end Go.Proofs.Ytkjokchhffjidaa

/- The program's containsAll. Conditions: at most 20 points, 8 generators. -/
namespace Go.Proofs.Ytkjokchhffjidaa
open Go.RowKit

end Go.Proofs.Ytkjokchhffjidaa

/- The program's StrongGeneratingSet and SameGroup. Conditions: at most 1048576 lists of at most 1048576 numbers. -/
namespace Go.Proofs.Ytkjokchhffjidaa
open Go.RowKit

/-- As many, and all of them among the others: the same. -/
theorem Crd.same {P Q : List Int → Prop} {v : Nat} (hP : Crd P v) (hQ : Crd Q v) (h : ∀ p, P p → Q p) : ∀ p, Q p → P p := fun p hp => by
  obtain ⟨l, d, m, e⟩ := hP
  obtain ⟨l', d', m', e'⟩ := hQ
  refine (m p).1 ?_
  by_cases hm : p ∈ l
  · exact hm
  · exfalso
    have hnd : (p :: l).Nodup := List.nodup_cons.2 ⟨hm, d⟩
    have := nd_subA hnd fun x hx => by
      rcases List.mem_cons.1 hx with rfl | hx
      · exact (m' _).2 hp
      · exact (m' x).2 (h x ((m x).1 hx))
    simp at this; omega
theorem preOf_at {N k y : Nat} {g : List Int} (hf : Fx k g) (e : nx g k = y) : ∀ i, i < k + 1 → (nx g i : Int) = (preOf (k, y)).getD i 0 := fun i hi => by
  unfold preOf
  rcases Nat.lt_or_ge i k with hl | hl
  · rw [getD_app _ _ _ i (by rw [idL_length]; exact hl), idL_getD hl, hf i hl]
  · obtain rfl : i = k := by omega
    rw [getD_snoc _ _ _ i (by rw [idL_length]), e]
theorem preOf_len (k y : Nat) : (preOf (k, y)).length = k + 1 := by unfold preOf; rw [List.length_append, idL_length]; rfl


end Go.Proofs.Ytkjokchhffjidaa

/- Support, of the program and of the model, and the program's search for points. Condition: at most 2097152 entries. -/
namespace Go.Proofs.Ytkjokchhffjidaa
open Go.RowKit

def ptsL (f : Nat → Bool) (k : Nat) : List Int := ((List.range k).filter f).map Int.ofNat
theorem ptsL_yes {f : Nat → Bool} {k : Nat} (h : f k = true) : ptsL f (k + 1) = ptsL f k ++ [(k : Int)] := by simp [ptsL, List.range_succ, List.filter_append, h]
theorem ptsL_no {f : Nat → Bool} {k : Nat} (h : f k = false) : ptsL f (k + 1) = ptsL f k := by simp [ptsL, List.range_succ, List.filter_append, h]
theorem ptsL_le (f : Nat → Bool) (k : Nat) : (ptsL f k).length ≤ k := by
  unfold ptsL; rw [List.length_map]; exact Nat.le_trans (List.length_filter_le _ _) (by simp)
def movesB (p : List Int) (x : Nat) : Bool := p.getD x 0 != (x : Int)
theorem supp_eq (p : List Int) : supp p = ptsL (movesB p) p.length := rfl
def suppL (p : List Int) : List Int := if isP p = true then supp p else []

end Go.Proofs.Ytkjokchhffjidaa

/- The program's areAscendingPoints, slices.Index, Contains, Grow, Concat and the points of a renumbering. Conditions: at most 20 points; lists of at most 1048576 numbers. -/
namespace Go.Proofs.Ytkjokchhffjidaa
open Go.RowKit

theorem mtf_pts (pts : List Int) (N : Nat) : mtf pts N = pts ++ ptsL (fun x => !hasB pts (x : Int)) N := by
  unfold mtf ptsL
  rw [List.filter_map]; rfl
theorem cj_iv {N : Nat} {o p : List Int} (ho : Pn N o) : cj (iv o) p = compL (compL o p) (iv o) := by
  unfold cj; rw [ho.iviv]




end Go.Proofs.Ytkjokchhffjidaa

/- The program's slices.Concat, renumbered and StabilizerOrder. Conditions: at most 1048576 lists of at most 1048576 numbers. -/
namespace Go.Proofs.Ytkjokchhffjidaa
open Go.RowKit

/-- append of whatever can be read onto a row of the call's own. -/
theorem wpList_appA {w : World} {ops : Array Oper} {rest : List Oper} {o : Oper} {a : Act} {Q : Exit → Act → World → Prop} (hgd : o.guard = none) (s x : Operand)
    (ho : o.op = .call { callee := .builtin .append, args := #[s, x], argTypes := #[27, 27] })
    (base : Nat) (A : Option Addr) (n c : Nat) (xs : List Int) (hs : a.eval s = .slice A n c) (hown : Slc w base A n c xs) (B : Option Addr) (m c2 : Nat) (ys : List Int) (hx : a.eval x = .slice B m c2)
    (hy : RI w w.heap.size B ys) (ly : ys.length = m) (hn : n + m ≤ 1000000000000) (hbase : base ≤ w.heap.size)
    (h : ∀ A' c' w', Slc w' base A' (n + m) c' (xs ++ ys) → w.grownBy w' (Value.slice A n c).ownBlock → wpList Try.prog ops Q rest (a.put o.dst (.slice A' (n + m) c')) w') : wpList Try.prog ops Q (o :: rest) a w := by
  by_cases h0 : m = 0
  · subst h0
    obtain rfl : ys = [] := List.length_eq_zero_iff.1 ly
    have h3 := h A c w (by rw [List.append_nil]; exact hown) (grown_refl _ _)
    exact wpList_app0 hgd s x ho A n c hown.le.1 hs B c2 hx h3
  · obtain ⟨b, off, rfl, _, _⟩ := hy (by omega)
    exact wpList_appN hgd s x ho base A n c xs hs hown b off m c2 ys hx hy ly hn hbase h



end Go.Proofs.Ytkjokchhffjidaa

/- The model's inverse words and concatenations. Condition: at most 2097152 letters in a word. -/
namespace Go.Proofs.Ytkjokchhffjidaa
open Go.RowKit

def invF (wd : List Int) : List Int := if vW 8 wd = true then ivW wd else []
def redF (wd : List Int) : List Int := if vW 8 wd = true then redW wd else []
/-- Whether words can be written one after the other, and what they make. -/
def okF (xss : List (List Int)) : Bool := xss.all (vW 8) && decide (xss.flatten.length ≤ 200)
def catF (xss : List (List Int)) : List Int := if okF xss = true then xss.flatten else []
theorem catF_len (xss : List (List Int)) : (catF xss).length ≤ 200 := by
  unfold catF
  split
  · rename_i h
    unfold okF at h
    rw [Bool.and_eq_true, decide_eq_true_eq] at h
    exact h.2
  · simp
theorem okF_bad {xss : List (List Int)} {i : Nat} (hi : i < xss.length) (h : vW 8 (xss.getD i []) = false) : okF xss = false := by
  unfold okF
  have : xss.all (vW 8) = false := by
    rw [List.all_eq_false]
    refine ⟨xss.getD i [], ?_, by rw [h]; simp⟩
    rw [List.getD_eq_getElem?_getD, List.getElem?_eq_getElem hi]; exact List.getElem_mem _
  rw [this, Bool.false_and]
theorem okF_all {xss : List (List Int)} (h : ∀ i, i < xss.length → vW 8 (xss.getD i []) = true) : okF xss = decide (xss.flatten.length ≤ 200) := by
  unfold okF
  have : xss.all (vW 8) = true := by
    rw [List.all_eq_true]
    intro y hy
    obtain ⟨i, hi, rfl⟩ := List.mem_iff_getElem.1 hy
    have := h i hi
    rwa [List.getD_eq_getElem?_getD, List.getElem?_eq_getElem hi] at this
  rw [this, Bool.true_and]
theorem flat_take {xss : List (List Int)} {k : Nat} (hk : k < xss.length) : (xss.take (k + 1)).flatten = (xss.take k).flatten ++ xss.getD k [] := by
  rw [List.take_succ_eq_append_getElem hk, List.flatten_append, List.getD_eq_getElem?_getD, List.getElem?_eq_getElem hk]
  simp
theorem flat_len {xss : List (List Int)} (h : ∀ i, i < xss.length → (xss.getD i []).length ≤ 200) : ∀ k, k ≤ xss.length → (xss.take k).flatten.length ≤ 200 * k
  | 0, _ => by simp
  | k + 1, hk => by
    rw [flat_take hk, List.length_append]
    have h1 := flat_len h k (by omega)
    have h2 := h k hk
    omega

/-- A row that a call's dots make. -/
theorem rrLit (w : World) (t : TypeId) (vs : List SV) (xss : List (List Int)) (hl : xss.length = vs.length) (hr : ∀ j, j < vs.length → RI w w.heap.size (vs.getD j sd0).1 (xss.getD j [])) (hn : ∀ j, j < vs.length → (xss.getD j []).length = (vs.getD j sd0).2.1) (hc : ∀ j, j < vs.length → (vs.getD j sd0).2.1 ≤ (vs.getD j sd0).2.2) :
    RR (w.alloc (.cells (vs.map sval).toArray t)) (w.alloc (.cells (vs.map sval).toArray t)).heap.size (some ⟨w.heap.size, 0, none⟩) vs.length vs xss := by
  refine ⟨rfl, hl, fun _ => ⟨w.heap.size, 0, rfl, by simp, fun j hj => ?_⟩, fun j hj => (hr j hj).up ((Below.refl _ _).alloc (Nat.le_refl _) _), hn, hc⟩
  rw [World.cell?_alloc_at _ _ _ _ rfl, Nat.zero_add, List.getD_eq_getElem?_getD, List.getElem?_eq_getElem hj]
  simp [sval, hj]


end Go.Proofs.Ytkjokchhffjidaa

/- The model's evaluation of words. Conditions: at most 2097152 letters in a word. -/
namespace Go.Proofs.Ytkjokchhffjidaa
open Go.RowKit

/-- letterPermutation of a generator's own letter. -/
theorem specLtPos (j : Nat) (A : Option Addr) (n c N : Nat) (vs : List SV) (gs : List (List Int)) (w : World) (hx : RR w w.heap.size A n vs gs) (ok : Hid (∀ g ∈ gs, IsP g ∧ g.length = N)) (hj : j < n) (hn : n ≤ 8) :
    Calls Try.prog 84 #[.slice A n c, .int .i64 ((j : Int) + 1)] w fun e w' => ∃ A' c', e = .returned (.slice A' N c') ∧ RI w' w'.heap.size A' (gs.getD j []) ∧ Below w.heap.size w w' := by
  obtain ⟨b, off, A5, l, c5, y, rfl, hb, ev, ey, hc0, hr0, hy, hlc⟩ := hx.at_ hj
  have hl : l = N := by rw [← hy]; exact (ok.out y (by rw [← ey]; exact getD_memL (by rw [hx.lx]; exact hj))).2
  subst hl
  have R0 : Hid (RI w w.heap.size A5 (gs.getD j [])) := Lib.hid (by rw [ey]; exact hr0)
  have w1 : IntKind.i64.wrap ((j : Int) + 1 - 1) = (j : Int) := by rw [IntKind.wrap_i64]; omega
  have d0 : decide ((j : Int) + 1 < 0) = false := decide_eq_false (by omega)
  have p1 : (0 : Int) ≤ j := by omega
  have p2 : (j : Int) < n := by omega
  clear hx ev ey hr0 hy
  go_enter Try.func84, Try.ntmps84
  go_wp2
  go_ret
  exact ⟨_, _, rfl, R0.out, Below.refl _ _⟩
/-- letterPermutation of an inverse's letter. -/
theorem specLtNeg (j : Nat) (A : Option Addr) (n c N : Nat) (vs : List SV) (gs : List (List Int)) (w : World) (hx : RR w w.heap.size A n vs gs) (ok : Hid (∀ g ∈ gs, IsP g ∧ g.length = N)) (hN : N ≤ 20) (hj : j < n) (hn : n ≤ 8) :
    Calls Try.prog 84 #[.slice A n c, .int .i64 (-((j : Int) + 1))] w fun e w' => ∃ A' c', e = .returned (.slice A' N c') ∧ RI w' w'.heap.size A' (invL (gs.getD j []) (gs.getD j []).length) ∧ Below w.heap.size w w' := by
  obtain ⟨b, off, A5, l, c5, y, rfl, hb, ev, ey, hc0, hr0, hy, hlc⟩ := hx.at_ hj
  have hok := ok.out y (by rw [← ey]; exact getD_memL (by rw [hx.lx]; exact hj))
  have hl : l = N := by rw [← hy]; exact hok.2
  subst hl
  have Ip := Lib.hid hok.1
  have R0 := Lib.hid hr0
  have Hy := Lib.hid hy
  have Ey := Lib.hid ey
  have w1 : IntKind.i64.wrap (-(-((j : Int) + 1))) = (j : Int) + 1 := by rw [IntKind.wrap_i64]; omega
  have w2 : IntKind.i64.wrap ((j : Int) + 1 - 1) = (j : Int) := by rw [IntKind.wrap_i64]; omega
  have d0 : decide (-((j : Int) + 1) < 0) = true := decide_eq_true (by omega)
  have p1 : (0 : Int) ≤ j := by omega
  have p2 : (j : Int) < n := by omega
  clear hx ev ey hr0 hy hok
  go_enter Try.func84, Try.ntmps84
  go_wp2_with fail
  refine (specInv A5 c5 l y w R0.out Hy Ip hN).mono ?_
  rintro e w3 ⟨A3, c3, rfl, s3, b3⟩
  have R3 : Hid (RI w3 w3.heap.size A3 (invL (gs.getD j []) (gs.getD j []).length)) := Lib.hid (by rw [Ey.out, Hy.out]; exact s3.ri_)
  have B3 := Lib.hid b3
  clear s3 b3
  go_wp2
  go_ret
  exact ⟨_, _, rfl, R3.out, B3.out⟩
/-- letterPermutation. -/
theorem specLtP (l : Int) (A : Option Addr) (n c N : Nat) (vs : List SV) (gs : List (List Int)) (w : World) (hx : RR w w.heap.size A n vs gs) (ok : Hid (∀ g ∈ gs, IsP g ∧ g.length = N)) (hN : N ≤ 20) (hl : LtG gs l) (hn : n ≤ 8) :
    Calls Try.prog 84 #[.slice A n c, .int .i64 l] w fun e w' => ∃ A' c', e = .returned (.slice A' N c') ∧ RI w' w'.heap.size A' (ltM gs l) ∧ Below w.heap.size w w' := by
  have hlx := hx.lx
  obtain ⟨h0, h1, h2⟩ := hl
  unfold ltM
  by_cases h : l < 0
  · rw [if_pos h]
    have e : l = -((((-l - 1).toNat : Nat) : Int) + 1) := by omega
    have := specLtNeg (-l - 1).toNat A n c N vs gs w hx ok hN (by omega) hn
    rw [← e] at this
    exact this
  · rw [if_neg h]
    have e : l = (((l - 1).toNat : Nat) : Int) + 1 := by omega
    have := specLtPos (l - 1).toNat A n c N vs gs w hx ok (by omega) hn
    rw [← e] at this
    exact this

set_option maxHeartbeats 2000000 in
set_option maxRecDepth 100000 in
/-- evaluate. -/
theorem specEvW (N m mc n c : Nat) (G A : Option Addr) (vs : List SV) (gs : List (List Int)) (wd : List Int) (w : World) (hg : RR w w.heap.size G m vs gs) (hx : RI w w.heap.size A wd) (lx : Hid (wd.length = n)) (ok : Hid (∀ g ∈ gs, Pn N g)) (hw : Hid (∀ l ∈ wd, LtG gs l)) (h1 : 1 ≤ N) (h2 : N ≤ 20) (hm : m ≤ 8) (hn : n ≤ 200) :
    Calls Try.prog 51 #[.int .i64 (N : Nat), .slice G m mc, .slice A n c] w fun e w' => ∃ A' c', e = .returned (.slice A' N c') ∧ Slc w' w.heap.size A' N c' (evW N gs wd) ∧ Below w.heap.size w w' := by
  have HG := Lib.hid hg
  have HX := Lib.hid hx
  clear hg hx
  go_enter Try.func51, Try.ntmps51
  go_wp2_with fail
  refine (specIdent N w (by omega)).mono ?_
  rintro e w1 ⟨A1, c1, rfl, s1, b1⟩
  have S1 := Lib.hid s1
  have B1 := Lib.hid b1
  clear s1 b1
  go_wp2_with fail
  go_loopw [7, 8] (fun pv iv wr => ∃ (i cP : Nat) (P : Option Addr), i ≤ n ∧ iv = .int .i64 (i : Nat) ∧ pv = .slice P N cP ∧ Slc wr w.heap.size P N cP (evW N gs (wd.take i)) ∧ Below w.heap.size w wr) (fun _ iv _ => n - (intOf iv).toNat)
  case atStart => exact ⟨0, c1, A1, Nat.zero_le _, rfl, rfl, S1.out, B1.out⟩
  case round =>
    clear S1 B1
    obtain ⟨i, cP, P, hi, rfl, rfl, hs, bel⟩ := hrel
    have Sp := Lib.hid hs
    have Be := Lib.hid bel
    have hz := bel.size
    clear hs bel
    by_cases hlt : i < n
    · obtain ⟨b, off, rfl, hb, hc⟩ := (HX.out.up Be.out) (by rw [lx.out]; omega)
      have c0 := hc i (by rw [lx.out]; exact hlt)
      obtain ⟨l, el⟩ : ∃ l, wd.getD i 0 = l := ⟨_, rfl⟩
      rw [el] at c0
      have hl : LtG gs l := hw.out l (by rw [← el, List.getD_eq_getElem?_getD, List.getElem?_eq_getElem (by rw [lx.out]; exact hlt)]; exact List.getElem_mem _)
      have Hl := Lib.hid hl
      have Tk : Hid (evW N gs (wd.take (i + 1)) = compL (evW N gs (wd.take i)) (ltM gs l)) := Lib.hid (by rw [evW_take (by rw [lx.out]; exact hlt), el])
      have Pp : Hid (Pn N (evW N gs (wd.take i))) := Lib.hid (evW_pn ok.out h1 h2 fun x hx => hw.out x (List.mem_of_mem_take hx))
      have Pl : Hid (Pn N (ltM gs l)) := Lib.hid (ltM_pn ok.out hl)
      have OkI : Hid (∀ g ∈ gs, IsP g ∧ g.length = N) := Lib.hid ok.out
      have p0 : (0 : Int) ≤ i := by omega
      have p1 : (i : Int) < n := by omega
      clear el hc hb hl
      go_wp2_with fail
      refine (specLtP l G m mc N vs gs wr (HG.out.up Be.out) OkI h2 Hl.out hm).mono ?_
      rintro e w2 ⟨A2, c2, rfl, r2, b2⟩
      have R2 := Lib.hid r2
      have Sp2 := Lib.hid (Sp.out.up b2)
      have Be2 : Hid (Below w.heap.size w w2) := Lib.hid (btr Be.out b2)
      have hz2 := b2.size
      clear r2 b2 Sp
      go_wp2_with fail
      refine (specComp P A2 cP c2 N _ _ w2 Sp2.out.ri_ R2.out (Lib.hid Pp.out.2) (Lib.hid Pl.out.2) (Lib.hid Pp.out.1) h2).mono ?_
      rintro e w3 ⟨A3, c3, rfl, s3, b3⟩
      have S3 : Hid (Slc w3 w.heap.size A3 N c3 (evW N gs (wd.take (i + 1)))) := Lib.hid (by rw [Tk.out]; exact s3.mono (by omega))
      have B3 : Hid (Below w.heap.size w w3) := Lib.hid (btr Be2.out b3)
      clear s3 b3
      go_wp2_with fail
      go_roundw
      case rel => exact ⟨i + 1, c3, A3, by omega, by go_num, rfl, S3.out, B3.out⟩
      case measure => simp [intOf]; omega
    · obtain rfl : i = n := by omega
      have Fin : Hid (Slc wr w.heap.size P N cP (evW N gs wd)) := Lib.hid (by have := Sp.out; rwa [List.take_of_length_le (by rw [lx.out]; exact Nat.le_refl _)] at this)
      go_wp2_with fail
      go_ret
      exact ⟨P, cP, rfl, Fin.out, Be.out⟩

/-- What EvaluateWord answers. -/
def evB (a : Int) (gs : List (List Int)) (wd : List Int) : Bool := gB a gs && vW (gs.length : Int) wd
def evF (a : Int) (gs : List (List Int)) (wd : List Int) : List Int := if evB a gs wd = true then evW a.toNat gs wd else []
theorem evF_len {a : Int} {gs : List (List Int)} {wd : List Int} : (evF a gs wd).length ≤ 20 := by
  unfold evF
  split
  · rename_i h
    unfold evB at h
    rw [Bool.and_eq_true] at h
    obtain ⟨N, rfl, h1, h2, _, _, ok⟩ := gB_pm h.1
    rw [Int.toNat_natCast, (evW_pn (N := N) ok h1 h2 (vW_ltg h.2)).2]; exact h2
  · simp

abbrev IsEvw (a : Int) (gs : List (List Int)) (wd out : List Int) (ok : Bool) : Prop := out = evF a gs wd ∧ ok = evB a gs wd
theorem IsEvw.uniq {a : Int} {gs : List (List Int)} {wd o o' : List Int} {b b' : Bool} (h : IsEvw a gs wd o b) (k : IsEvw a gs wd o' b') : o = o' ∧ b = b' := ⟨h.1.trans k.1.symm, h.2.trans k.2.symm⟩
theorem IsEvw.len {a : Int} {gs : List (List Int)} {wd o : List Int} {b : Bool} (h : IsEvw a gs wd o b) : o.length ≤ 20 := by rw [h.1]; exact evF_len

end Go.Proofs.Ytkjokchhffjidaa

/- Puzzles: names, validity, what their functions answer. No condition. -/
namespace Go.Proofs.Ytkjokchhffjidaa
open Go.RowKit

/-- A byte of a text, as a number. -/
def byt (s : ByteArray) (i : Nat) : Nat := (s.data.toList.getD i 0).toNat
theorem byt_eq (s : ByteArray) {i : Nat} (h : i < s.size) : (s[i]).toNat = byt s i := by
  unfold byt
  rw [List.getD_eq_getElem?_getD, List.getElem?_eq_getElem (by simpa using h)]; rfl
theorem byt_le (s : ByteArray) (i : Nat) : byt s i ≤ 255 := by
  unfold byt; have := (s.data.toList.getD i 0).toNat_lt; omega
/-- The i-th name is a capital letter that none before it is. -/
def nm1B (s : ByteArray) (i : Nat) : Bool := decide (65 ≤ byt s i ∧ byt s i ≤ 90 ∧ ∀ k, k < i → byt s k ≠ byt s i)
def nmB (s : ByteArray) : Bool := decide (∀ i, i < s.size → nm1B s i = true)
def pzB (z : Int) (s : ByteArray) (gs : List (List Int)) : Bool := decide (1 ≤ gs.length ∧ s.size = gs.length) && gB z gs && nmB s
theorem nm1B_iff {s : ByteArray} {i : Nat} : nm1B s i = true ↔ 65 ≤ byt s i ∧ byt s i ≤ 90 ∧ ∀ k, k < i → byt s k ≠ byt s i := by unfold nm1B; rw [decide_eq_true_eq]
theorem nmB_iff {s : ByteArray} : nmB s = true ↔ ∀ i, i < s.size → nm1B s i = true := by unfold nmB; rw [decide_eq_true_eq]
theorem pzB_iff {z : Int} {s : ByteArray} {gs : List (List Int)} : pzB z s gs = true ↔ 1 ≤ gs.length ∧ s.size = gs.length ∧ gB z gs = true ∧ nmB s = true := by
  unfold pzB
  rw [Bool.and_eq_true, Bool.and_eq_true, decide_eq_true_eq]
  exact ⟨fun ⟨⟨⟨a, b⟩, c⟩, d⟩ => ⟨a, b, c, d⟩, fun ⟨a, b, c, d⟩ => ⟨⟨⟨a, b⟩, c⟩, d⟩⟩
theorem nmB_bad {s : ByteArray} {i : Nat} (hi : i < s.size) (h : nm1B s i = false) : nmB s = false := by
  rcases e : nmB s with _ | _
  · rfl
  · have := nmB_iff.1 e i hi
    rw [h] at this; cases this
/-- A state of a puzzle. -/
def stB (z : Int) (s : ByteArray) (gs : List (List Int)) (x : List Int) : Bool := pzB z s gs && (decide ((x.length : Int) = z) && isP x)
/-- ApplyWord, IsSolved. -/
def apB (z : Int) (s : ByteArray) (gs : List (List Int)) (x wd : List Int) : Bool := stB z s gs x && vW (gs.length : Int) wd
def apF (z : Int) (s : ByteArray) (gs : List (List Int)) (x wd : List Int) : List Int := if apB z s gs x wd = true then compL x (evW z.toNat gs wd) else []
def slB (z : Int) (s : ByteArray) (gs : List (List Int)) (x : List Int) : Bool := stB z s gs x && decide (x = idL z.toNat)
/-- The first name that is nm. -/
def mvI (s nm : ByteArray) : Option Nat := (List.range s.size).find? fun i => decide (nm.size = 1 ∧ byt nm 0 = byt s i)
def mvF (z : Int) (s : ByteArray) (gs : List (List Int)) (nm : ByteArray) : Int := if pzB z s gs = true then (match mvI s nm with | some i => (i : Int) | none => -1) else -1
theorem stB_iff {z : Int} {s : ByteArray} {gs : List (List Int)} {x : List Int} : stB z s gs x = true ↔ pzB z s gs = true ∧ (x.length : Int) = z ∧ IsP x := by
  unfold stB
  rw [Bool.and_eq_true, Bool.and_eq_true, decide_eq_true_eq, isP_iff]
theorem mvI_some {s nm : ByteArray} {i : Nat} (hi : i < s.size) (h : nm.size = 1 ∧ byt nm 0 = byt s i) (hn : ∀ j, j < i → ¬ (nm.size = 1 ∧ byt nm 0 = byt s j)) : mvI s nm = some i := by
  unfold mvI
  rw [List.find?_eq_some_iff_getElem]
  exact ⟨decide_eq_true h, i, by simpa using hi, by simp, fun j hj => by rw [List.getElem_range, decide_eq_false (hn j hj)]; rfl⟩
theorem mvI_none {s nm : ByteArray} (hn : ∀ j, j < s.size → ¬ (nm.size = 1 ∧ byt nm 0 = byt s j)) : mvI s nm = none := by
  unfold mvI
  rw [List.find?_eq_none]
  intro j hj
  simpa using hn j (by simpa using hj)
end Go.Proofs.Ytkjokchhffjidaa

/- The model's puzzles: names, IsValidPuzzle. Conditions: at most 1048576 moves, points each, names. -/
namespace Go.Proofs.Ytkjokchhffjidaa
open Go.RowKit

/-- A puzzle that can be read. -/
structure PIn (w : World) (z : Int) (s : ByteArray) (A : Option Addr) (n : Nat) (vs : List SV) (gs : List (List Int)) : Prop where
  g : GIn w A n vs gs
  z : I64 z
  s : s.size ≤ 1048576
theorem PIn.up {w w' : World} {z : Int} {s : ByteArray} {A : Option Addr} {n : Nat} {vs : List SV} {gs : List (List Int)} (h : PIn w z s A n vs gs) (hb : Below w.heap.size w w') : PIn w' z s A n vs gs := ⟨h.g.up hb, h.z, h.s⟩

set_option maxHeartbeats 1600000 in
set_option maxRecDepth 100000 in
/-- isMoveName. -/
theorem specMoveName (s : ByteArray) (i : Nat) (w : World) (hi : i < s.size) (hs : s.size ≤ 1048576) :
    Calls Try.prog 65 #[.string s, .int .i64 (i : Nat)] w fun e w' => e = .returned (.bool (nm1B s i)) ∧ ∃ q, w' = w.drewN q := by
  have p0 : (0 : Int) ≤ i := by omega
  have p1 : (i : Int) < s.size := by omega
  have eb := byt_eq s hi
  obtain ⟨b, ebb⟩ : ∃ b, byt s i = b := ⟨_, rfl⟩
  rw [ebb] at eb
  have E : Hid (nm1B s i = decide (65 ≤ b ∧ b ≤ 90 ∧ ∀ k, k < i → byt s k ≠ b)) := Lib.hid (by unfold nm1B; rw [ebb])
  clear ebb
  by_cases h1 : 65 ≤ b
  · have d1 : decide ((b : Int) < 65) = false := by simp; omega
    by_cases h2 : b ≤ 90
    · have d2 : decide ((90 : Int) < (b : Int)) = false := by simp; omega
      go_enter Try.func65, Try.ntmps65
      go_wp2_with fail
      go_loopw [5] (fun kv wr => ∃ k : Nat, k ≤ i ∧ kv = .int .i64 (k : Nat) ∧ (∀ j, j < k → byt s j ≠ b) ∧ ∃ q, wr = w.drewN q) (fun kv _ => i - (intOf kv).toNat)
      case atStart => exact ⟨0, Nat.zero_le _, rfl, fun j h => absurd h (Nat.not_lt_zero _), 0, rfl⟩
      case round =>
        obtain ⟨k, hk, rfl, hno, q, rfl⟩ := hrel
        have Hno := Lib.hid hno
        clear hno
        by_cases hlt : k < i
        · have p2 : (0 : Int) ≤ k := by omega
          have p3 : (k : Int) < i := by omega
          have p4 : (k : Int) < s.size := by omega
          have hks : k < s.size := by omega
          have ec := byt_eq s hks
          obtain ⟨c, ecc⟩ : ∃ c, byt s k = c := ⟨_, rfl⟩
          rw [ecc] at ec
          have Ec := Lib.hid ecc
          clear ecc
          by_cases hcb : c = b
          · have de : ((c : Int) == (b : Int)) = true := by rw [beq_iff_eq]; omega
            have Fin : Hid (nm1B s i = false) := Lib.hid (by rw [E.out, decide_eq_false_iff_not]; intro h; exact h.2.2 k hlt (by rw [Ec.out]; exact hcb))
            clear hcb
            go_wp2_with fail
            go_quiet (fail)
            go_wp2_with fail
            go_ret
            exact ⟨ret_bool Fin.out.symm, _, World.drewN_drewN _ _ _⟩
          · have de : ((c : Int) == (b : Int)) = false := by rw [beq_eq_false_iff_ne]; omega
            have Nx : Hid (byt s k ≠ b) := Lib.hid (by rw [Ec.out]; exact hcb)
            clear hcb
            go_wp2_with fail
            go_quiet (fail)
            go_wp2_with fail
            go_roundw
            case rel => exact ⟨k + 1, by omega, by go_num, fun j hj => by
              by_cases e : j = k
              · subst e; exact Nx.out
              · exact Hno.out j (by omega), _, rfl⟩
            case measure => simp [intOf]; omega
        · obtain rfl : k = i := by omega
          have Fin : Hid (nm1B s k = true) := Lib.hid (by rw [E.out]; exact decide_eq_true ⟨h1, h2, Hno.out⟩)
          go_wp2_with fail
          go_ret
          exact ⟨ret_bool Fin.out.symm, _, rfl⟩
    · have d2 : decide ((90 : Int) < (b : Int)) = true := by simp; omega
      have Fin : Hid (nm1B s i = false) := Lib.hid (by rw [E.out, decide_eq_false_iff_not]; intro h; exact h2 h.2.1)
      go_enter Try.func65, Try.ntmps65
      go_wp2_with fail
      go_ret
      exact ⟨ret_bool Fin.out.symm, 0, rfl⟩
  · have d1 : decide ((b : Int) < 65) = true := by simp; omega
    have Fin : Hid (nm1B s i = false) := Lib.hid (by rw [E.out, decide_eq_false_iff_not]; intro h; exact h1 h.1)
    go_enter Try.func65, Try.ntmps65
    go_wp2_with fail
    go_ret
    exact ⟨ret_bool Fin.out.symm, 0, rfl⟩

set_option maxHeartbeats 1600000 in
set_option maxRecDepth 100000 in
/-- IsValidPuzzle. -/
theorem specIsValidPuzzle (z : Int) (s : ByteArray) (A : Option Addr) (n c : Nat) (vs : List SV) (gs : List (List Int)) (w : World) (h : PIn w z s A n vs gs) :
    Calls Try.prog 25 #[.agg #[.int .i64 z, .string s, .slice A n c]] w fun e w' => e = .returned (.bool (pzB z s gs)) ∧ Below w.heap.size w w' := by
  have hlx : Hid (gs.length = n) := Lib.hid h.g.rr.lx
  have H := Lib.hid h
  have hs := h.s
  have bV : Hid (Blk (w.alloc (.cells #[.int .i64 z, .string s, .slice A n c] 26)) w.heap.size 26 #[.int .i64 z, .string s, .slice A n c]) := Lib.hid (Blk.new w _ _)
  have BV : Hid (Below w.heap.size w (w.alloc (.cells #[.int .i64 z, .string s, .slice A n c] 26))) := Lib.hid ((Below.refl _ w).alloc (Nat.le_refl _) _)
  have HV := Lib.hid (h.up BV.out)
  clear h
  by_cases hn0 : n = 0
  · have d0 : ((n : Int) == 0) = true := by rw [beq_iff_eq]; omega
    have Fin : Hid (pzB z s gs = false) := Lib.hid (by
      rcases e : pzB z s gs with _ | _
      · rfl
      · have := (pzB_iff.1 e).1; have := hlx.out; omega)
    go_enter Try.func25, Try.ntmps25
    go_wp2_with fail
    go_ret
    exact ⟨ret_bool Fin.out.symm, (Below.refl _ w).alloc (Nat.le_refl _) _⟩
  · have d0 : ((n : Int) == 0) = false := by rw [beq_eq_false_iff_ne]; omega
    by_cases hsn : s.size = n
    · have d1 : ((s.size : Int) != (n : Int)) = false := by rw [bne_eq_false_iff_eq]; omega
      have K := specGS z A n c vs gs _ HV.out.g.rr HV.out.g.hn (Lib.hid HV.out.g.hl) H.out.z
      rcases hg : gB z gs with _ | _
      · have Fin : Hid (pzB z s gs = false) := Lib.hid (by unfold pzB; rw [hg]; simp)
        rw [hg] at K
        go_enter Try.func25, Try.ntmps25
        go_wp2_with fail
        refine K.mono ?_
        rintro e w1 ⟨rfl, b1⟩
        have B1 : Hid (Below w.heap.size w w1) := Lib.hid (btr BV.out b1)
        clear K b1
        go_wp2_with fail
        go_ret
        exact ⟨ret_bool Fin.out.symm, B1.out⟩
      · rw [hg] at K
        have Ok : Hid (nmB s = true → pzB z s gs = true) := Lib.hid fun hm => pzB_iff.2 ⟨by have := hlx.out; omega, by rw [hlx.out]; exact hsn, hg, hm⟩
        have No : Hid (nmB s = false → pzB z s gs = false) := Lib.hid fun hm => by unfold pzB; rw [hm, Bool.and_false]
        clear hg
        go_enter Try.func25, Try.ntmps25
        go_wp2_with fail
        refine K.mono ?_
        rintro e w1 ⟨rfl, b1⟩
        have B1 : Hid (Below w.heap.size w w1) := Lib.hid (btr BV.out b1)
        have bx1 : Hid (Blk w1 w.heap.size 26 #[.int .i64 z, .string s, .slice A n c]) := Lib.hid (bV.out.below b1 bV.out.lt)
        clear K b1
        go_wp2_with fail
        go_loopw [3] (fun iv wr => ∃ i : Nat, i ≤ s.size ∧ iv = .int .i64 (i : Nat) ∧ (∀ j, j < i → nm1B s j = true) ∧ ∃ q, wr = w1.drewN q) (fun iv _ => s.size - (intOf iv).toNat)
        case atStart => exact ⟨0, Nat.zero_le _, rfl, fun j h => absurd h (Nat.not_lt_zero _), 0, rfl⟩
        case round =>
          obtain ⟨i, hi, rfl, hok, q, rfl⟩ := hrel
          have Hok := Lib.hid hok
          clear hok
          have e1 : (w1.drewN q).cell? ⟨w.heap.size, 1, none⟩ = some (.string s) := bx1.out.cell 1
          by_cases hlt : i < s.size
          · have K2 := specMoveName s i (w1.drewN q) hlt hs
            rcases hm : nm1B s i with _ | _
            · have Fin : Hid (pzB z s gs = false) := Lib.hid (No.out (nmB_bad hlt hm))
              rw [hm] at K2
              have Be : Hid (∀ q2, Below w.heap.size w (w1.drewN q2)) := Lib.hid fun q2 => below_drewN B1.out _
              go_wp2_with fail
              refine K2.mono ?_
              rintro e w2 ⟨rfl, q2, rfl⟩
              clear K2
              go_wp2_with fail
              go_ret
              exact ⟨ret_bool Fin.out.symm, Be.out _⟩
            · rw [hm] at K2
              have Nx := Lib.hid hm
              go_wp2_with fail
              refine K2.mono ?_
              rintro e w2 ⟨rfl, q2, rfl⟩
              clear K2
              go_wp2_with fail
              go_roundw
              case rel => exact ⟨i + 1, by omega, by go_num, fun j hj => by
                by_cases e : j = i
                · subst e; exact Nx.out
                · exact Hok.out j (by omega), _, rfl⟩
              case measure => simp [intOf]; omega
          · obtain hie : i = s.size := by omega
            subst hie
            have Fin : Hid (pzB z s gs = true) := Lib.hid (Ok.out (nmB_iff.2 Hok.out))
            have Be : Hid (Below w.heap.size w (w1.drewN q)) := Lib.hid (below_drewN B1.out q)
            go_wp2_with fail
            go_ret
            exact ⟨ret_bool Fin.out.symm, Be.out⟩
    · have d1 : ((s.size : Int) != (n : Int)) = true := by rw [bne_iff_ne]; omega
      have Fin : Hid (pzB z s gs = false) := Lib.hid (by
        rcases e : pzB z s gs with _ | _
        · rfl
        · have := (pzB_iff.1 e).2.1; have := hlx.out; omega)
      go_enter Try.func25, Try.ntmps25
      go_wp2_with fail
      go_ret
      exact ⟨ret_bool Fin.out.symm, BV.out⟩
end Go.Proofs.Ytkjokchhffjidaa

/- The size of a slice of slices against whatever is left. No condition. -/
namespace Go.Proofs.Ytkjokchhffjidaa
open Go.RowKit

set_option maxHeartbeats 1000000 in
theorem szSS2 (A : Option Addr) (n c : Nat) (left : Int) (vs : List SV) (xss : List (List Int)) (w : World) (hx : RR w w.heap.size A n vs xss) (hn : n ≤ maxLen) (hl : Hid (∀ i, i < n → (vs.getD i sd0).2.1 ≤ maxLen)) (h0 : 0 ≤ left) (h1 : left ≤ 1048576) :
    Calls Try.prog 63 #[.slice A n c, .int .i64 left] w fun e w' => e = .returned (.int .i64 (if ((n + tot vs n : Nat) : Int) ≤ left then left - ((n + tot vs n : Nat) : Int) else -1)) ∧ w = w' := by
  have HX := Lib.hid hx
  clear hx
  have hn' := hn
  unfold maxLen at hn'
  obtain ⟨r, er⟩ : ∃ r : Int, (if ((n + tot vs n : Nat) : Int) ≤ left then left - ((n + tot vs n : Nat) : Int) else -1) = r := ⟨_, rfl⟩
  rw [er]
  have Er := Lib.hid er
  clear er
  by_cases h : (n : Int) ≤ left
  · have d : decide (left - (n : Int) < 0) = false := by simp; omega
    have hwl : IntKind.i64.wrap (left - (n : Int)) = left - (n : Int) := by rw [IntKind.wrap_i64]; omega
    go_enter Try.func63, Try.ntmps63
    go_wp2
    go_loop [1, 5] (fun v i => ∃ (k T : Nat), k ≤ n ∧ Hid (tot vs k = T) ∧ ((n + T : Nat) : Int) ≤ left ∧ i = .int .i64 (k : Nat) ∧ v = .int .i64 (left - ((n + T : Nat) : Int))) (fun _ i => n - (intOf i).toNat)
    case atStart => exact ⟨0, 0, Nat.zero_le _, Lib.hid rfl, by omega, rfl, by go_num⟩
    case round =>
      obtain ⟨k, T, hk, hT, hT1, rfl, rfl⟩ := hrel
      clear hwl
      by_cases hlt : k < n
      · obtain ⟨b, off, A5, l, c5, y, rfl, hb, ev, ey, hc, hr, hy, hlc⟩ := HX.out.at_ hlt
        have hl1 := hl.out k hlt
        have hT2 : Hid (tot vs (k + 1) = T + l) := Lib.hid (by rw [tot_succ, hT.out, ev])
        have hm : Hid (tot vs (k + 1) ≤ tot vs n) := Lib.hid (tot_mono hlt)
        rw [ev] at hl1
        clear ev ey hr
        by_cases hfit : ((n + T + l : Nat) : Int) ≤ left
        · have d2 : decide (left - ((n + T : Nat) : Int) - (l : Int) < 0) = false := by simp; omega
          go_wp2_with fail
          refine (szS A5 l c5 _ w (by omega) (by omega) hl1).mono ?_
          rintro e w1 ⟨rfl, rfl⟩
          rw [if_pos (by omega)]
          go_wp2
          go_round
          case rel => exact ⟨k + 1, T + l, by omega, hT2, by omega, by go_num, by go_num⟩
          case measure => simp [intOf]; omega
        · go_wp2_with fail
          refine (szS A5 l c5 _ w (by omega) (by omega) hl1).mono ?_
          rintro e w1 ⟨rfl, rfl⟩
          rw [if_neg (by omega)]
          go_wp2
          go_ret
          exact ⟨by rw [← Er.out, if_neg (by have := hm.out; rw [hT2.out] at this; omega)]; rfl, rfl⟩
      · have hkn : k = n := by omega
        subst hkn
        go_wp2
        go_ret
        exact ⟨by rw [← Er.out, hT.out, if_pos hT1]; go_num, rfl⟩
  · have d : decide (left - (n : Int) < 0) = true := by simp; omega
    have er2 : r = -1 := by rw [← Er.out, if_neg (by omega)]
    have hwl : IntKind.i64.wrap (left - (n : Int)) = left - (n : Int) := by rw [IntKind.wrap_i64]; omega
    subst er2
    go_enter Try.func63, Try.ntmps63
    go_wp2
    go_ret
    exact ⟨rfl, rfl⟩
end Go.Proofs.Ytkjokchhffjidaa

/- Slices of slices where a row elsewhere has turned. No condition. -/
namespace Go.Proofs.Ytkjokchhffjidaa
open Go.RowKit

theorem SS.farM {w w' : World} {bo bi n c n' c' : Nat} {A A' : Option Addr} {vs : List SV} {xss : List (List Int)} (h : SS w bo bi A n c vs xss) (hg : w.grownBy w' (Value.slice A' n' c').ownBlock)
    (hd : ∀ k, (Value.slice A n c).ownBlock = some k → (Value.slice A' n' c').ownBlock = some k → False)
    (hd2 : ∀ s, s < n → ∀ k, (sval (vs.getD s sd0)).ownBlock = some k → (Value.slice A' n' c').ownBlock = some k → False) : SS w' bo bi A n c vs xss := by
  have ap : ∀ v : Value, (∀ k, v.ownBlock = some k → (Value.slice A' n' c').ownBlock = some k → False) → v.ownBlock = none ∨ v.ownBlock ≠ (Value.slice A' n' c').ownBlock := fun v hv => by
    rcases e : v.ownBlock with _ | k
    · exact .inl rfl
    · exact .inr fun e2 => hv k e e2.symm
  refine ⟨h.own.kept hg (ap _ hd), h.lv, h.lx, fun i hi => (h.row i hi).kept hg (ap _ (hd2 i hi)), h.dis⟩
end Go.Proofs.Ytkjokchhffjidaa
