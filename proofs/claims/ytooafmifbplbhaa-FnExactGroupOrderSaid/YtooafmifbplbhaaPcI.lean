/- The program's include: one product is taken as a mover or divided away. Conditions: at most 20 points; the chain whole above the link; add one link on keeps its contract. -/
import Derived.Test.YtooafmifbplbhaaPcW
import Derived.Maps.AppendAt
import Derived.Deep.RegionHeld3
namespace Go.Proofs.Ytooafmifbplbhaa
open Go.RowKit

/-- append of one number onto a row of the call's own, and where the new row lies. -/
theorem wpList_appI {w : World} {ops : Array Oper} {rest : List Oper} {o : Oper} {a : Act} {Q : Exit → Act → World → Prop} (hgd : o.guard = none) (s x : Operand)
    (ho : o.op = .call { callee := .builtin .append, args := #[s, x], argTypes := #[25, 25] })
    (base : Nat) (A : Option Addr) (n c : Nat) (xs : List Int) (hs : a.eval s = .slice A n c) (hown : Slc w base A n c xs) (g : Nat) (u : Int) (hx : a.eval x = .slice (some ⟨g, 0, none⟩) 1 1)
    (hcell : w.cell? ⟨g, 0, none⟩ = some (.int .i64 u)) (hn : n ≤ 1000000000) (hbase : base ≤ w.heap.size)
    (h : ∀ A' c' w', Slc w' base A' (n + 1) c' (xs ++ [u]) → w.grownBy w' (Value.slice A n c).ownBlock → ((Value.slice A' (n + 1) c').ownBlock = (Value.slice A n c).ownBlock ∨ (Value.slice A' (n + 1) c').ownBlock = some w.heap.size) → wpList Try.prog ops Q rest (a.put o.dst (.slice A' (n + 1) c')) w') : wpList Try.prog ops Q (o :: rest) a w := by
  obtain ⟨i0, hi, hz0, hz1, hz2⟩ := info_parts infoI
  obtain ⟨hl, ho'⟩ := hown
  subst hl
  refine wpList_append_own_at w hgd s x 25 ho base 2 i0 (.int .i64 0) 1 8 Try.underlying25 hi hz0 hz1 hz2 rfl (by decide) _ xs.length _ hs ho' ⟨g, 0, none⟩ 1 1 [.int .i64 u] hx rfl ?_ ?_ ?_ (by omega) hbase ?_
  · intro j v hj
    match j, hj with
    | 0, hj => simp at hj; subst hj; simpa [Addr.add] using hcell
    | j + 1, hj => simp at hj
  · intro v hv; simp at hv; subst hv; rfl
  · unfold maxLen; omega
  · intro v' w' hown' hg _ hat
    have hO : Own w' base v' (xs ++ [u]) := by
      unfold Own
      rw [List.length_append, List.map_append]
      exact hown'
    obtain ⟨A', c', rfl, hS⟩ := Slc.of_own (n := xs.length + 1) hO (by simp)
    exact h A' c' w' hS hg hat
theorem infoP : (Try.prog.info? 53).map (fun i => (i.zero, i.size, i.bytes)) = some (some (.slice none 0 0), 1, 24) := by kernel_rfl
/-- append of one permutation. -/
theorem wpList_appP {w : World} {ops : Array Oper} {rest : List Oper} {o : Oper} {a : Act} {Q : Exit → Act → World → Prop} (hgd : o.guard = none) (s x : Operand)
    (ho : o.op = .call { callee := .builtin .append, args := #[s, x], argTypes := #[56, 56] })
    (base : Nat) (v : Value) (n : Nat) (xs : List Value) (hs : a.eval s = v) (hown : w.ownsRow base 53 1 v n xs) (g : Nat) (d : SV) (hx : a.eval x = .slice (some ⟨g, 0, none⟩) 1 1)
    (hcell : w.cell? ⟨g, 0, none⟩ = some (sval d)) (hn : n ≤ 1000000000) (hbase : base ≤ w.heap.size)
    (h : ∀ A' c' w', w'.ownsRow base 53 1 (.slice A' (n + 1) c') (n + 1) (xs ++ [sval d]) → w.grownBy w' v.ownBlock → ((Value.slice A' (n + 1) c').ownBlock = v.ownBlock ∨ (Value.slice A' (n + 1) c').ownBlock = some w.heap.size) → wpList Try.prog ops Q rest (a.put o.dst (.slice A' (n + 1) c')) w') : wpList Try.prog ops Q (o :: rest) a w := by
  obtain ⟨i0, hi, hz0, hz1, hz2⟩ := info_parts infoP
  refine wpList_append_own_at w hgd s x 56 ho base 53 i0 (.slice none 0 0) 1 24 Try.underlying56 hi hz0 hz1 hz2 rfl (by decide) v n xs hs hown ⟨g, 0, none⟩ 1 1 [sval d] hx rfl ?_ ?_ ?_ (by omega) hbase ?_
  · intro j u hj
    match j, hj with
    | 0, hj => simp at hj; subst hj; simpa [Addr.add] using hcell
    | j + 1, hj => simp at hj
  · intro u hu; simp at hu; subst hu; rfl
  · unfold maxLen; omega
  · intro v' w' hown' hg _ hat
    have hform : ∃ A' c', v' = .slice A' (n + 1) c' := by
      rcases hown'.2 with ⟨rfl, h0⟩ | ⟨g', cap, cur, rfl, _⟩
      · omega
      · exact ⟨_, _, rfl⟩
    obtain ⟨A', c', rfl⟩ := hform
    exact h A' c' w' hown' hg hat

theorem cells_gw {w w' : World} {base N k : Nat} {M M' : Nat → Prop} {c : Ch} {L L' : Nat → LK} (g : Gw w w' N (k + 1) L L' M M') (h : Ck w base N k M c L) (hk : k < N) (b j : Nat) (hb : b = (L k).B ∨ b = (L k).mb) : w'.cell? ⟨b, j, none⟩ = w.cell? ⟨b, j, none⟩ := by
  have ht : ∃ t, t < 4 ∧ mu (L k) t = some b := by
    rcases hb with rfl | rfl
    · exact ⟨0, by decide, rfl⟩
    · exact ⟨3, by decide, rfl⟩
  obtain ⟨t, ht4, ht⟩ := ht
  refine World.cell?_of_block (g.chg.block b (h.mlt b (h.mm k t b (Nat.le_refl _) hk ht4 ht)).2 fun ⟨i, t', a1, a2, a3, e'⟩ => ?_)
  have := (h.dis k t i t' b (Nat.le_refl _) hk ht4 (by omega) a2 a3 ht e').1
  omega
/-- What add keeps at link k. -/
def ADs (base N k : Nat) : Prop := ∀ (M : Nat → Prop) (c : Ch) (L : Nat → LK) (A : Option Addr) (cp : Nat) (p : List Int) (w : World), Ck w base N k M c L → Orbs N k c L → Rd w M (A, N, cp) p → Pn N p → Fx k p → UpTo N c k →
  Calls Try.prog 79 #[.pointer (some ⟨(L k).B, 0, none⟩), .slice A N cp] w fun e w' => ∃ (c' : Ch) (L' : Nat → LK) (M' : Nat → Prop), e = .returned (.tuple #[]) ∧ Ck w' base N k M' c' L' ∧ Orbs N k c' L' ∧ Gw w w' N k L L' M M' ∧ Ap N k c c' p
/-- What include keeps at link k. -/
def INs (base N k : Nat) : Prop := ∀ (M : Nat → Prop) (c : Ch) (L : Nat → LK) (A : Option Addr) (cp : Nat) (q : List Int) (w : World), Ck w base N k M c L → Orbs N k c L → Rd w M (A, N, cp) q → Low N c k → Mb (c.gen k) N q →
  Calls Try.prog 100 #[.pointer (some ⟨(L k).B, 0, none⟩), .slice A N cp] w fun e w' => ∃ (c' : Ch) (L' : Nat → LK) (M' : Nat → Prop), e = .returned (.tuple #[]) ∧ Ck w' base N k M' c' L' ∧ Orbs N k c' L' ∧ Gw w w' N k L L' M M' ∧ Ic N k c c' q ∧ (L k).orb <+: (L' k).orb ∧ (L' k).g = (L k).g

set_option maxHeartbeats 4000000 in
set_option maxRecDepth 100000 in
theorem implInclude (base N k : Nat) (hkN : k + 1 < N) (h2N : N ≤ 20) (AD : ADs base N (k + 1)) : INs base N k := by
  intro M c L A cp q w hc ho hd hl hq
  have q24 : ∀ (w : World) (a : Option Addr) (n c n' c' : Nat), (binOp .eql 53 (.slice a n c) (.slice none n' c')).run Try.prog w = .ok (.bool a.isNone) w := fun w a n c n' c' => Lib.run_eql_slice_nil w _ _ a n c n' c' Try.underlying53
  have hk : k < N := by omega
  have hP := hq.pn hl.pn (by omega) h2N
  have hbs : base ≤ w.heap.size := by have := hc.mlt _ (hc.mm k 0 _ (Nat.le_refl _) hk (by decide) rfl); omega
  have HC := Lib.hid hc
  have HO := Lib.hid ho
  have HD := Lib.hid hd
  have HL := Lib.hid hl
  have HQ := Lib.hid hq
  have QP := Lib.hid hP
  obtain ⟨b, off, hA, hb, hnM, hcell⟩ := hd.at_ (by rw [hP.2]; omega)
  have hA : A = some ⟨b, off, none⟩ := hA
  subst hA
  have z1 := hcell k (by rw [hP.2]; exact hk)
  obtain ⟨y, ey⟩ : ∃ y, nx q k = y := ⟨_, rfl⟩
  have hy : y < N := by rw [← ey]; exact hP.lt hk
  rw [nx_val hP.1 (by rw [hP.2]; exact hk), ey] at z1
  have Ey := Lib.hid ey
  obtain ⟨x0, x1, x2, x3, x4⟩ := hc.cB (Nat.le_refl _) hk
  have x5 := hc.cM (Nat.le_refl _) hk hy
  have em := hc.eM (Nat.le_refl _) hk hy
  have p0 : (0 : Int) ≤ k := by omega
  have p1 : (k : Int) < N := by omega
  have p2 : (0 : Int) ≤ y := by omega
  have p3 : (y : Int) < N := by omega
  clear hc ho hd hl hq hP hb hnM hcell ey
  by_cases hz : c.rep k y = []
  · have Hz := Lib.hid hz
    rw [em.1 hz] at x5
    simp only [sval, sd0] at x5
    have hqne : q ≠ [] := by intro e; have := QP.out.2; rw [e] at this; simp at this; omega
    have Hqn := Lib.hid hqne
    have fz := (HC.out.lk k (Nat.le_refl _) hk).mown.frozenAt y
    obtain ⟨S1, G1⟩ := HC.out.store hk hy HD.out hqne
    have hx2 : w.setCell ⟨(L k).mb, y, none⟩ (.slice (some ⟨b, off, none⟩) N cp) = w.setCell ⟨(L k).mb, y, none⟩ (sval (some ⟨b, off, none⟩, N, cp)) := rfl
    rw [← hx2] at S1 G1
    obtain ⟨L1, hL1⟩ : ∃ L1, upd L k { L k with en := (L k).en.set y (some ⟨b, off, none⟩, N, cp) } = L1 := ⟨_, rfl⟩
    have e1 : L1 k = { L k with en := (L k).en.set y (some ⟨b, off, none⟩, N, cp) } := by rw [← hL1, upd_at]
    have e1n : ∀ i, i ≠ k → L1 i = L i := fun i hi => by rw [← hL1, upd_ne hi]
    rw [hL1] at S1 G1
    have E1 := Lib.hid e1
    have E1n := Lib.hid e1n
    have C1 := Lib.hid S1
    have Gw1 := Lib.hid G1
    obtain ⟨y0, y1, y2, y3, y4⟩ := S1.cB (Nat.le_refl _) hk
    have hs := (S1.lk k (Nat.le_refl _) hk).oown
    have hol := S1.olen (Nat.le_refl _) hk
    have hO20 := (HO.out k (Nat.le_refl _) hk).len HL.out.rep
    rw [e1] at y0 y1 y2 y3 hs hol
    rcases hoe : (L k).o with ⟨oA, on, oc⟩
    have hs : Slc (w.setCell ⟨(L k).mb, y, none⟩ (.slice (some ⟨b, off, none⟩) N cp)) base (L k).o.1 (L k).o.2.1 (L k).o.2.2 (ofP (L k).orb) := hs
    have hol : (L k).o.2.1 = (L k).orb.length := hol
    have y2 : (w.setCell ⟨(L k).mb, y, none⟩ (.slice (some ⟨b, off, none⟩) N cp)).cell? ⟨(L k).B, 2, none⟩ = some (sval (L k).o) := y2
    rw [hoe] at hs hol y2
    have hs : Slc (w.setCell ⟨(L k).mb, y, none⟩ (.slice (some ⟨b, off, none⟩) N cp)) base oA on oc (ofP (L k).orb) := hs
    have hol : on = (L k).orb.length := hol
    simp only [sval] at y2
    have Hoe := Lib.hid hoe
    have Orb0 := Lib.hid (HO.out k (Nat.le_refl _) hk)
    have hon : on ≤ 20 := by omega
    obtain ⟨wx, hwx⟩ : ∃ wx, w.setCell ⟨(L k).mb, y, none⟩ (.slice (some ⟨b, off, none⟩) N cp) = wx := ⟨_, rfl⟩
    rw [hwx] at y2 hs C1 Gw1
    have Hs := Lib.hid hs
    have Hzx : Hid (wx.heap.size = w.heap.size) := Lib.hid (by rw [← hwx]; simp)
    have Lit : Hid ((wx.alloc (.cells #[.int .i64 (y : Nat)] 2)).cell? ⟨wx.heap.size, 0, none⟩ = some (.int .i64 (y : Nat))) := Lib.hid (by rw [World.cell?_alloc_at _ _ _ _ rfl]; rfl)
    have BL : Hid (Below wx.heap.size wx (wx.alloc (.cells #[.int .i64 (y : Nat)] 2))) := Lib.hid ((Below.refl _ _).alloc (Nat.le_refl _) _)
    have PA : Hid (∀ (A4 : Option Addr) (c4 : Nat) (w4 : World), Slc w4 base A4 (on + 1) c4 (ofP (L k).orb ++ [(y : Int)]) → (wx.alloc (.cells #[.int .i64 (y : Nat)] 2)).grownBy w4 (Value.slice oA on oc).ownBlock →
        ((Value.slice A4 (on + 1) c4).ownBlock = (Value.slice oA on oc).ownBlock ∨ (Value.slice A4 (on + 1) c4).ownBlock = some (wx.alloc (.cells #[.int .i64 (y : Nat)] 2)).heap.size) →
        w4.cell? ⟨(L k).B, 2, none⟩ = some (.slice oA on oc) ∧ w4.frozen? ⟨(L k).B, 2, none⟩ = false ∧ ∃ (L' : Nat → LK) (M' : Nat → Prop), Ck (w4.setCell ⟨(L k).B, 2, none⟩ (.slice A4 (on + 1) c4)) base N k M' (c.set k y q) L' ∧ Orbs N k (c.set k y q) L' ∧ Gw w (w4.setCell ⟨(L k).B, 2, none⟩ (.slice A4 (on + 1) c4)) N k L L' M M' ∧ (L k).orb <+: (L' k).orb ∧ (L' k).g = (L k).g) := Lib.hid (by
      intro A4 c4 w4 s4 g4 hat
      have ho1 : (L1 k).o = (oA, on, oc) := by rw [E1.out]; exact Hoe.out
      have hb1 : (L1 k).orb = (L k).orb := by rw [E1.out]
      have hB1 : (L1 k).B = (L k).B := by rw [E1.out]
      have hg1 : (L1 k).g = (L k).g := by rw [E1.out]
      obtain ⟨M', K1, K2⟩ := C1.out.orbit hk BL.out (y := y) (A := A4) (n := on + 1) (cc := c4) (by rw [ho1]; exact g4) (by rw [hb1]; exact s4) (by rw [ho1]; exact hat)
      rw [hB1] at K1 K2
      have blk1 : Blk w4 (L k).B 58 #[.int .i64 (k : Nat), sval (L1 k).g, sval (L1 k).o, .slice (some ⟨(L1 k).mb, 0, none⟩) N N, ptr N L1 (k + 1)] := by
        have h0 := (C1.out.lk k (Nat.le_refl _) hk).blk
        rw [hB1] at h0
        have h1 := h0.chg (S := fun _ => False) (.of_below BL.out) (fun e => e)
        refine h1.grown g4 fun e => ?_
        have := (C1.out.dis k 0 k 2 (L k).B (Nat.le_refl _) hk (by decide) (Nat.le_refl _) hk (by decide) (by show some (L1 k).B = _; rw [hB1]) (by show (sval (L1 k).o).ownBlock = _; rw [ho1]; exact e.symm)).2
        omega
      refine ⟨by rw [blk1.cell 2, ho1]; rfl, blk1.frozen 2, _, M', K1, fun i a b => ?_, Gw1.out.trans K2, ?_, ?_⟩
      · by_cases ei : i = k
        · subst ei
          rw [upd_at]
          show Orb _ i ((L1 i).orb ++ [y])
          rw [hb1]
          exact Orb0.out.put Hz.out Hqn.out
        · rw [upd_ne ei, E1n.out i ei]
          exact (HO.out i a b).congr fun z => set_ne (.inl ei)
      · rw [upd_at]
        show (L k).orb <+: (L1 k).orb ++ [y]
        rw [hb1]; exact List.prefix_append _ _
      · rw [upd_at]; exact hg1)
    have Inc : Hid (Ic N k c (c.set k y q) q) := Lib.hid (by
      have h3 := Ic.put HL.out hk (by omega) h2N HQ.out (by rw [Ey.out]; exact hz)
      rw [Ey.out] at h3; exact h3)
    clear S1 G1 hx2 hL1 e1 e1n y0 y1 y3 y4 hs hol hO20 hoe em hz hqne
    try clear hol
    try clear hol
    go_enter Try.func100, Try.ntmps100
    go_wp2_with (first
      | (at_builtin; go_must (refine wpList_appI rfl _ _ rfl base oA on oc (ofP (L k).orb) rfl (Hs.out.alloc _) wx.heap.size (y : Int) rfl Lit.out (by omega) (by have := Hzx.out; simp; omega) ?_); intro A4 c4 w4 s4 g4 hat4; obtain ⟨v1, v2, v3⟩ := PA.out A4 c4 w4 s4 g4 hat4; have V3 := Lib.hid v3; clear s4 g4 hat4 v3))
    obtain ⟨L', M', K1, K2, K3, K4, K5⟩ := V3.out
    (try simp only [Exit.inBlock, Exit.then]); refine bodyPost_ret (results_none rfl _ _ _) rfl ?_
    exact ⟨rfl, c.set k y q, L', M', K1, K2, K3, Inc.out, K4, K5⟩
  · have hrd := em.2 hz
    rcases hde : (L k).en.getD y sd0 with ⟨dA, dn, dc⟩
    rw [hde] at x5 hrd
    obtain ⟨b2, off2, e⟩ := rd_not0 hrd hz
    have e : dA = some ⟨b2, off2, none⟩ := e
    subst e
    have RP := Lib.hid (HL.out.rep.at_ y hz).2.1
    obtain rfl : dn = N := by have h3 : (c.rep k y).length = dn := hrd.len; have := RP.out.2; omega
    have Rr : Hid (RI w w.heap.size (some ⟨b2, off2, none⟩) (c.rep k y)) := Lib.hid hrd.ri
    have Rq : Hid (RI w w.heap.size (some ⟨b, off, none⟩) q) := Lib.hid HD.out.ri
    have Rst := Lib.hid (HL.out.rest hk (by omega) h2N HQ.out (by rw [Ey.out]; exact hz))
    rw [Ey.out] at Rst
    have Hz := Lib.hid hz
    have eiv : Hid (invL (c.rep k y) dn = iv (c.rep k y)) := Lib.hid (by unfold iv; rw [RP.out.2])
    have ep : ptr dn L (k + 1) = .pointer (some ⟨(L (k + 1)).B, 0, none⟩) := if_pos hkN
    rw [ep] at x4
    have hB : (L k).B < w.heap.size := (HC.out.lk k (Nat.le_refl _) hk).blk.lt
    have hmb : (L k).mb < w.heap.size := (HC.out.mlt _ (HC.out.mm k 3 _ (Nat.le_refl _) hk (by decide) rfl)).2
    simp only [sval] at x5
    clear em hz hrd hde ep x1 x2
    go_enter Try.func100, Try.ntmps100
    go_wp2_with fail
    go_region_held3 (fun w' => w'.cell? ⟨(L k).B, 4, none⟩ = some (.pointer (some ⟨(L (k + 1)).B, 0, none⟩)) ∧ w'.cell? ⟨(L k).B, 3, none⟩ = some (.slice (some ⟨(L k).mb, 0, none⟩) dn dn) ∧ w'.cell? ⟨(L k).mb, y, none⟩ = some (.slice (some ⟨b2, off2, none⟩) dn dc))
      (first | exact ⟨x4, x3, x5⟩ | exact hS1 | exact hS2 | exact hS3 | go_keep)
      (first
        | (go_at_call 98; refine (implInv (some ⟨b2, off2, none⟩) dc dn (c.rep k y) _ ?_ ?_ ?_ h2N).mono ?_; (exact Rr.out); (exact Lib.hid RP.out.2); (exact Lib.hid RP.out.1); rintro e w1 ⟨A2, c2, rfl, s2, b1'⟩; have b1 : Below w.heap.size w w1 := ⟨b1'.os, b1'.tape, b1'.output, b1'.size, b1'.block⟩; have hS1 := And.intro ((b1.cell (p := ⟨(L k).B, 4, none⟩) hB).trans x4) (And.intro ((b1.cell (p := ⟨(L k).B, 3, none⟩) hB).trans x3) ((b1.cell (p := ⟨(L k).mb, y, none⟩) hmb).trans x5)))
        | (go_at_call 97; refine (implThen (some ⟨b, off, none⟩) A2 cp c2 dn q (invL (c.rep k y) dn) w1 ?_ ?_ ?_ ?_ ?_ h2N).mono ?_; (exact Rq.out.up b1); (exact s2.ri_); (exact Lib.hid QP.out.2); (exact s2.hid); (exact Lib.hid QP.out.1); rintro e w2 ⟨A3, c3, rfl, s3, b2'⟩; have hS2 := And.intro ((b2'.cell (p := ⟨(L k).B, 4, none⟩) (Nat.lt_of_lt_of_le hB b1.size)).trans hS1.1) (And.intro ((b2'.cell (p := ⟨(L k).B, 3, none⟩) (Nat.lt_of_lt_of_le hB b1.size)).trans hS1.2.1) ((b2'.cell (p := ⟨(L k).mb, y, none⟩) (Nat.lt_of_lt_of_le hmb b1.size)).trans hS1.2.2)))
        | (go_at_call 79; refine (AD M c L A3 c3 (compL q (invL (c.rep k y) dn)) w2 ?_ ?_ ?_ ?_ ?_ ?_).mono ?_; (exact ((HC.out.up b1).up b2').above (Nat.le_succ k)); (exact fun i a b => HO.out i (by omega) b); (exact Rd.of_slc (d := (A3, dn, c3)) s3 fun b e => Nat.lt_of_lt_of_le (HC.out.mlt b e).2 b1.size); (rw [eiv.out]; exact Rst.out.1); (rw [eiv.out]; exact Rst.out.2); (exact HL.out.up); rintro e w3 ⟨c', L', M', rfl, hc3, ho3, hg3, hap⟩; have hS3 := And.intro ((cells_gw hg3 ((HC.out.up b1).up b2') hk (L k).B 4 (.inl rfl)).trans hS2.1) (And.intro ((cells_gw hg3 ((HC.out.up b1).up b2') hk (L k).B 3 (.inl rfl)).trans hS2.2.1) ((cells_gw hg3 ((HC.out.up b1).up b2') hk (L k).mb y (.inr rfl)).trans hS2.2.2))))
    have er : c'.rep k = c.rep k := funext fun z => hap.grw.rep k z (by omega)
    have eg : c'.gen k = c.gen k := hap.grw.gen k (by omega)
    have C2 := (HC.out.up b1).up b2'
    have K1 := C2.down hk hc3 hg3 er eg
    have K3 : Gw w w3 dn k L L' M M' := (Gw.of_below (b1.trans (b2'.mono b1.size))).trans (hg3.down C2)
    have hLk := hg3.keep k (by omega)
    have K2 : Orbs dn k c' L' := fun i a b => by
      by_cases ei : i = k
      · subst ei
        rw [hLk]
        exact (HO.out i a b).congr fun z => by rw [er]
      · exact ho3 i (by omega) b
    have K4 : Ic dn k c c' q := Ic.old HL.out hk (by omega) h2N HQ.out (by rw [Ey.out]; exact Hz.out) (by rw [Ey.out, ← eiv.out]; exact hap)
    go_end0
    exact ⟨c', L', M', rfl, K1, K2, K3, K4, by rw [hLk]; exact List.prefix_rfl, by rw [hLk]⟩
end Go.Proofs.Ytooafmifbplbhaa
