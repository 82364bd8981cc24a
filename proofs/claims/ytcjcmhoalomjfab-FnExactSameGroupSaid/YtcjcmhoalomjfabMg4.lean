/- Part 4 of the texts: ChA, ChG, SSh, SSo, ChE, OrM, Gen, ChB, ChQ, Ins, ChR, ChT, ChX. No condition of its own: each text tells its own. -/
import Derived.Test.YtcjcmhoalomjfabMg3
import Derived.Test.YtcjcmhoalomjfabMg1
import Derived.Deep.RegionLaw
import Derived.Maps.AppendAt
import Derived.Deep.CutRange
import Derived.Deep.LoopGhost
set_option linter.unusedVariables false
set_option linter.unusedSimpArgs false

/- append of one slice onto a row of slices of the call's own, as a step of a drawn region and in a list. No condition. -/
namespace Go.Proofs.Ytcjcmhoalomjfab
open Go.RowKit

theorem grown_undrewC {a b : World} {row : Option Nat} (h : a.drew.grownBy b row) : a.grownBy b row := ⟨h.os, h.tape, h.output, h.size, h.block⟩
theorem step_appV {w : World} {ops : Array Oper} {o : Oper} {a : Act} {K : Act → World → Prop} {Q : Exit → Act → World → Prop} {E : Prop} (hgd : o.guard = none) (s x : Operand)
    (ho : o.op = .call { callee := .builtin .append, args := #[s, x], argTypes := #[28, 28] })
    (base : Nat) (v : Value) (n : Nat) (xs : List Value) (hs : a.eval s = v) (hown : w.ownsRow base 22 1 v n xs) (g : Nat) (d : SV) (hx : a.eval x = .slice (some ⟨g, 0, none⟩) 1 1)
    (hcell : w.cell? ⟨g, 0, none⟩ = some (sval d)) (hn : n ≤ 1000000000) (hbase : base ≤ w.heap.size)
    (h : ∀ A' c' w', w'.ownsRow base 22 1 (.slice A' (n + 1) c') (n + 1) (xs ++ [sval d]) → w.grownBy w' v.ownBlock → ((Value.slice A' (n + 1) c').ownBlock = v.ownBlock ∨ (Value.slice A' (n + 1) c').ownBlock = some w.heap.size) → K (a.put o.dst (.slice A' (n + 1) c')) w') : if Region.wanted o (yielded ops a.tmps) = true then Oper.wp Try.prog o a w K Q else E := by
  have hw : Region.wanted o (yielded ops a.tmps) = true := by simp [Region.wanted, hgd]
  rw [if_pos hw]
  obtain ⟨i0, hi, hz0, hz1, hz2⟩ := info_parts infoS
  obtain ⟨v', w', hr, hown', hg, _, hat⟩ := run_append_own_at (P := Try.prog) w base 28 o.type 22 i0 (.slice none 0 0) 1 24 Try.underlying28 hi hz0 hz1 hz2 rfl (by decide) v n xs hown ⟨g, 0, none⟩ 1 1 [sval d] rfl (by
      intro j u hj
      match j, hj with
      | 0, hj => simp at hj; subst hj; simpa [Addr.add] using hcell
      | j + 1, hj => simp at hj) (by intro u hu; simp at hu; subst hu; rfl) (by unfold maxLen; omega) (by omega) hbase
  unfold Oper.wp execOp
  simp only [ho, resolve, invoke, builtin, Sem.run_bind, Sem.run_pure, Result.andThen_ok, List.map_toArray, List.map_cons, List.map_nil, hs, hx, hr]
  have hform : ∃ A' c', v' = .slice A' (n + 1) c' := by
    rcases hown'.2 with ⟨rfl, h0⟩ | ⟨g', cap, cur, rfl, _⟩
    · omega
    · exact ⟨_, _, rfl⟩
  obtain ⟨A', c', rfl⟩ := hform
  exact h A' c' w' hown' hg hat
theorem wpList_appV {w : World} {ops : Array Oper} {rest : List Oper} {o : Oper} {a : Act} {Q : Exit → Act → World → Prop} (hgd : o.guard = none) (s x : Operand)
    (ho : o.op = .call { callee := .builtin .append, args := #[s, x], argTypes := #[28, 28] })
    (base : Nat) (v : Value) (n : Nat) (xs : List Value) (hs : a.eval s = v) (hown : w.ownsRow base 22 1 v n xs) (g : Nat) (d : SV) (hx : a.eval x = .slice (some ⟨g, 0, none⟩) 1 1)
    (hcell : w.cell? ⟨g, 0, none⟩ = some (sval d)) (hn : n ≤ 1000000000) (hbase : base ≤ w.heap.size)
    (h : ∀ A' c' w', w'.ownsRow base 22 1 (.slice A' (n + 1) c') (n + 1) (xs ++ [sval d]) → w.grownBy w' v.ownBlock → ((Value.slice A' (n + 1) c').ownBlock = v.ownBlock ∨ (Value.slice A' (n + 1) c').ownBlock = some w.heap.size) → wpList Try.prog ops Q rest (a.put o.dst (.slice A' (n + 1) c')) w') : wpList Try.prog ops Q (o :: rest) a w := by
  obtain ⟨i0, hi, hz0, hz1, hz2⟩ := info_parts infoS
  refine wpList_append_own_at w hgd s x 28 ho base 22 i0 (.slice none 0 0) 1 24 Try.underlying28 hi hz0 hz1 hz2 rfl (by decide) v n xs hs hown ⟨g, 0, none⟩ 1 1 [sval d] hx rfl ?_ ?_ ?_ (by omega) hbase ?_
  · intro j u hj
    match j, hj with
    | 0, hj => simp at hj; subst hj; simpa [Addr.add] using hcell
    | j + 1, hj => simp at hj
  · intro u hu; simp at hu; subst hu; rfl
  · unfold maxLen; omega
  · intro v' w' hown' hg _ hat
    have hform : ∃ A' c', v' = .slice A' (n + 1) c' := by
      rcases hown'.2 with ⟨rfl, h0⟩ | ⟨g', cap, cur, rfl, _⟩
      · omega
      · exact ⟨_, _, rfl⟩
    obtain ⟨A', c', rfl⟩ := hform
    exact h A' c' w' hown' hg hat
/-- A generator appended to level k, as the store leaves it. -/
theorem Cn.pushA {w1 w2 : World} {o : Obj} {base g N k gn gc gc2 : Nat} {gA gA2 : Option Addr} {c : Ch} {L : LY} {p : List Int} {e : SV} (h : Cn w1 base g N c L) (hk : k < N) (hgv : L.gv k = (gA, gn, gc)) (hG : (c.gen k).length = gn)
    (he : Slc w1 base e.1 e.2.1 e.2.2 p) (ho : w2.ownsRow base 22 1 (.slice gA2 (gn + 1) gc2) (gn + 1) ((L.ge k).map sval ++ [sval e])) (hg : (w1.alloc o).grownBy w2 (Value.slice gA gn gc).ownBlock)
    (hat : (Value.slice gA2 (gn + 1) gc2).ownBlock = (Value.slice gA gn gc).ownBlock ∨ (Value.slice gA2 (gn + 1) gc2).ownBlock = some (w1.alloc o).heap.size) :
    ∃ L', Cn (w2.setCell ⟨L.G, k, none⟩ (.slice gA2 (gn + 1) gc2)) base g N (c.push k p) L' ∧ Chg w1 (w2.setCell ⟨L.G, k, none⟩ (.slice gA2 (gn + 1) gc2)) (Mut N L) ∧ (∀ b, Mut N L' b → Mut N L b ∨ w1.heap.size ≤ b) ∧ Slc (w2.setCell ⟨L.G, k, none⟩ (.slice gA2 (gn + 1) gc2)) base e.1 e.2.1 e.2.2 p := by
  have b1 : Below w1.heap.size w1 (w1.alloc o) := (Below.refl _ _).alloc (Nat.le_refl _) _
  have h1 := h.up b1
  obtain ⟨a1, a2, a3⟩ := h1.pushed hk (d := (gA2, gn + 1, gc2)) (e := e) (by rw [hG]; exact ho) (by rw [hgv]; exact hg) (by
    rw [hgv]
    rcases hat with e1 | e1
    · exact .inl e1
    · exact .inr ⟨_, e1, Nat.le_refl _⟩) (he.up b1)
  refine ⟨_, a1, (Chg.of_below b1).trans a2 fun b hb => .inl hb, fun b hb => ?_, (he.up b1).chg a2 h1.noInt⟩
  rcases a3 b hb with e1 | e1
  · exact .inl e1
  · exact .inr (Nat.le_trans b1.size e1)

/-- A row of the call's own of slices that hold the lists rs (no word on whether they share). -/
structure Kn (w : World) (lo base : Nat) (A : Option Addr) (m cc : Nat) (ds : List SV) (rs : List (List Int)) : Prop where
  own : w.ownsRow lo 22 1 (.slice A m cc) m (ds.map sval)
  ld : ds.length = m
  lr : rs.length = m
  ent : ∀ t, t < m → Slc w base (ds.getD t sd0).1 (ds.getD t sd0).2.1 (ds.getD t sd0).2.2 (rs.getD t [])
theorem Kn.lit0 (w : World) (lo base : Nat) (hb : lo ≤ w.heap.size) : Kn (w.alloc (.cells #[] 22)) lo base (some ⟨w.heap.size, 0, none⟩) 0 0 [] [] :=
  ⟨World.ownsRow_lit (size := 1) w #[] 0 hb (Nat.zero_le _) rfl, rfl, rfl, fun t h => absurd h (by omega)⟩
section
variable {w w' : World} {lo base m cc : Nat} {A : Option Addr} {ds : List SV} {rs : List (List Int)}
theorem Kn.up (h : Kn w lo base A m cc ds rs) (hb : Below w.heap.size w w') : Kn w' lo base A m cc ds rs :=
  ⟨ownsRow_chg h.own (.of_below (M := fun _ => False) hb) fun _ _ e => e, h.ld, h.lr, fun t ht => (h.ent t ht).up hb⟩
theorem Kn.chg {M : Nat → Prop} (h : Kn w lo base A m cc ds rs) (hc : Chg w w' M) (hM : NoInt w M) (hk : ∀ b, (Value.slice A m cc).ownBlock = some b → ¬ M b) : Kn w' lo base A m cc ds rs :=
  ⟨ownsRow_chg h.own hc hk, h.ld, h.lr, fun t ht => (h.ent t ht).chg hc hM⟩
theorem Kn.at_ (h : Kn w lo base A m cc ds rs) {t : Nat} (ht : t < m) : ∃ q, A = some ⟨q, 0, none⟩ ∧ w.cell? ⟨q, t, none⟩ = some (sval (ds.getD t sd0)) := by
  have ho := h.own
  rcases ho.2 with ⟨e, h0⟩ | ⟨g', cap, cur, e, _⟩
  · omega
  · injection e with e1 e2 e3
    subst e1
    exact ⟨g', rfl, by rw [ho.cellAt t (by omega), ents_at (by rw [h.ld]; exact ht)]⟩
theorem Kn.lt_ (h : Kn w lo base A m cc ds rs) : ∀ k, (Value.slice A m cc).ownBlock = some k → lo ≤ k ∧ k < w.heap.size := World.ownsRow.lt h.own
/-- One more. -/
theorem Kn.snoc {A' : Option Addr} {c' : Nat} {d : SV} {r : List Int} (h : Kn w lo base A m cc ds rs) (hd : Slc w base d.1 d.2.1 d.2.2 r) (ho : w'.ownsRow lo 22 1 (.slice A' (m + 1) c') (m + 1) (ds.map sval ++ [sval d])) (hg : w.grownBy w' (Value.slice A m cc).ownBlock) : Kn w' lo base A' (m + 1) c' (ds ++ [d]) (rs ++ [r]) := by
  have hc : Chg w w' (fun b => (Value.slice A m cc).ownBlock = some b) := .of_grown hg fun b e => e
  have hM : NoInt w (fun b => (Value.slice A m cc).ownBlock = some b) := fun b e => by
    obtain ⟨cur, e2⟩ := ownsRow_typ h.own e
    exact ⟨cur, _, _, e2, by decide⟩
  refine ⟨by rw [List.map_append]; exact ho, by simp [h.ld], by simp [h.lr], fun t ht => ?_⟩
  by_cases e : t < m
  · rw [getD_app _ _ _ _ (by rw [h.ld]; exact e), getD_app _ _ _ _ (by rw [h.lr]; exact e)]
    exact (h.ent t e).chg hc hM
  · have e2 : t = m := by omega
    rw [getD_snoc _ _ _ _ (by rw [h.ld]; exact e2), getD_snoc _ _ _ _ (by rw [h.lr]; exact e2)]
    exact hd.chg hc hM
end
end Go.Proofs.Ytcjcmhoalomjfab

/- The model's addGenerator. Conditions: at most 20 points; the chain whole from the level on. -/
namespace Go.Proofs.Ytcjcmhoalomjfab
open Go.RowKit

set_option maxHeartbeats 1000000 in
theorem specAddGenTop (base g N : Nat) (h1 : 1 ≤ N) (h2 : N ≤ 20) : AGs base g N N := by
  intro cp A c L p w hc hs hP hF hU
  have x0 := hc.c0
  have d0 : decide ((N : Int) ≤ (N : Int)) = true := by simp
  have C := Lib.hid hc
  have Ap0 := Lib.hid (Ap.top hU h1 h2 hP hF)
  clear hc hs hP hF hU
  go_enter Try.func77, Try.ntmps77
  go_wp2_with fail
  (try simp only [Exit.inBlock, Exit.then]); refine bodyPost_ret (results_none rfl _ _ _) rfl ?_
  exact ⟨c, L, rfl, C.out, .refl _ _, fun b hb => .inl hb, Ap0.out⟩

set_option maxHeartbeats 4000000 in
set_option maxRecDepth 100000 in
theorem specAddGen1 (base g N k : Nat) (hkN : k < N) (AP : ∀ fuel, APs base g N k fuel) : AGs base g N k := by
  intro cp A c L p w hc hs hP hF hU
  have hN := hP.pos
  have hb0 : base ≤ w.heap.size := by have := hc.ltR; omega
  have HC := Lib.hid hc
  have HS := Lib.hid hs
  have HP := Lib.hid hP
  have HF := Lib.hid hF
  have HU := Lib.hid hU
  have x0 := hc.c0
  have d0 : decide ((N : Int) ≤ (k : Int)) = false := by simp; omega
  clear hc hs hP hF hU
  go_enter Try.func77, Try.ntmps77
  go_wp2_with fail
  refine (specSift base g N k cp A c L p w HC.out HS.out.ri_ HP HF (by omega) (Lib.hid HU.out.rep)).mono ?_
  rintro e w1 ⟨A1, n1, c1, lvl, rfl, hlv, hle, b1⟩
  have C1 := Lib.hid (HC.out.up b1)
  have S1 := Lib.hid (HS.out.up b1)
  have B1 := Lib.hid b1
  have y0 := C1.out.c0
  clear b1 HC HS x0 d0
  by_cases hl : lvl = N
  · have Ap0 := Lib.hid (Ap.same HU.out (by omega) hN.1 hN.2 (hlv.1 hl))
    subst hl
    have e0 : ((lvl : Int) == (lvl : Int)) = true := by simp
    clear hlv hle
    go_wp2_with fail
    (try simp only [Exit.inBlock, Exit.then]); refine bodyPost_ret (results_none rfl _ _ _) rfl ?_
    exact ⟨c, L, rfl, C1.out, .of_below B1.out, fun b hb => .inl hb, Ap0.out⟩
  · have NS : Hid (¬ Sv N c k p) := Lib.hid fun h => hl (hlv.2 h)
    have e0 : ((lvl : Int) == (N : Int)) = false := by simp; omega
    clear hlv hle hl
    obtain ⟨G, hG⟩ : ∃ G, (c.gen k).length = G := ⟨_, rfl⟩
    have HG := Lib.hid hG
    have hG4 : G ≤ 400 := by
      rw [← hG]
      have h1 := HU.out.len k (Nat.le_refl _) hkN
      have h2 := cnt_le N c k
      have h3 := Nat.mul_le_mul hN.2 hN.2
      omega
    have y2 := C1.out.c2
    have y3 := C1.out.cG hkN
    have ho := C1.out.row2 k hkN
    have fz := C1.out.own2.frozenAt k
    rw [hG] at ho
    rcases hgv : L.gv k with ⟨gA, gn, gc⟩
    have gn2 := C1.out.gvn hkN
    rw [hgv, hG] at gn2
    have gn3 : gn = G := gn2
    subst gn3
    rw [hgv] at y3 ho
    simp only [sval] at y3
    have HO := Lib.hid ho
    have p0 : (0 : Int) ≤ k := by omega
    have p1 : (k : Int) < N := by omega
    obtain ⟨b, hA⟩ : ∃ b, A = some ⟨b, 0, none⟩ := by
      rcases S1.out.at_ with ⟨_, _, h0, _⟩ | ⟨b, rfl, _⟩
      · omega
      · exact ⟨b, rfl⟩
    subst hA
    have neg : some g ≠ (Value.slice gA gn gc).ownBlock := fun e => C1.out.g_mut (.inr (.inr ⟨k, hkN, by rw [hgv]; exact e.symm⟩))
    have neG : some L.G ≠ (Value.slice gA gn gc).ownBlock := fun e => C1.out.gv_ne_G hkN (by rw [hgv]; exact e.symm)
    have hgl := C1.out.blk.lt
    have hGl := C1.out.ltG.2
    have HGv := Lib.hid hgv
    have bw1 : base ≤ w1.heap.size := by have := B1.out.size; omega
    clear hG gn2 ho hgv
    go_wp2_with fail
    have hLit : (w1.alloc (.cells #[.slice (some ⟨b, 0, none⟩) N cp] 22)).cell? ⟨w1.heap.size, 0, none⟩ = some (sval (some ⟨b, 0, none⟩, N, cp)) := by rw [World.cell?_alloc_at _ _ _ _ rfl]; rfl
    have PA : Hid (∀ (gA2 : Option Addr) (gc2 : Nat) (w2 : World), w2.ownsRow base 22 1 (.slice gA2 (gn + 1) gc2) (gn + 1) ((L.ge k).map sval ++ [sval (some ⟨b, 0, none⟩, N, cp)]) → (w1.alloc (.cells #[.slice (some ⟨b, 0, none⟩) N cp] 22)).grownBy w2 (Value.slice gA gn gc).ownBlock →
        ((Value.slice gA2 (gn + 1) gc2).ownBlock = (Value.slice gA gn gc).ownBlock ∨ (Value.slice gA2 (gn + 1) gc2).ownBlock = some (w1.alloc (.cells #[.slice (some ⟨b, 0, none⟩) N cp] 22)).heap.size) →
        ∃ L', Cn (w2.setCell ⟨L.G, k, none⟩ (.slice gA2 (gn + 1) gc2)) base g N (c.push k p) L' ∧ Chg w (w2.setCell ⟨L.G, k, none⟩ (.slice gA2 (gn + 1) gc2)) (Mut N L) ∧ (∀ b, Mut N L' b → Mut N L b ∨ w.heap.size ≤ b) ∧ Slc (w2.setCell ⟨L.G, k, none⟩ (.slice gA2 (gn + 1) gc2)) base (some ⟨b, 0, none⟩) N cp p) := Lib.hid fun gA2 gc2 w2 h1 h2 h3 => by
      obtain ⟨L', a1, a2, a3, a4⟩ := C1.out.pushA hkN HGv.out HG.out (e := (some ⟨b, 0, none⟩, N, cp)) S1.out h1 h2 h3
      refine ⟨L', a1, (Chg.of_below B1.out).trans a2 fun b hb => .inl hb, fun q hq => ?_, a4⟩
      rcases a3 q hq with e | e
      · exact .inl e
      · exact .inr (Nat.le_trans B1.out.size e)
    go_cut [] from 30 to 45 (fun wx => ∃ L', Cn wx base g N (c.push k p) L' ∧ Chg w wx (Mut N L) ∧ (∀ b, Mut N L' b → Mut N L b ∨ w.heap.size ≤ b) ∧ Slc wx base (some ⟨b, 0, none⟩) N cp p)
    case first =>
      go_region_law (refine step_appV rfl (.tmp 41) (.tmp 43) rfl base (.slice gA gn gc) gn ((L.ge k).map sval) ?_ (HO.out.alloc (.cells #[.slice (some ⟨b, 0, none⟩) N cp] 22)) w1.heap.size (some ⟨b, 0, none⟩, N, cp) ?_ hLit ?_ ?_ ?_; (simp [Act.eval, Act.put]); (simp [Act.eval, Act.put]); (omega); (simp; omega); (intro gA2 gc2 w2 ho2 hg2 hat2; have hg3 := grown_undrewC hg2; have z2 := hg3.cell (a := ⟨g, 2, none⟩) ((World.cell?_alloc_lt w1 _ _ hgl).trans y2) neg; have z3 := hg3.cell (a := ⟨L.G, k, none⟩) ((World.cell?_alloc_lt w1 _ _ hGl).trans y3) neG; have fz2 : w2.frozen? ⟨L.G, k, none⟩ = false := (World.frozen?_of_block (a := ⟨L.G, k, none⟩) ((hg3.block L.G (by simp; omega) neG).trans (Below.heap_alloc w1 _ L.G hGl))).trans fz))
      all_goals (go_wp2_with fail; go_meet; exact PA.out gA2 gc2 w2 ho2 hg3 hat2)
    case rest =>
      obtain ⟨L3, hc3, hch3, hmt3, hs3⟩ := hcut
      have C3 := Lib.hid hc3
      have Ch3 := Lib.hid hch3
      have Mt3 := Lib.hid hmt3
      have S3 := Lib.hid hs3
      have hz3 := hch3.size
      have P3 : Hid (Low N (c.push k p) k) := Lib.hid (HU.out.pushed hkN hN.1 hN.2 HP.out HF.out)
      obtain ⟨cp1, hcp1⟩ : ∃ cp1, c.push k p = cp1 := ⟨_, rfl⟩
      have gl1 : (cp1.gen k).length = gn + 1 := by rw [← hcp1, push_at, List.length_append, HG.out]; rfl
      have pg1 : p ∈ cp1.gen k := by rw [← hcp1, push_at]; simp
      have Cp := Lib.hid hcp1
      rw [hcp1] at C3 P3
      have Gl1 := Lib.hid gl1
      have Pg1 := Lib.hid pg1
      have K0 : Hid (Kn (wc.alloc (.cells #[] 22)) wc.heap.size base (some ⟨wc.heap.size, 0, none⟩) 0 0 [] (knL cp1 k 0)) := Lib.hid (Kn.lit0 wc _ base (Nat.le_refl _))
      have B0 : Hid (Below wc.heap.size wc (wc.alloc (.cells #[] 22))) := Lib.hid ((Below.refl _ _).alloc (Nat.le_refl _) _)
      clear hc3 hch3 hmt3 hs3 hcp1 gl1 pg1 C1 S1 y0 y2 y3 fz neg neG hgl hGl bw1 hLit PA
      go_wp2_with fail
      go_loopw [8, 9] (fun kn i wr => ∃ (y m cc : Nat) (A : Option Addr) (ds : List SV), y ≤ N ∧ i = .int .i64 (y : Nat) ∧ kn = .slice A m cc ∧ Kn wr wc.heap.size base A m cc ds (knL cp1 k y) ∧ Below wc.heap.size wc wr) (fun _ i _ => N - (intOf i).toNat)
      case atStart => exact ⟨0, _, _, _, [], Nat.zero_le _, rfl, rfl, K0.out, B0.out⟩
      case round =>
        clear K0 B0
        obtain ⟨y, m, cc, kA, ds, hyN, rfl, rfl, hkn, bel⟩ := hrel
        have Knw := Lib.hid hkn
        have Be := Lib.hid bel
        have C4 := Lib.hid (C3.out.up bel)
        have x0 := C4.out.c0
        have hm20 : m ≤ 20 := by rw [← hkn.lr]; have := knL_len (c := cp1) (k := k) y; omega
        by_cases hlt : y < N
        · have x1 := C4.out.c1
          have x2 := C4.out.cR hkN
          have x3 := C4.out.cro hkN hlt
          have en := C4.out.enn hkN hlt
          have er := C4.out.ent1 k hkN y hlt
          rcases hd : (L3.en k).getD y sd0 with ⟨dA, dn, dc⟩
          rw [hd] at x3 en er
          have Er := Lib.hid er
          simp only [sval] at x3
          have q0 : (0 : Int) ≤ y := by omega
          have q1 : (y : Int) < N := by omega
          by_cases hz : cp1.rep k y = []
          · have hdn : dn = 0 := by
              have : dn = (cp1.rep k y).length := en
              rw [this, hz]; rfl
            subst hdn
            have d0 : decide ((0 : Int) < 0) = false := by decide
            have Kno := Lib.hid (knL_no hz)
            clear hkn bel hd en er
            go_wp2_with fail
            go_roundw
            case rel => exact ⟨y + 1, m, cc, kA, ds, by omega, by go_num, rfl, by rw [Kno.out]; exact Knw.out, Be.out⟩
            case measure => simp [intOf]; omega
          · obtain rfl : dn = N := by
              have h1 : dn = (cp1.rep k y).length := en
              have h2 := rep_ne_pos P3.out.rep hz
              omega
            have d0 : decide ((0 : Int) < (dn : Int)) = true := by simp; omega
            have Kys := Lib.hid (knL_yes hz)
            have hLit : Hid ((wr.alloc (.cells #[.slice dA dn dc] 22)).cell? ⟨wr.heap.size, 0, none⟩ = some (sval (dA, dn, dc))) := Lib.hid (by rw [World.cell?_alloc_at _ _ _ _ rfl]; rfl)
            have hzr := bel.size
            have Ka : Hid (Kn (wr.alloc (.cells #[.slice dA dn dc] 22)) wc.heap.size base kA m cc ds (knL cp1 k y)) := Lib.hid (Knw.out.up ((Below.refl _ _).alloc (Nat.le_refl _) _))
            have Ea : Hid (Slc (wr.alloc (.cells #[.slice dA dn dc] 22)) base dA dn dc (cp1.rep k y)) := Lib.hid (Er.out.up ((Below.refl _ _).alloc (Nat.le_refl _) _))
            have Ba : Hid (Below wc.heap.size wc (wr.alloc (.cells #[.slice dA dn dc] 22))) := Lib.hid (Be.out.alloc hzr _)
            clear hkn bel hd en er
            go_wp2_with (at_builtin; refine wpList_appV rfl _ _ rfl wc.heap.size (.slice kA m cc) m (ds.map sval) rfl Ka.out.own wr.heap.size (dA, dn, dc) rfl hLit.out (by omega) (by simp; omega) ?_; intro A5 c5 w5 ho5 hg5 hat5)
            have K5 : Hid (Kn w5 wc.heap.size base A5 (m + 1) c5 (ds ++ [(dA, dn, dc)]) (knL cp1 k (y + 1))) := Lib.hid (by rw [Kys.out]; exact Ka.out.snoc Ea.out ho5 hg5)
            have B5 : Hid (Below wc.heap.size wc w5) := Lib.hid (Ba.out.grown hg5 (by simp; omega) (fun j hj => (Ka.out.lt_ j hj).1))
            clear ho5 hg5 hat5
            go_wp2_with fail
            go_roundw
            case rel => exact ⟨y + 1, m + 1, c5, A5, _, by omega, by go_num, rfl, K5.out, B5.out⟩
            case measure => simp [intOf]; omega
        · obtain rfl : y = N := by omega
          have lkn := hkn.lr
          obtain ⟨M, hM⟩ : ∃ M, m = M := ⟨_, rfl⟩
          subst hM
          have Kb : Hid (∀ b, (Value.slice kA m cc).ownBlock = some b → ¬ Mut y L3 b) := Lib.hid fun b hb hm => by
            have h1 := (Knw.out.lt_ b hb).1
            have h2 := (C3.out.mut hm).2
            omega
          have S4 : Hid (Slc wr base (some ⟨b, 0, none⟩) y cp p) := Lib.hid (S3.out.up Be.out)
          have Ch4 : Hid (Chg w wr (Mut y L)) := Lib.hid (Ch3.out.trans (M1 := fun _ => False) (.of_below Be.out) fun b hb => hb.elim)
          have Lk := Lib.hid lkn
          clear hkn bel lkn S3 Ch3 C3
          go_wp2_with fail
          obtain ⟨wl, rfl⟩ : ∃ wl, wl = wr := ⟨_, rfl⟩
          go_loopw [10] (fun i w5 => ∃ (j : Nat) (cj : Ch) (Lj : LY), j ≤ m ∧ i = .int .i64 (j : Nat) ∧ Cn w5 base g y cj Lj ∧ Chg w w5 (Mut y L) ∧ (∀ b, Mut y Lj b → Mut y L b ∨ w.heap.size ≤ b) ∧ Al y k cp1 cj p j ∧ Slc w5 base (some ⟨b, 0, none⟩) y cp p ∧ Kn w5 wc.heap.size base kA m cc ds (knL cp1 k y) ∧ ∀ b, (Value.slice kA m cc).ownBlock = some b → ¬ Mut y Lj b) (fun i _ => m - (intOf i).toNat)
          case atStart => exact ⟨0, _, _, Nat.zero_le _, rfl, C4.out, Ch4.out, Mt3.out, .start P3.out, S4.out, Knw.out, Kb.out⟩
          case round =>
            clear C4 Ch4 Mt3 S4 Knw Kb Be x0
            obtain ⟨j, cj, Lj, hj, rfl, hc5, hch5, hmt5, hal5, hs5, hkn5, hkb5⟩ := hrel
            have C5 := Lib.hid hc5
            have Ch5 := Lib.hid hch5
            have Mt5 := Lib.hid hmt5
            have Al5 := Lib.hid hal5
            have S5 := Lib.hid hs5
            have K5 := Lib.hid hkn5
            have Kb5 := Lib.hid hkb5
            by_cases hlt : j < m
            · obtain ⟨q, hq, x1⟩ := hkn5.at_ hlt
              have er := hkn5.ent j hlt
              rcases hd : ds.getD j sd0 with ⟨dA, dn, dc⟩
              rw [hd] at x1 er
              have kn1 := kn_mb P3.out (j := j) (by rw [Lk.out]; exact hlt) Pg1.out
              obtain ⟨rj, hrj⟩ : ∃ rj, (knL cp1 k y).getD j [] = rj := ⟨_, rfl⟩
              rw [hrj] at er kn1
              obtain rfl : dn = y := by have h1 : rj.length = dn := er.1; have := kn1.2.2; omega
              have Er := Lib.hid er
              have Mb1 := Lib.hid kn1.1
              have Rp := Lib.hid kn1.2
              have Rj := Lib.hid hrj
              have Hq := Lib.hid hq
              simp only [sval] at x1
              have q0 : (0 : Int) ≤ j := by omega
              have q1 : (j : Int) < m := by omega
              clear hc5 hch5 hmt5 hal5 hs5 hkn5 hkb5 er hd kn1 hrj
              subst hq
              go_wp2_with fail
              refine (specComp dA (some ⟨b, 0, none⟩) dc cp dn rj p wr Er.out.ri_ S5.out.ri_ (Lib.hid Rp.out.2) (Lib.hid HP.out.2) (Lib.hid Rp.out.1) hN.2).mono ?_
              rintro e w6 ⟨A6, c6, rfl, s6, b6⟩
              have C6 := Lib.hid (C5.out.up b6)
              have S6 : Hid (Slc w6 base A6 dn c6 (compL rj p)) := Lib.hid (s6.mono (by have := Ch5.out.size; omega))
              have P6 := Lib.hid (S5.out.up b6)
              have K6 := Lib.hid (K5.out.up b6)
              have Ch6 : Hid (Chg w w6 (Mut dn L)) := Lib.hid (Ch5.out.trans (M1 := fun _ => False) (.of_below b6) fun b hb => hb.elim)
              have hz6 := b6.size
              clear s6 b6 C5 S5 K5 x1 q0 q1
              go_wp2_with fail
              have egk : cj.gen k = cp1.gen k := Al5.out.gen
              refine (AP (miss dn cj k) c6 A6 cj Lj _ w6 C6.out S6.out Al5.out.low (by rw [egk]; exact Mb1.out) (by rw [egk, Gl1.out]; omega) (Nat.le_refl _)).mono ?_
              rintro e w7 ⟨c', L', rfl, hc7, hch7, hmt7, hbp⟩
              have C7 := Lib.hid hc7
              have Ch7 : Hid (Chg w w7 (Mut dn L)) := Lib.hid (Ch6.out.trans hch7 Mt5.out)
              have Mt7 : Hid (∀ b, Mut dn L' b → Mut dn L b ∨ w.heap.size ≤ b) := Lib.hid fun b hb => by
                rcases hmt7 b hb with h | h
                · exact Mt5.out b h
                · exact .inr (by have := Ch6.out.size; omega)
              have Al7 : Hid (Al dn k cp1 c' p (j + 1)) := Lib.hid (Al5.out.next (by rw [Rj.out]; exact hbp))
              have P7 := Lib.hid (P6.out.chg hch7 C6.out.noInt)
              have K7 := Lib.hid (K6.out.chg hch7 C6.out.noInt Kb5.out)
              have Kb7 : Hid (∀ b, (Value.slice (some ⟨q, 0, none⟩) m cc).ownBlock = some b → ¬ Mut dn L' b) := Lib.hid fun b hb hm => by
                rcases hmt7 b hm with h | h
                · exact Kb5.out b hb h
                · have := (K6.out.lt_ b hb).2; omega
              clear hc7 hch7 hmt7 hbp egk
              go_wp2_with fail
              go_roundw
              case rel => exact ⟨j + 1, c', L', by omega, by go_num, C7.out, Ch7.out, Mt7.out, Al7.out, P7.out, K7.out, Kb7.out⟩
              case measure => simp [intOf]; omega
            · obtain rfl : j = m := by omega
              have Fin : Hid (Ap y k c cj p) := Lib.hid (Al.all HU.out hkN hN.1 hN.2 HP.out HF.out NS.out (by rw [Cp.out, Lk.out]; exact Al5.out))
              clear hc5 hch5 hmt5 hal5 hs5 hkn5 hkb5
              go_wp2_with fail
              go_end0
              exact ⟨cj, Lj, rfl, C5.out, Ch5.out, Mt5.out, Fin.out⟩
end Go.Proofs.Ytcjcmhoalomjfab

/- The laws' helpers that compare, mark and read slices of slices. Conditions: at most 1048576 slices, numbers in all. -/
namespace Go.Proofs.Ytcjcmhoalomjfab
open Go.RowKit

set_option maxHeartbeats 800000 in
/-- eqInt64SS at two slices of slices that read the same. -/
theorem eqRR_same (A B : Option Addr) (n c m d : Nat) (vs us : List SV) (xss : List (List Int)) (w : World) (hx : RR w w.heap.size A n vs xss) (hy : RR w w.heap.size B m us xss) (hn : n ≤ 1048576) (hlen : Hid (∀ i, i < n → (xss.getD i []).length ≤ 1048576)) :
    Calls Try.prog 17 #[.slice A n c, .slice B m d] w fun e w' => e = .returned (.bool true) ∧ Below w.heap.size w w' := by
  refine quiet_below ?_
  obtain rfl : n = m := by rw [← hx.lx, ← hy.lx]
  have HX := Lib.hid hx
  have HY := Lib.hid hy
  clear hx hy
  go_enter Try.func17, Try.ntmps17
  go_wp2
  go_loopw [5] (fun i wr => ∃ k : Nat, k ≤ n ∧ i = .int .i64 k ∧ ∃ m, wr = w.drewN m) (fun i _ => n - (intOf i).toNat)
  case atStart => exact ⟨0, Nat.zero_le _, rfl, 0, rfl⟩
  case round =>
    obtain ⟨k, hk, rfl, q, rfl⟩ := hrel
    by_cases hlt : k < n
    · obtain ⟨b, off, A5, l, c5, y, rfl, hb, ev, ey, c1, r1, hy1, hlc⟩ := HX.out.at_ hlt
      obtain ⟨b', off', A6, l', c6, y', rfl, hb', ev', ey', c2, r2, hy2, hlc'⟩ := HY.out.at_ hlt
      obtain rfl : y = y' := ey.symm.trans ey'
      have hl1 : l ≤ 1048576 := by rw [← hy1, ← ey]; exact hlen.out k hlt
      have hl2 : l' ≤ 1048576 := by rw [← hy2, ← ey]; exact hlen.out k hlt
      have R1 := Lib.hid r1
      have R2 := Lib.hid r2
      have Y1 : Hid (y.length = l) := Lib.hid hy1
      have Y2 : Hid (y.length = l') := Lib.hid hy2
      clear r1 r2 ev ey ev' ey' hy1 hy2
      have p1 : (0 : Int) ≤ k := by omega
      have p2 : (k : Int) < n := by omega
      have K : ∀ W : World, (∃ q, W = w.drewN q) → Calls Try.prog 10 #[.slice A5 l c5, .slice A6 l' c6] W fun e w' => e = .returned (.bool true) ∧ ∃ m, w' = W.drewN m := by
        rintro W ⟨q, rfl⟩
        exact (eqS_any A5 A6 c5 c6 l l' y y (w.drewN q) (R1.out.drewN q) (R2.out.drewN q) Y1 Y2 (by omega) (by omega)).mono fun e w' ⟨he, hb⟩ => ⟨he.trans (ret_bool (by simp)), hb⟩
      have HK := Lib.hid K
      clear K
      go_wp2
      go_quiet ((go_at_call 10; exact quiet_add (HK.out _ ⟨_, rfl⟩)))
      go_wp2
      go_roundw
      case rel => exact ⟨k + 1, by omega, by go_num, _, rfl⟩
      case measure => simp [intOf]; omega
    · go_wp2
      go_ret
      exact ⟨rfl, _, rfl⟩

set_option maxHeartbeats 800000 in
/-- likeLists at two slices of slices that read the same. -/
theorem likeRR_same (A B : Option Addr) (n c m d : Nat) (vs us : List SV) (xss : List (List Int)) (w : World) (hx : RR w w.heap.size A n vs xss) (hy : RR w w.heap.size B m us xss) (hn : n ≤ 1048576) (hlen : Hid (∀ i, i < n → (xss.getD i []).length ≤ 1048576)) :
    Calls Try.prog 29 #[.slice A n c, .slice B m d] w fun e w' => e = .returned (.bool true) ∧ Below w.heap.size w w' := by
  refine quiet_below ?_
  obtain rfl : n = m := by rw [← hx.lx, ← hy.lx]
  have HX := Lib.hid hx
  have HY := Lib.hid hy
  clear hx hy
  go_enter Try.func29, Try.ntmps29
  go_wp2
  go_loopw [5] (fun i wr => ∃ k : Nat, k ≤ n ∧ i = .int .i64 k ∧ ∃ m, wr = w.drewN m) (fun i _ => n - (intOf i).toNat)
  case atStart => exact ⟨0, Nat.zero_le _, rfl, 0, rfl⟩
  case round =>
    obtain ⟨k, hk, rfl, q, rfl⟩ := hrel
    by_cases hlt : k < n
    · obtain ⟨b, off, A5, l, c5, y, rfl, hb, ev, ey, c1, r1, hy1, hlc⟩ := HX.out.at_ hlt
      obtain ⟨b', off', A6, l', c6, y', rfl, hb', ev', ey', c2, r2, hy2, hlc'⟩ := HY.out.at_ hlt
      obtain rfl : y = y' := ey.symm.trans ey'
      have hl1 : l ≤ 1048576 := by rw [← hy1, ← ey]; exact hlen.out k hlt
      have hl2 : l' ≤ 1048576 := by rw [← hy2, ← ey]; exact hlen.out k hlt
      have R1 := Lib.hid r1
      have R2 := Lib.hid r2
      have Y1 : Hid (y.length = l) := Lib.hid hy1
      have Y2 : Hid (y.length = l') := Lib.hid hy2
      clear r1 r2 ev ey ev' ey' hy1 hy2
      have p1 : (0 : Int) ≤ k := by omega
      have p2 : (k : Int) < n := by omega
      have K : ∀ W : World, (∃ q, W = w.drewN q) → Calls Try.prog 25 #[.slice A5 l c5, .slice A6 l' c6] W fun e w' => e = .returned (.bool true) ∧ ∃ m, w' = W.drewN m := by
        rintro W ⟨q, rfl⟩
        exact (likeI_any A5 A6 c5 c6 l l' y y (w.drewN q) (R1.out.drewN q) (R2.out.drewN q) Y1 Y2 (by omega) (by omega)).mono fun e w' ⟨he, hb⟩ => ⟨he.trans (ret_bool (by simp)), hb⟩
      have HK := Lib.hid K
      clear K
      go_wp2
      go_quiet ((go_at_call 25; exact quiet_add (HK.out _ ⟨_, rfl⟩)))
      go_wp2
      go_roundw
      case rel => exact ⟨k + 1, by omega, by go_num, _, rfl⟩
      case measure => simp [intOf]; omega
    · go_wp2
      go_ret
      exact ⟨rfl, _, rfl⟩
--§ end
end Go.Proofs.Ytcjcmhoalomjfab

/- What is kept where a slice of slices was marked; bounds on lists of lists. No condition. -/
namespace Go.Proofs.Ytcjcmhoalomjfab
open Go.RowKit

def sumL (l : List (List Int)) : Nat := (l.map List.length).sum
theorem sumL_le {l : List (List Int)} {k : Nat} (h : ∀ y ∈ l, y.length ≤ k) : sumL l ≤ l.length * k := by
  induction l with
  | nil => simp [sumL]
  | cons a t ih =>
    have h1 := ih fun y hy => h y (by simp [hy])
    have h2 := h a (by simp)
    unfold sumL at h1 ⊢
    rw [List.map_cons, List.sum_cons, List.length_cons, Nat.succ_mul]; omega
theorem bound_all {l : List (List Int)} {m k : Nat} (h1 : l.length ≤ m) (h2 : ∀ y ∈ l, y.length ≤ k) (h : m * k ≤ 1048576 ∧ m ≤ 1048576 ∧ k ≤ 1048576) :
    l.length ≤ 1048576 ∧ (∀ i, i < l.length → (l.getD i []).length ≤ 1048576) ∧ sumL l ≤ 1048576 := by
  refine ⟨by omega, fun i hi => ?_, ?_⟩
  · have : l.getD i [] ∈ l := by rw [List.getD_eq_getElem?_getD, List.getElem?_eq_getElem hi]; exact List.getElem_mem _
    have := h2 _ this; omega
  · have h3 := sumL_le h2
    have h4 : l.length * k ≤ m * k := Nat.mul_le_mul_right k h1
    omega
theorem SS.tot_sum {w : World} {bo bi n c : Nat} {A : Option Addr} {vs : List SV} {xss : List (List Int)} (h : SS w bo bi A n c vs xss) : tot vs n = sumL xss := by
  have key : ∀ k, k ≤ n → tot vs k = sumL (xss.take k) := by
    intro k
    induction k with
    | zero => intro _; rfl
    | succ k ih =>
      intro hk
      have hk' : k < xss.length := by rw [h.lx]; omega
      rw [tot_succ, ih (by omega), List.take_succ_eq_append_getElem hk', ← (h.row k (by omega)).1, List.getD_eq_getElem?_getD, List.getElem?_eq_getElem hk']
      show sumL (xss.take k) + _ = sumL (xss.take k ++ [xss[k]])
      unfold sumL
      rw [List.map_append, List.sum_append]; simp
  rw [key n (Nat.le_refl _), List.take_of_length_le (by rw [h.lx]; exact Nat.le_refl _)]
/-- A slice of slices none of whose blocks is the one that turned. -/
theorem SS.far2 {w w' : World} {bo bi n c lo hi lo' hi' n' c' : Nat} {A A' : Option Addr} {vs : List SV} {xss : List (List Int)} (h : SS w bo bi A n c vs xss) (hg : w.grownBy w' (Value.slice A' n' c').ownBlock)
    (lo1 : Lies A n c lo hi) (li : ∀ t, t < n → ∀ k, (sval (vs.getD t sd0)).ownBlock = some k → lo ≤ k ∧ k < hi) (l : Lies A' n' c' lo' hi') (hb : hi ≤ lo' ∨ hi' ≤ lo) : SS w' bo bi A n c vs xss :=
  ⟨World.ownsRow.kept h.own hg (lo1.apart l hb), h.lv, h.lx, fun i hi' => (h.row i hi').kept hg (Lies.apart (show Lies _ _ _ lo hi from li i hi') l hb), h.dis⟩
theorem invL_len (p : List Int) : (invL p p.length).length = p.length := by
  have : ∀ k, (invL p k).length = p.length := by
    intro k
    induction k with
    | zero => simp [invL]
    | succ k ih => simp [invL, ih]
  exact this _
end Go.Proofs.Ytcjcmhoalomjfab

/- The model's emptyChain and buildChain. Conditions: at most 20 points, 8 generators. -/
namespace Go.Proofs.Ytcjcmhoalomjfab
open Go.RowKit

theorem infoSS : (Try.prog.info? 28).map (fun i => (i.zero, i.size, i.bytes)) = some (some (.slice none 0 0), 1, 24) := by kernel_rfl
theorem wpList_appW {w : World} {ops : Array Oper} {rest : List Oper} {o : Oper} {a : Act} {Q : Exit → Act → World → Prop} (hgd : o.guard = none) (s x : Operand)
    (ho : o.op = .call { callee := .builtin .append, args := #[s, x], argTypes := #[96, 96] })
    (base : Nat) (v : Value) (n : Nat) (xs : List Value) (hs : a.eval s = v) (hown : w.ownsRow base 28 1 v n xs) (g : Nat) (d : SV) (hx : a.eval x = .slice (some ⟨g, 0, none⟩) 1 1)
    (hcell : w.cell? ⟨g, 0, none⟩ = some (sval d)) (hn : n ≤ 1000000000) (hbase : base ≤ w.heap.size)
    (h : ∀ A' c' w', w'.ownsRow base 28 1 (.slice A' (n + 1) c') (n + 1) (xs ++ [sval d]) → w.grownBy w' v.ownBlock → ((Value.slice A' (n + 1) c').ownBlock = v.ownBlock ∨ (Value.slice A' (n + 1) c').ownBlock = some w.heap.size) → wpList Try.prog ops Q rest (a.put o.dst (.slice A' (n + 1) c')) w') : wpList Try.prog ops Q (o :: rest) a w := by
  obtain ⟨i0, hi, hz0, hz1, hz2⟩ := info_parts infoSS
  refine wpList_append_own_at w hgd s x 96 ho base 28 i0 (.slice none 0 0) 1 24 Try.underlying96 hi hz0 hz1 hz2 rfl (by decide) v n xs hs hown ⟨g, 0, none⟩ 1 1 [sval d] hx rfl ?_ ?_ ?_ (by omega) hbase ?_
  · intro j u hj
    match j, hj with
    | 0, hj => simp at hj; subst hj; simpa [Addr.add] using hcell
    | j + 1, hj => simp at hj
  · intro u hu; simp at hu; subst hu; rfl
  · unfold maxLen; omega
  · intro v' w' hown' hg _ hat
    have hform : ∃ A' c', v' = .slice A' (n + 1) c' := by
      rcases hown'.2 with ⟨rfl, h0⟩ | ⟨g', cap, cur, rfl, _⟩
      · omega
      · exact ⟨_, _, rfl⟩
    obtain ⟨A', c', rfl⟩ := hform
    exact h A' c' w' hown' hg hat

theorem ownsRow_dn {w : World} {base base' n size : Nat} {e : TypeId} {v : Value} {xs : List Value} (h : w.ownsRow base e size v n xs) (hb : base' ≤ base) : w.ownsRow base' e size v n xs := by
  refine ⟨h.1, ?_⟩
  rcases h.2 with e | ⟨g', cap, cur, e, a1, rest⟩
  · exact .inl e
  · exact .inr ⟨g', cap, cur, e, Nat.le_trans hb a1, rest⟩
theorem ownsRow_sl {w : World} {base n size : Nat} {e : TypeId} {v : Value} {xs : List Value} (h : w.ownsRow base e size v n xs) : ∃ a c, v = .slice a n c := by
  rcases h.2 with ⟨e, h0⟩ | ⟨g', cap, cur, e, _⟩
  · subst h0; exact ⟨_, _, e⟩
  · exact ⟨_, _, e⟩
/-- The chain with nothing in it. -/
def ch0 (N : Nat) : Ch := ⟨fun i y => if y = i then idL N else [], fun _ => []⟩
/-- The chain while its tables are being built: m levels of representatives and n levels of generators are there. -/
structure Pc (w : World) (base g N m n : Nat) (v1 v2 : Value) (ro gv : Nat → Nat) (en : Nat → List SV) : Prop where
  blk : Blk w g 98 #[.int .i64 (N : Nat), v1, v2]
  hg : base ≤ g
  own1 : w.ownsRow base 28 1 v1 m ((List.range m).map fun i => Value.slice (some ⟨ro i, 0, none⟩) N N)
  row1 : ∀ i, i < m → w.ownsRow base 22 1 (.slice (some ⟨ro i, 0, none⟩) N N) N ((en i).map sval)
  len1 : ∀ i, i < m → (en i).length = N
  ent1 : ∀ i, i < m → ∀ y, y < N → Slc w base ((en i).getD y sd0).1 ((en i).getD y sd0).2.1 ((en i).getD y sd0).2.2 ((ch0 N).rep i y)
  own2 : w.ownsRow base 28 1 v2 n ((List.range n).map fun i => Value.slice (some ⟨gv i, 0, none⟩) 0 0)
  row2 : ∀ i, i < n → w.ownsRow base 22 1 (.slice (some ⟨gv i, 0, none⟩) 0 0) 0 []
  dv : ∀ b, v1.ownBlock = some b → v2.ownBlock ≠ some b
  dro : ∀ i j, i < m → j < m → i ≠ j → ro i ≠ ro j
  drg : ∀ i j, i < m → j < n → gv j ≠ ro i
  dgv : ∀ i j, i < n → j < n → i ≠ j → gv i ≠ gv j
theorem Pc.cn {w : World} {base g N : Nat} {v1 v2 : Value} {ro gv : Nat → Nat} {en : Nat → List SV} (h : Pc w base g N N N v1 v2 ro gv en) (hN : 1 ≤ N) : ∃ L, Cn w base g N (ch0 N) L := by
  obtain ⟨R, cR, rfl⟩ : ∃ R cR, v1 = .slice (some ⟨R, 0, none⟩) N cR := by
    rcases h.own1.2 with ⟨_, h0⟩ | ⟨g', cap, cur, e, _⟩
    · omega
    · exact ⟨g', cap, e⟩
  obtain ⟨G, cG, rfl⟩ : ∃ G cG, v2 = .slice (some ⟨G, 0, none⟩) N cG := by
    rcases h.own2.2 with ⟨_, h0⟩ | ⟨g', cap, cur, e, _⟩
    · omega
    · exact ⟨g', cap, e⟩
  refine ⟨⟨R, cR, G, cG, ro, en, fun i => (some ⟨gv i, 0, none⟩, 0, 0), fun _ => []⟩, h.blk, h.hg, h.own1, h.row1, h.len1, h.ent1, h.own2, h.row2, fun _ _ => rfl, fun i _ y hy => absurd hy (Nat.not_lt_zero y), ?_, h.dro, ?_, ?_⟩
  · rintro (e : R = G)
    exact h.dv R rfl (by rw [e]; rfl)
  · intro i j hi hj e
    exact h.drg i j hi hj (Option.some.inj e)
  · intro i j hi hj hij b e1 e2
    exact h.dgv i j hi hj hij ((Option.some.inj e1).trans (Option.some.inj e2).symm)
section
variable {w w' w1 wA w4 : World} {o o1 : Obj} {base g N m n r c4 B : Nat} {v1 v2 : Value} {ro gv : Nat → Nat} {en : Nat → List SV} {enm : List SV} {A4 : Option Addr}
theorem Pc.up (h : Pc w base g N m n v1 v2 ro gv en) (hb : Below w.heap.size w w') : Pc w' base g N m n v1 v2 ro gv en := by
  have hc : Chg w w' (fun _ => False) := .of_below hb
  exact ⟨(hb.block g h.blk.lt).trans h.blk, h.hg, ownsRow_chg h.own1 hc fun _ _ e => e, fun i hi => ownsRow_chg (h.row1 i hi) hc fun _ _ e => e, h.len1, fun i hi y hy => (h.ent1 i hi y hy).up hb,
    ownsRow_chg h.own2 hc fun _ _ e => e, fun i hi => ownsRow_chg (h.row2 i hi) hc fun _ _ e => e, h.dv, h.dro, h.drg, h.dgv⟩
/-- Blocks of M hold neither numbers nor slices of numbers. -/
def NoS (w : World) (M : Nat → Prop) : Prop := ∀ k, M k → ∃ cs t, w.heap[k]? = some (.cells cs t (0, 0)) ∧ t ≠ 2 ∧ t ≠ 22
theorem NoS.int {M : Nat → Prop} (h : NoS w M) : NoInt w M := fun k hk => by
  obtain ⟨cs, t, e, h1, _⟩ := h k hk
  exact ⟨cs, t, _, e, h1⟩
theorem NoS.row {M : Nat → Prop} {n : Nat} {v : Value} {xs : List Value} (h : NoS w M) (hc : Chg w w' M) (hr : w.ownsRow base 22 1 v n xs) : w'.ownsRow base 22 1 v n xs :=
  ownsRow_chg hr hc fun k hk hm => by
    obtain ⟨cs, t, e, _, h2⟩ := h k hm
    obtain ⟨cur, e2⟩ := ownsRow_typ hr hk
    rw [e] at e2
    injection e2 with e2
    injection e2 with _ e3
    exact h2 e3
theorem rng_snoc (f f' : Nat → Value) (m : Nat) (h : ∀ i, i < m → f' i = f i) : (List.range (m + 1)).map f' = (List.range m).map f ++ [f' m] := by
  rw [List.range_succ, List.map_append]
  congr 1
  exact List.map_congr_left fun i hi => h i (List.mem_range.1 hi)
theorem Pc.not_g (h : Pc w base g N m n v1 v2 ro gv en) {v : Value} {k : Nat} {xs : List Value} (hv : w.ownsRow base 28 1 v k xs) : v.ownBlock ≠ some g := fun e => by
  obtain ⟨cur, e2⟩ := ownsRow_typ hv e
  have := h.blk
  unfold Blk at this
  rw [this] at e2
  injection e2 with e2
  injection e2 with _ e3
  exact absurd e3 (by decide)
/-- What an append onto one of the tables and the store into the chain turn. -/
theorem Pc.chg (h : Pc w base g N m n v1 v2 ro gv en) {v : Value} {k : Nat} {xs : List Value} (hv : w.ownsRow base 28 1 v k xs) (b1 : Below w.heap.size w w1) (hg4 : w1.grownBy w4 v.ownBlock) (i : Nat) (u : Value) :
    Blk w4 g 98 #[.int .i64 (N : Nat), v1, v2] ∧ Chg w (w4.setCell ⟨g, i, none⟩ u) (fun b => v.ownBlock = some b ∨ b = g) ∧ NoS w (fun b => v.ownBlock = some b ∨ b = g) ∧ Chg w4 (w4.setCell ⟨g, i, none⟩ u) (fun b => b = g) := by
  have hgl := h.blk.lt
  have hng := h.not_g hv
  have hB : Blk w4 g 98 #[.int .i64 (N : Nat), v1, v2] := (hg4.block g (Nat.lt_of_lt_of_le hgl b1.size) (fun e => hng e.symm)).trans ((b1.block g hgl).trans h.blk)
  have c3 : Chg w4 (w4.setCell ⟨g, i, none⟩ u) (fun b => b = g) := ⟨rfl, rfl, rfl, by simp, fun k _ hk => heap_setCell_other w4 ⟨g, i, none⟩ k u (fun e => hk e)⟩
  refine ⟨hB, ⟨c3.os.trans (hg4.os.trans b1.os), c3.tape.trans (hg4.tape.trans b1.tape), c3.output.trans (hg4.output.trans b1.output), Nat.le_trans b1.size (Nat.le_trans hg4.size c3.size), fun k hk hn => ?_⟩, fun k hk => ?_, c3⟩
  · have h1 := Nat.lt_of_lt_of_le hk b1.size
    exact (c3.block k (Nat.lt_of_lt_of_le h1 hg4.size) (fun e => hn (.inr e))).trans ((hg4.block k h1 (fun e => hn (.inl e.symm))).trans (b1.block k hk))
  · rcases hk with e | rfl
    · obtain ⟨cur, e2⟩ := ownsRow_typ hv e
      exact ⟨cur, _, e2, by decide, by decide⟩
    · exact ⟨_, _, h.blk, by decide, by decide⟩
theorem Pc.step1 (h : Pc w base g N m n v1 v2 ro gv en) (hrow : w.ownsRow base 22 1 (.slice (some ⟨r, 0, none⟩) N N) N (enm.map sval)) (hr : B ≤ r) (hB : ∀ i, i < m → ro i < B) (hB2 : ∀ i, i < n → gv i < B) (hl : enm.length = N)
    (he : ∀ y, y < N → Slc w base (enm.getD y sd0).1 (enm.getD y sd0).2.1 (enm.getD y sd0).2.2 ((ch0 N).rep m y)) (b1 : Below w.heap.size w w1)
    (hg4 : w1.grownBy w4 v1.ownBlock) (ho4 : w4.ownsRow base 28 1 (.slice A4 (m + 1) c4) (m + 1) ((List.range m).map (fun i => Value.slice (some ⟨ro i, 0, none⟩) N N) ++ [.slice (some ⟨r, 0, none⟩) N N]))
    (hat4 : (Value.slice A4 (m + 1) c4).ownBlock = v1.ownBlock ∨ (Value.slice A4 (m + 1) c4).ownBlock = some w1.heap.size) :
    Pc (w4.setCell ⟨g, 1, none⟩ (.slice A4 (m + 1) c4)) base g N (m + 1) n (.slice A4 (m + 1) c4) v2 (fun i => if i = m then r else ro i) gv (fun i => if i = m then enm else en i) := by
  obtain ⟨hB4, hc, hs, hc4⟩ := h.chg h.own1 b1 hg4 1 (.slice A4 (m + 1) c4)
  have hn2 := h.not_g h.own2
  have hcase : ∀ i, i < m + 1 → i < m ∨ i = m := fun i hi => by omega
  refine ⟨?_, h.hg, ?_, fun i hi => ?_, fun i hi => ?_, fun i hi y hy => ?_, ?_, fun i hi => hs.row hc (h.row2 i hi), fun b e1 e2 => ?_, fun i j hi hj hij => ?_, fun i j hi hj => ?_, h.dgv⟩
  · have := hB4.set_ 1 (.slice A4 (m + 1) c4)
    simpa using this
  · rw [rng_snoc (fun i => Value.slice (some ⟨ro i, 0, none⟩) N N) _ m (fun i hi => by rw [if_neg (by omega)]), if_pos rfl]
    refine ownsRow_chg ho4 hc4 fun b e1 e2 => ?_
    subst e2
    obtain ⟨cur, e2⟩ := ownsRow_typ ho4 e1
    unfold Blk at hB4
    rw [hB4] at e2
    injection e2 with e2
    injection e2 with _ e3
    exact absurd e3 (by decide)
  · rcases hcase i hi with hl | rfl
    · simp only [if_neg (show ¬ i = m by omega)]; exact hs.row hc (h.row1 i hl)
    · simp only [if_true]; exact hs.row hc hrow
  · rcases hcase i hi with hl | rfl
    · simp only [if_neg (show ¬ i = m by omega)]; exact h.len1 i hl
    · simp only [if_true]; exact hl
  · rcases hcase i hi with hl | rfl
    · simp only [if_neg (show ¬ i = m by omega)]; exact (h.ent1 i hl y hy).chg hc hs.int
    · simp only [if_true]; exact (he y hy).chg hc hs.int
  · refine ownsRow_chg h.own2 hc fun b e1 e2 => ?_
    rcases e2 with e2 | rfl
    · exact h.dv b e2 e1
    · exact hn2 e1
  · rcases hat4 with e | e
    · rw [e] at e1; exact h.dv b e1 e2
    · rw [e] at e1
      have h1 := (World.ownsRow.lt h.own2 b e2).2
      have h2 := b1.size
      have := Option.some.inj e1
      omega
  · rcases hcase i hi with hl | rfl <;> rcases hcase j hj with hl2 | rfl
    · simp only [if_neg (show ¬ i = m by omega), if_neg (show ¬ j = m by omega)]; exact h.dro i j hl hl2 hij
    · simp only [if_neg (show ¬ i = j by omega), if_true]; have := hB i hl; omega
    · simp only [if_neg (show ¬ j = i by omega), if_true]; have := hB j hl2; omega
    · exact absurd rfl hij
  · rcases hcase i hi with hl | rfl
    · simp only [if_neg (show ¬ i = m by omega)]; exact h.drg i j hl hj
    · simp only [if_true]; have := hB2 j hj; omega
theorem Pc.step2 (h : Pc w base g N m n v1 v2 ro gv en) (hbs : base ≤ w.heap.size) (b1 : Below (w.heap.size + 1) (w.alloc (.cells #[] 22)) w1)
    (hg4 : w1.grownBy w4 v2.ownBlock) (ho4 : w4.ownsRow base 28 1 (.slice A4 (n + 1) c4) (n + 1) ((List.range n).map (fun i => Value.slice (some ⟨gv i, 0, none⟩) 0 0) ++ [.slice (some ⟨w.heap.size, 0, none⟩) 0 0]))
    (hat4 : (Value.slice A4 (n + 1) c4).ownBlock = v2.ownBlock ∨ (Value.slice A4 (n + 1) c4).ownBlock = some w1.heap.size) :
    Pc (w4.setCell ⟨g, 2, none⟩ (.slice A4 (n + 1) c4)) base g N m (n + 1) v1 (.slice A4 (n + 1) c4) ro (fun i => if i = n then w.heap.size else gv i) en := by
  have b0 : Below w.heap.size w w1 := by
    have h1 : Below w.heap.size w (w.alloc (.cells #[] 22)) := (Below.refl _ _).alloc (Nat.le_refl _) _
    exact h1.trans (b1.mono (by omega))
  obtain ⟨hB4, hc, hs, hc4⟩ := h.chg h.own2 b0 hg4 2 (.slice A4 (n + 1) c4)
  have hn1 := h.not_g h.own1
  have hcase : ∀ i, i < n + 1 → i < n ∨ i = n := fun i hi => by omega
  have ltg : ∀ i, i < n → gv i < w.heap.size := fun i hi => (World.ownsRow.lt (h.row2 i hi) (gv i) rfl).2
  have ltr : ∀ i, i < m → ro i < w.heap.size := fun i hi => (World.ownsRow.lt (h.row1 i hi) (ro i) rfl).2
  have hnew : (w4.setCell ⟨g, 2, none⟩ (.slice A4 (n + 1) c4)).ownsRow base 22 1 (.slice (some ⟨w.heap.size, 0, none⟩) 0 0) 0 [] := by
    have h1 : (w.alloc (.cells #[] 22)).ownsRow base 22 1 (.slice (some ⟨w.heap.size, 0, none⟩) 0 0) 0 [] := World.ownsRow_lit (size := 1) w #[] 0 hbs (Nat.zero_le _) rfl
    have hq : w1.heap[w.heap.size]? = (w.alloc (.cells #[] 22)).heap[w.heap.size]? := b1.block w.heap.size (by omega)
    have hq2 : w4.heap[w.heap.size]? = w1.heap[w.heap.size]? := hg4.block w.heap.size (by have := b1.size; simp at this; omega) (fun e => by
      have := (World.ownsRow.lt h.own2 _ e.symm).2; omega)
    have hq3 : (w4.setCell ⟨g, 2, none⟩ (.slice A4 (n + 1) c4)).heap[w.heap.size]? = w4.heap[w.heap.size]? := heap_setCell_other w4 ⟨g, 2, none⟩ _ _ (fun e => by have := h.blk.lt; simp at e; omega)
    refine ⟨h1.1, ?_⟩
    rcases h1.2 with e | ⟨g', cap, cur, e, a1, a2, rest⟩
    · exact .inl e
    · have eg : w.heap.size = g' := by injection e with e _ _; injection e with e; injection e
      subst eg
      exact .inr ⟨_, cap, cur, e, a1, by rw [hq3, hq2, hq]; exact a2, rest⟩
  refine ⟨?_, h.hg, ?_, fun i hi => hs.row hc (h.row1 i hi), h.len1, fun i hi y hy => (h.ent1 i hi y hy).chg hc hs.int, ?_, fun i hi => ?_, fun b e1 e2 => ?_, h.dro, fun i j hi hj => ?_, fun i j hi hj hij => ?_⟩
  · have := hB4.set_ 2 (.slice A4 (n + 1) c4)
    simpa using this
  · refine ownsRow_chg h.own1 hc fun b e1 e2 => ?_
    rcases e2 with e2 | rfl
    · exact h.dv b e1 e2
    · exact hn1 e1
  · rw [rng_snoc (fun i => Value.slice (some ⟨gv i, 0, none⟩) 0 0) _ n (fun i hi => by rw [if_neg (by omega)]), if_pos rfl]
    refine ownsRow_chg ho4 hc4 fun b e1 e2 => ?_
    subst e2
    obtain ⟨cur, e2⟩ := ownsRow_typ ho4 e1
    unfold Blk at hB4
    rw [hB4] at e2
    injection e2 with e2
    injection e2 with _ e3
    exact absurd e3 (by decide)
  · rcases hcase i hi with hl | rfl
    · simp only [if_neg (show ¬ i = n by omega)]; exact hs.row hc (h.row2 i hl)
    · simp only [if_true]; exact hnew
  · rcases hat4 with e | e
    · rw [e] at e2; exact h.dv b e1 e2
    · rw [e] at e2
      have h1 := (World.ownsRow.lt h.own1 b e1).2
      have h2 := b0.size
      have := Option.some.inj e2
      omega
  · rcases hcase j hj with hl | rfl
    · simp only [if_neg (show ¬ j = n by omega)]; exact h.drg i j hi hl
    · simp only [if_true]; have := ltr i hi; omega
  · rcases hcase i hi with hl | rfl <;> rcases hcase j hj with hl2 | rfl
    · simp only [if_neg (show ¬ i = n by omega), if_neg (show ¬ j = n by omega)]; exact h.dgv i j hl hl2 hij
    · simp only [if_neg (show ¬ i = j by omega), if_true]; have := ltg i hl; omega
    · simp only [if_neg (show ¬ j = i by omega), if_true]; have := ltg j hl2; omega
    · exact absurd rfl hij
end

set_option maxHeartbeats 4000000 in
set_option maxRecDepth 100000 in
theorem specEmpty (N : Nat) (w : World) (hN1 : 1 ≤ N) (hN : N ≤ 20) :
    Calls Try.prog 76 #[.int .i64 (N : Nat)] w fun e w' => ∃ g L, e = .returned (.pointer (some ⟨g, 0, none⟩)) ∧ Cn w' w.heap.size g N (ch0 N) L ∧ Below w.heap.size w w' := by
  obtain ⟨i0, hi, hz0, hz1, hz2⟩ := info_parts infoS
  go_enter Try.func76, Try.ntmps76
  go_wp2_with fail
  go_loopw [4] (fun i wr => ∃ (m : Nat) (v1 v2 : Value) (ro gv : Nat → Nat) (en : Nat → List SV), m ≤ N ∧ i = .int .i64 (m : Nat) ∧ Pc wr w.heap.size w.heap.size N m m v1 v2 ro gv en ∧ Below w.heap.size w wr) (fun i _ => N - (intOf i).toNat)
  case atStart =>
    refine ⟨0, .slice none 0 0, .slice none 0 0, fun _ => 0, fun _ => 0, fun _ => [], Nat.zero_le _, rfl, ⟨Blk.new w _ _, Nat.le_refl _, World.ownsRow_nil _ _ _ _, fun i h => absurd h (Nat.not_lt_zero i), fun i h => absurd h (Nat.not_lt_zero i), fun i h => absurd h (Nat.not_lt_zero i), World.ownsRow_nil _ _ _ _, fun i h => absurd h (Nat.not_lt_zero i), fun b e => by simp [Value.ownBlock] at e, fun i j h => absurd h (Nat.not_lt_zero i), fun i j h => absurd h (Nat.not_lt_zero i), fun i j h => absurd h (Nat.not_lt_zero i)⟩, (Below.refl _ _).alloc (Nat.le_refl _) _⟩
  case round =>
    obtain ⟨m, v1, v2, ro, gv, en, hm, rfl, hpc, bel⟩ := hrel
    obtain ⟨a1, k1, rfl⟩ := ownsRow_sl hpc.own1
    obtain ⟨a2, k2, rfl⟩ := ownsRow_sl hpc.own2
    have P0 := Lib.hid hpc
    have Be := Lib.hid bel
    by_cases hlt : m < N
    · have hzr := bel.size
      have lro : Hid (∀ i, i < m → ro i < wr.heap.size) := Lib.hid fun i hi => (World.ownsRow.lt (hpc.row1 i hi) (ro i) rfl).2
      have lgv : Hid (∀ i, i < m → gv i < wr.heap.size) := Lib.hid fun i hi => (World.ownsRow.lt (hpc.row2 i hi) (gv i) rfl).2
      have hgr := hpc.blk.lt
      have q0 : (0 : Int) ≤ m := by omega
      have q1 : (m : Int) < N := by omega
      clear hpc bel
      go_wp2_with (first | (at_make; refine wpList_make_full _ rfl _ _ 28 rfl wr.heap.size 22 i0 (.slice none 0 0) 1 Try.underlying28 hi hz0 hz1 .i64 .i64 _ _ N rfl rfl rfl rfl (by rw [hz2]; omega) (by unfold maxLen; omega) (Nat.le_refl _) ?_; intro w1 hown1 hgrow1))
      have b1 : Below wr.heap.size wr w1 := (Below.refl _ _).grown hgrow1 (Nat.le_refl _) (fun k e => nomatch e)
      refine (specIdent N w1 (by omega)).mono ?_
      rintro e w2 ⟨A2, c2, rfl, s2, b2⟩
      have hM := SS.made (bi := wr.heap.size) hown1
      have hM2 := hM.up b2
      have St := hM2.own.stored m (.slice A2 N c2)
      have y1 := hM2.own.cellAt m (by omega)
      have fz1 := hM2.own.frozenAt m
      have ey : ((List.replicate N sd0).map sval)[m]? = some (Value.slice none 0 0) := by simp [hlt, sval, sd0]
      rw [ey] at y1
      obtain ⟨wA, hwA⟩ : ∃ wA, w2.setCell ⟨wr.heap.size, m, none⟩ (.slice A2 N c2) = wA := ⟨_, rfl⟩
      rw [hwA] at St
      have bA : Hid (Below wr.heap.size wr wA) := Lib.hid ((b1.trans (b2.mono b1.size)).grown St.2 (Nat.le_trans b1.size b2.size) (by intro k e; injection e with e; omega))
      have hNi : NoInt w2 (fun b => b = wr.heap.size) := fun b e => by
        obtain ⟨cur, e2⟩ := ownsRow_typ hM2.own (k := wr.heap.size) rfl
        subst e; exact ⟨cur, _, _, e2, by decide⟩
      have sA : Hid (Slc wA w.heap.size A2 N c2 (idL N)) := Lib.hid ((s2.mono (by have := b1.size; omega)).chg (.of_grown St.2 (M := fun b => b = wr.heap.size) (by intro k e; injection e with e; exact e.symm)) hNi)
      have PA := Lib.hid (P0.out.up bA.out)
      have RA : Hid (wA.ownsRow w.heap.size 22 1 (.slice (some ⟨wr.heap.size, 0, none⟩) N N) N (((List.replicate N sd0).set m (A2, N, c2)).map sval)) := Lib.hid (by
        rw [List.map_set]; exact ownsRow_dn St.1 hzr)
      have hgA := PA.out.blk.lt
      have x1 := PA.out.blk.cell 1
      have hzA := bA.out.size
      have hLit : Hid ((wA.alloc (.cells #[.slice (some ⟨wr.heap.size, 0, none⟩) N N] 28)).cell? ⟨wA.heap.size, 0, none⟩ = some (sval (some ⟨wr.heap.size, 0, none⟩, N, N))) := Lib.hid (by rw [World.cell?_alloc_at _ _ _ _ rfl]; rfl)
      have EA : Hid (∀ y, y < N → Slc wA w.heap.size (((List.replicate N sd0).set m (A2, N, c2)).getD y sd0).1 (((List.replicate N sd0).set m (A2, N, c2)).getD y sd0).2.1 (((List.replicate N sd0).set m (A2, N, c2)).getD y sd0).2.2 ((ch0 N).rep m y)) := Lib.hid fun y hy => by
        by_cases e : m = y
        · subst e
          rw [getD_set_eq (by simp; exact hy)]
          show Slc wA _ _ _ _ (if m = m then idL N else [])
          rw [if_pos rfl]; exact sA.out
        · rw [getD_set_ne e, getD_rep]
          show Slc wA _ _ _ _ (if y = m then idL N else [])
          rw [if_neg (fun e2 => e e2.symm)]; exact Slc.nil_
      have hx1 : (#[Value.int .i64 (N : Nat), .slice a1 m k1, .slice a2 m k2] : Array Value)[1]? = some (.slice a1 m k1) := rfl
      rw [hx1] at x1
      have zA : Hid ((wA.alloc (.cells #[.slice (some ⟨wr.heap.size, 0, none⟩) N N] 28)).heap.size = wA.heap.size + 1) := Lib.hid (by simp)
      have bL : Hid (Below wA.heap.size wA (wA.alloc (.cells #[.slice (some ⟨wr.heap.size, 0, none⟩) N N] 28))) := Lib.hid ((Below.refl _ _).alloc (Nat.le_refl _) _)
      clear hown1 hgrow1 b1 s2 b2 hM hM2 St ey hNi hx1
      go_wp2_with (first
        | (at_builtin; refine wpList_appW rfl _ _ rfl w.heap.size (.slice a1 m k1) m ((List.range m).map fun i => Value.slice (some ⟨ro i, 0, none⟩) N N) rfl (PA.out.up bL.out).own1 wA.heap.size (some ⟨wr.heap.size, 0, none⟩, N, N) rfl hLit.out (by omega) (by simp; omega) ?_; intro A4 c4 w4 ho4 hg4 hat4
           have B4 := (PA.out.chg PA.out.own1 bL.out hg4 1 (.slice A4 (m + 1) c4)).1
           have z4 := B4.cell 1
           have f4 := B4.frozen 1
           have P5 := Lib.hid (PA.out.step1 RA.out (Nat.le_refl _) lro.out lgv.out (by simp) EA.out bL.out hg4 ho4 hat4)
           have C5 := (PA.out.chg PA.out.own1 bL.out hg4 1 (.slice A4 (m + 1) c4)).2.1
           have Z5 := C5.size
           have z5 := P5.out.blk.cell 2
           have hx2 : (#[Value.int .i64 (N : Nat), .slice A4 (m + 1) c4, .slice a2 m k2] : Array Value)[2]? = some (.slice a2 m k2) := rfl
           have hx4 : (#[Value.int .i64 (N : Nat), .slice a1 m k1, .slice a2 m k2] : Array Value)[1]? = some (.slice a1 m k1) := rfl
           rw [hx2] at z5
           rw [hx4] at z4
           have HC5 := Lib.hid C5
           have e5 : (w4.setCell ⟨w.heap.size, 1, none⟩ (.slice A4 (m + 1) c4)).heap.size = w4.heap.size := by simp
           have HE := Lib.hid e5
           obtain ⟨W5, hW5⟩ : ∃ W5, w4.setCell ⟨w.heap.size, 1, none⟩ (.slice A4 (m + 1) c4) = W5 := ⟨_, rfl⟩
           have HW := Lib.hid hW5
           have O5 : Hid (((W5.alloc (.cells #[] 22)).alloc (.cells #[.slice (some ⟨w4.heap.size, 0, none⟩) 0 0] 28)).ownsRow w.heap.size 28 1 (.slice a2 m k2) m ((List.range m).map fun i => Value.slice (some ⟨gv i, 0, none⟩) 0 0)) := Lib.hid (by rw [← hW5]; exact (P5.out.own2.alloc _).alloc _)
           have L5 : Hid (((W5.alloc (.cells #[] 22)).alloc (.cells #[.slice (some ⟨w4.heap.size, 0, none⟩) 0 0] 28)).cell? ⟨w4.heap.size + 1, 0, none⟩ = some (sval (some ⟨w4.heap.size, 0, none⟩, 0, 0))) := Lib.hid (by rw [World.cell?_alloc_at _ _ _ _ (by rw [← hW5]; simp)]; rfl)
           have Z5b : w.heap.size ≤ w4.heap.size := by rw [e5] at Z5; omega
           clear B4 C5 hx2 hx4 e5 hW5 Z5)
        | (at_builtin; refine wpList_appW rfl _ _ rfl w.heap.size (.slice a2 m k2) m ((List.range m).map fun i => Value.slice (some ⟨gv i, 0, none⟩) 0 0) rfl (by rw [HW.out]; exact O5.out) (w4.heap.size + 1) (some ⟨w4.heap.size, 0, none⟩, 0, 0) rfl (by rw [HW.out]; exact L5.out) (by omega) (by simp; omega) ?_; intro A6 c6 w6 ho6 hg6 hat6
           have b6 : Below ((w4.setCell ⟨w.heap.size, 1, none⟩ (.slice A4 (m + 1) c4)).heap.size + 1) ((w4.setCell ⟨w.heap.size, 1, none⟩ (.slice A4 (m + 1) c4)).alloc (.cells #[] 22)) (((w4.setCell ⟨w.heap.size, 1, none⟩ (.slice A4 (m + 1) c4)).alloc (.cells #[] 22)).alloc (.cells #[.slice (some ⟨w4.heap.size, 0, none⟩) 0 0] 28)) := (Below.refl _ _).alloc (by simp) _
           have b7 : Below (w4.setCell ⟨w.heap.size, 1, none⟩ (.slice A4 (m + 1) c4)).heap.size (w4.setCell ⟨w.heap.size, 1, none⟩ (.slice A4 (m + 1) c4)) (((w4.setCell ⟨w.heap.size, 1, none⟩ (.slice A4 (m + 1) c4)).alloc (.cells #[] 22)).alloc (.cells #[.slice (some ⟨w4.heap.size, 0, none⟩) 0 0] 28)) := ((Below.refl _ _).alloc (Nat.le_refl _) _).alloc (by simp) _
           have C6 := P5.out.chg P5.out.own2 b7 hg6 2 (.slice A6 (m + 1) c6)
           have z6 := C6.1.cell 2
           have f6 := C6.1.frozen 2
           have hx2 : (#[Value.int .i64 (N : Nat), .slice A4 (m + 1) c4, .slice a2 m k2] : Array Value)[2]? = some (.slice a2 m k2) := rfl
           rw [hx2] at z6
           have P6 := Lib.hid (P5.out.step2 (by rw [HE.out]; exact Z5b) b6 hg6 (by rw [HE.out]; exact ho6) hat6)
           have B6 : Hid (Below w.heap.size w (w6.setCell ⟨w.heap.size, 2, none⟩ (.slice A6 (m + 1) c6))) := Lib.hid ((Be.out.trans ((bA.out.mono hzr).trans (HC5.out.below (fun k hk => by
             rcases hk with hk | rfl
             · exact (World.ownsRow.lt PA.out.own1 k hk).1
             · exact Nat.le_refl _) (by omega)))).trans (C6.2.1.below (fun k hk => by
             rcases hk with hk | rfl
             · exact (World.ownsRow.lt P5.out.own2 k hk).1
             · exact Nat.le_refl _) (by rw [HE.out]; exact Z5b)))
           clear b6 b7 C6 hx2))
      go_roundw
      case rel => exact ⟨m + 1, _, _, _, _, _, by omega, by go_num, P6.out, B6.out⟩
      case measure => simp [intOf]; omega
    · obtain rfl : m = N := by omega
      obtain ⟨L, hL⟩ := P0.out.cn hN1
      go_wp2_with fail
      go_ret
      exact ⟨_, L, rfl, hL, Be.out⟩
end Go.Proofs.Ytcjcmhoalomjfab

/- Orbits under lists of maps, as a search in the order of discovery; sorted orbits; the sweep over all points. No Go in it. No condition. -/
namespace Go.Proofs.Ytcjcmhoalomjfab

/-- A rearrangement of the points below N. -/
structure PM (N : Nat) (g : List Int) : Prop where
  len : g.length = N
  lo : ∀ i, i < N → 0 ≤ g.getD i 0
  hi : ∀ i, i < N → g.getD i 0 < N
  inj : ∀ i j, i < N → j < N → g.getD i 0 = g.getD j 0 → i = j
def PMs (N : Nat) (gs : List (List Int)) : Prop := ∀ g ∈ gs, PM N g

theorem PM.nx_lt {N : Nat} {g : List Int} (h : PM N g) {x : Nat} (hx : x < N) : nx g x < N := by
  have := h.lo x hx; have := h.hi x hx; unfold nx; omega
theorem PM.nx_val {N : Nat} {g : List Int} (h : PM N g) {x : Nat} (hx : x < N) : g.getD x 0 = (nx g x : Int) := by
  have := h.lo x hx; unfold nx; omega
theorem PM.nx_inj {N : Nat} {g : List Int} (h : PM N g) {x y : Nat} (hx : x < N) (hy : y < N) (e : nx g x = nx g y) : x = y :=
  h.inj x y hx hy (by rw [h.nx_val hx, h.nx_val hy, e])
theorem IsP.pm {p : List Int} (h : IsP p) : PM p.length p := ⟨rfl, h.lo, h.hi, h.inj⟩

theorem nd_sub {l' : List Nat} : ∀ {l : List Nat}, l'.Nodup → (∀ x ∈ l', x ∈ l) → l'.length ≤ l.length := by
  induction l' with
  | nil => intro l _ _; simp
  | cons a t ih =>
    intro l hd h
    rw [List.nodup_cons] at hd
    have ha : a ∈ l := h a (by simp)
    have := ih (l := l.erase a) hd.2 fun x hx => by
      have hne : x ≠ a := fun e => hd.1 (e ▸ hx)
      exact (List.mem_erase_of_ne hne).2 (h x (by simp [hx]))
    rw [List.length_erase_of_mem ha] at this
    have h0 : 0 < l.length := List.length_pos_of_mem ha
    simp; omega
/-- A nodup list within another of the same length is all of it. -/
theorem nd_all {l' l : List Nat} (hd : l'.Nodup) (h : ∀ x ∈ l', x ∈ l) (hl : l.length ≤ l'.length) : ∀ y ∈ l, y ∈ l' := fun y hy => by
  rcases Decidable.em (y ∈ l') with h1 | h1
  · exact h1
  · have := nd_sub (l' := y :: l') (l := l) (List.nodup_cons.2 ⟨h1, hd⟩) (fun x hx => by
      rcases List.mem_cons.1 hx with rfl | hx
      · exact hy
      · exact h x hx)
    simp at this; omega
theorem nd_map {f : Nat → Nat} {l : List Nat} (hd : l.Nodup) (hf : ∀ x ∈ l, ∀ y ∈ l, f x = f y → x = y) : (l.map f).Nodup := by
  induction l with
  | nil => simp
  | cons a t ih =>
    rw [List.nodup_cons] at hd
    rw [List.map_cons, List.nodup_cons]
    refine ⟨fun hm => ?_, ih hd.2 fun x hx y hy => hf x (by simp [hx]) y (by simp [hy])⟩
    obtain ⟨b, hb, e⟩ := List.mem_map.1 hm
    have := hf b (by simp [hb]) a (by simp) e
    subst this
    exact hd.1 hb

/-! ### reach -/
inductive Rch (gs : List (List Int)) (x : Nat) : Nat → Prop
  | refl : Rch gs x x
  | step {u : Nat} {g : List Int} : Rch gs x u → g ∈ gs → Rch gs x (nx g u)
section
variable {gs : List (List Int)} {N x y z : Nat}
theorem Rch.trans (h : Rch gs x y) (k : Rch gs y z) : Rch gs x z := by
  induction k with
  | refl => exact h
  | step _ hg ih => exact ih.step hg
theorem Rch.lt (hp : PMs N gs) (hx : x < N) (h : Rch gs x y) : y < N := by
  induction h with
  | refl => exact hx
  | step _ hg ih => exact (hp _ hg).nx_lt ih
end

/-! ### the search -/
def addN (f : List Nat) (y : Nat) : List Nat := if y ∈ f then f else f ++ [y]
def expd (gs : List (List Int)) (u : Nat) (f : List Nat) : List Nat := gs.foldl (fun f g => addN f (nx g u)) f
def bfs (gs : List (List Int)) : Nat → Nat → List Nat → List Nat
  | 0, _, f => f
  | fuel + 1, i, f => if i < f.length then bfs gs fuel (i + 1) (expd gs (f.getD i 0) f) else f
/-- The orbit of x in the order of discovery. -/
def orb (gs : List (List Int)) (N x : Nat) : List Nat := bfs gs (N + 1) 0 [x]

theorem bfs_go {gs : List (List Int)} {N i : Nat} {f : List Nat} (hi : i < f.length) (hl : f.length ≤ N) : bfs gs (N + 1 - i) i f = bfs gs (N + 1 - (i + 1)) (i + 1) (expd gs (f.getD i 0) f) := by
  obtain ⟨k, hk⟩ : ∃ k, N + 1 - i = k + 1 := ⟨N - i, by omega⟩
  have hk' : N + 1 - (i + 1) = k := by omega
  rw [hk, hk', bfs, if_pos hi]
theorem bfs_end {gs : List (List Int)} {N i : Nat} {f : List Nat} (hi : f.length ≤ i) : bfs gs (N + 1 - i) i f = f := by
  cases N + 1 - i with
  | zero => rfl
  | succ k => rw [bfs, if_neg (by omega)]

/-- What the search holds of its list. -/
structure Fd (gs : List (List Int)) (N x : Nat) (f : List Nat) : Prop where
  nd : f.Nodup
  lt : ∀ y ∈ f, y < N
  rch : ∀ y ∈ f, Rch gs x y
  pre : ∃ t, f = x :: t
section
variable {gs : List (List Int)} {N x : Nat} {f : List Nat}
theorem Fd.len (h : Fd gs N x f) : f.length ≤ N := ndlen N f h.nd h.lt
theorem Fd.pos (h : Fd gs N x f) : 0 < f.length := by obtain ⟨t, rfl⟩ := h.pre; simp
theorem Fd.one (hx : x < N) : Fd gs N x [x] := ⟨by simp, by simpa using hx, by simpa using Rch.refl, ⟨[], rfl⟩⟩
theorem addN_pre (f : List Nat) (y : Nat) : ∃ t, addN f y = f ++ t := by
  unfold addN; split
  · exact ⟨[], by simp⟩
  · exact ⟨[y], rfl⟩
theorem mem_addN {f : List Nat} {y z : Nat} : z ∈ addN f y ↔ z ∈ f ∨ z = y := by
  unfold addN; split
  · rename_i h
    exact ⟨.inl, fun h' => h'.elim id (fun e => e ▸ h)⟩
  · simp
theorem Fd.add (h : Fd gs N x f) {y : Nat} (hy : y < N) (hr : Rch gs x y) : Fd gs N x (addN f y) := by
  obtain ⟨t, rfl⟩ := h.pre
  refine ⟨?_, fun z hz => ?_, fun z hz => ?_, ?_⟩
  · unfold addN; split
    · exact h.nd
    · rename_i hn
      rw [List.nodup_append]
      refine ⟨h.nd, by simp, fun a ha b hb e => ?_⟩
      obtain rfl : b = y := by simpa using hb
      exact hn (e ▸ ha)
  · rcases mem_addN.1 hz with h1 | rfl
    · exact h.lt z h1
    · exact hy
  · rcases mem_addN.1 hz with h1 | rfl
    · exact h.rch z h1
    · exact hr
  · obtain ⟨t', e⟩ := addN_pre (x :: t) y
    exact ⟨t ++ t', by rw [e]; rfl⟩
theorem expd_pre (gs : List (List Int)) (u : Nat) : ∀ f : List Nat, ∃ t, expd gs u f = f ++ t := by
  unfold expd
  induction gs with
  | nil => intro f; exact ⟨[], by simp⟩
  | cons g gs ih =>
    intro f
    obtain ⟨t, e⟩ := addN_pre f (nx g u)
    obtain ⟨t', e'⟩ := ih (addN f (nx g u))
    exact ⟨t ++ t', by rw [List.foldl_cons, e', e, List.append_assoc]⟩
theorem expd_mem (gs : List (List Int)) (u : Nat) : ∀ f : List Nat, ∀ g ∈ gs, nx g u ∈ expd gs u f := by
  unfold expd
  induction gs with
  | nil => intro f g hg; cases hg
  | cons g gs ih =>
    intro f g' hg'
    rw [List.foldl_cons]
    rcases List.mem_cons.1 hg' with rfl | hg'
    · obtain ⟨t, e⟩ := expd_pre gs u (addN f (nx g' u))
      unfold expd at e
      rw [e, List.mem_append]
      exact .inl (mem_addN.2 (.inr rfl))
    · exact ih _ g' hg'
theorem Fd.fold (hp : PMs N gs) {u : Nat} (hu : u < N) (hr : Rch gs x u) : ∀ (l : List (List Int)), (∀ g ∈ l, g ∈ gs) → ∀ f : List Nat, Fd gs N x f → Fd gs N x (l.foldl (fun f g => addN f (nx g u)) f)
  | [], _, f, h => h
  | g :: l, hl, f, h => by
    rw [List.foldl_cons]
    exact Fd.fold hp hu hr l (fun g' hg' => hl g' (by simp [hg'])) _ (h.add ((hp g (hl g (by simp))).nx_lt hu) (hr.step (hl g (by simp))))
theorem getD_memN {l : List Nat} {i : Nat} (h : i < l.length) : l.getD i 0 ∈ l := by
  rw [List.getD_eq_getElem?_getD, List.getElem?_eq_getElem h]
  exact List.getElem_mem h
theorem getD_preN {l t : List Nat} {i : Nat} (h : i < l.length) : (l ++ t).getD i 0 = l.getD i 0 := by
  rw [List.getD_eq_getElem?_getD, List.getElem?_append_left h, ← List.getD_eq_getElem?_getD]
theorem Fd.exp (hp : PMs N gs) (h : Fd gs N x f) {i : Nat} (hi : i < f.length) : Fd gs N x (expd gs (f.getD i 0) f) :=
  Fd.fold hp (h.lt _ (getD_memN hi)) (h.rch _ (getD_memN hi)) gs (fun _ h => h) f h
/-- The first i are expanded. -/
def Cl (gs : List (List Int)) (i : Nat) (f : List Nat) : Prop := ∀ j, j < i → ∀ g ∈ gs, nx g (f.getD j 0) ∈ f
theorem Cl.exp {i : Nat} (h : Cl gs i f) (hi : i < f.length) : Cl gs (i + 1) (expd gs (f.getD i 0) f) := by
  obtain ⟨t, e⟩ := expd_pre gs (f.getD i 0) f
  intro j hj g hg
  by_cases e2 : j = i
  · subst e2
    have := expd_mem gs (f.getD j 0) f g hg
    rw [e] at this ⊢
    rw [getD_preN hi]
    exact this
  · rw [e, getD_preN (by omega), List.mem_append]
    exact .inl (h j (by omega) g hg)
theorem bfs_spec (hp : PMs N gs) : ∀ (fuel i : Nat) (f : List Nat), Fd gs N x f → Cl gs i f → i ≤ f.length → N + 1 ≤ fuel + i → Fd gs N x (bfs gs fuel i f) ∧ Cl gs (bfs gs fuel i f).length (bfs gs fuel i f)
  | 0, i, f, h, c, hi, hf => by have := h.len; omega
  | fuel + 1, i, f, h, c, hi, hf => by
    rw [bfs]
    split
    · rename_i hlt
      have hpre := expd_pre gs (f.getD i 0) f
      exact bfs_spec hp fuel (i + 1) _ (h.exp hp hlt) (c.exp hlt) (by obtain ⟨t, e⟩ := hpre; rw [e, List.length_append]; omega) (by omega)
    · obtain rfl : i = f.length := by omega
      exact ⟨h, c⟩
end

section
variable {gs : List (List Int)} {N : Nat}
theorem orb_fd (hp : PMs N gs) {x : Nat} (hx : x < N) : Fd gs N x (orb gs N x) :=
  (bfs_spec hp (N + 1) 0 [x] (Fd.one hx) (fun j hj => absurd hj (by omega)) (Nat.zero_le _) (by omega)).1
theorem orb_cl (hp : PMs N gs) {x : Nat} (hx : x < N) : Cl gs (orb gs N x).length (orb gs N x) :=
  (bfs_spec hp (N + 1) 0 [x] (Fd.one hx) (fun j hj => absurd hj (by omega)) (Nat.zero_le _) (by omega)).2
theorem orb_self (hp : PMs N gs) {x : Nat} (hx : x < N) : x ∈ orb gs N x := by
  obtain ⟨t, e⟩ := (orb_fd hp hx).pre
  rw [e]; simp
theorem orb_step (hp : PMs N gs) {x u : Nat} (hx : x < N) (hu : u ∈ orb gs N x) {g : List Int} (hg : g ∈ gs) : nx g u ∈ orb gs N x := by
  obtain ⟨j, hj, e⟩ := List.mem_iff_getElem.1 hu
  have := orb_cl hp hx j hj g hg
  rw [List.getD_eq_getElem?_getD, List.getElem?_eq_getElem hj] at this
  simpa [e] using this
theorem orb_iff (hp : PMs N gs) {x y : Nat} (hx : x < N) : y ∈ orb gs N x ↔ Rch gs x y := by
  refine ⟨(orb_fd hp hx).rch y, fun h => ?_⟩
  induction h with
  | refl => exact orb_self hp hx
  | step _ hg ih => exact orb_step hp hx ih hg
theorem orb_lt (hp : PMs N gs) {x y : Nat} (hx : x < N) (h : y ∈ orb gs N x) : y < N := (orb_fd hp hx).lt y h
theorem orb_sub (hp : PMs N gs) {x y z : Nat} (hx : x < N) (hy : y ∈ orb gs N x) (hz : z ∈ orb gs N y) : z ∈ orb gs N x := by
  have hy' := orb_lt hp hx hy
  rw [orb_iff hp hx] at hy ⊢
  rw [orb_iff hp hy'] at hz
  exact hy.trans hz
/-- Whoever comes into an orbit came out of it. -/
theorem orb_back (hp : PMs N gs) {x u : Nat} (hx : x < N) (hu : u < N) {g : List Int} (hg : g ∈ gs) (h : nx g u ∈ orb gs N x) : u ∈ orb gs N x := by
  have hf := orb_fd hp hx
  have h1 : ((orb gs N x).map (nx g)).Nodup := nd_map hf.nd fun a ha b hb e => (hp g hg).nx_inj (hf.lt a ha) (hf.lt b hb) e
  have h2 := nd_all h1 (l := orb gs N x) (fun a ha => by
    obtain ⟨b, hb, rfl⟩ := List.mem_map.1 ha
    exact orb_step hp hx hb hg) (by simp) _ h
  obtain ⟨b, hb, e⟩ := List.mem_map.1 h2
  rw [← (hp g hg).nx_inj (hf.lt b hb) hu e]
  exact hb
theorem rch_symm (hp : PMs N gs) {x y : Nat} (hx : x < N) (h : Rch gs x y) : Rch gs y x := by
  have hx' : x ∈ orb gs N y := by
    have : ∀ z, Rch gs x z → ∀ y, y < N → z ∈ orb gs N y → x ∈ orb gs N y := by
      intro z hz
      induction hz with
      | refl => intro y _ h; exact h
      | step hu hg ih => intro y hy h; exact ih y hy (orb_back hp hy (hu.lt hp hx) hg h)
    exact this y h y (h.lt hp hx) (orb_self hp (h.lt hp hx))
  exact (orb_iff hp (h.lt hp hx)).1 hx'
theorem orb_symm (hp : PMs N gs) {x y : Nat} (hx : x < N) (h : y ∈ orb gs N x) : x ∈ orb gs N y := by
  have hy := orb_lt hp hx h
  rw [orb_iff hp hx] at h
  rw [orb_iff hp hy]
  exact rch_symm hp hx h
end

/-! ### sorted -/
def oN (gs : List (List Int)) (N x : Nat) : List Nat := (List.range N).filter fun y => decide (y ∈ orb gs N x)
def oS (gs : List (List Int)) (N x : Nat) : List Int := (oN gs N x).map Int.ofNat
theorem mem_oN {gs : List (List Int)} {N x y : Nat} : y ∈ oN gs N x ↔ y < N ∧ y ∈ orb gs N x := by simp [oN]
theorem oN_nd (gs : List (List Int)) (N x : Nat) : (oN gs N x).Nodup := List.nodup_range.filter _
theorem oN_len {gs : List (List Int)} {N : Nat} (hp : PMs N gs) {x : Nat} (hx : x < N) : (oN gs N x).length = (orb gs N x).length :=
  Nat.le_antisymm (nd_sub (oN_nd gs N x) fun y hy => (mem_oN.1 hy).2) (nd_sub (orb_fd hp hx).nd fun y hy => mem_oN.2 ⟨orb_lt hp hx hy, hy⟩)
theorem oN_perm {gs : List (List Int)} {N : Nat} (hp : PMs N gs) {x : Nat} (hx : x < N) : (orb gs N x).Perm (oN gs N x) :=
  (List.perm_ext_iff_of_nodup (orb_fd hp hx).nd (oN_nd gs N x)).2 fun y => ⟨fun hy => mem_oN.2 ⟨orb_lt hp hx hy, hy⟩, fun hy => (mem_oN.1 hy).2⟩
theorem oS_sorted (gs : List (List Int)) (N x : Nat) : (oS gs N x).Pairwise fun a b => a ≤ b := by
  unfold oS oN
  rw [List.pairwise_map]
  refine List.Pairwise.filter _ ?_
  exact (List.pairwise_lt_range (n := N)).imp fun h => by simp; omega
theorem sorted_uniq : ∀ {l l' : List Int}, l.Perm l' → l.Pairwise (· ≤ ·) → l'.Pairwise (· ≤ ·) → l = l' := fun hp h1 h2 =>
  hp.eq_of_pairwise (fun a b _ _ h h' => Int.le_antisymm h h') h1 h2
/-- Whatever sorts the search's list comes to the same list. -/
theorem oS_of {gs : List (List Int)} {N : Nat} (hp : PMs N gs) {x : Nat} (hx : x < N) {l : List Int} (h : l.Perm ((orb gs N x).map Int.ofNat)) (hs : l.Pairwise (· ≤ ·)) : l = oS gs N x :=
  sorted_uniq (h.trans ((oN_perm hp hx).map _)) hs (oS_sorted gs N x)
theorem oS_sort {gs : List (List Int)} {N : Nat} (hp : PMs N gs) {x : Nat} (hx : x < N) : (((orb gs N x).map Int.ofNat).mergeSort fun a b => decide (a ≤ b)) = oS gs N x := by
  refine oS_of hp hx (List.mergeSort_perm _ _) ?_
  have := List.pairwise_mergeSort (le := fun a b : Int => decide (a ≤ b)) (fun a b c h1 h2 => by simp at h1 h2 ⊢; omega) (fun a b => by simp; omega) ((orb gs N x).map Int.ofNat)
  exact this.imp fun h => by simpa using h

/-! ### the sweep -/
/-- y lies in the orbit of one of the first k. -/
def sn (gs : List (List Int)) (N k y : Nat) : Bool := (List.range k).any fun z => decide (y ∈ orb gs N z)
def starts (gs : List (List Int)) (N k : Nat) : List Nat := (List.range k).filter fun z => !sn gs N z z
def orbs (gs : List (List Int)) (N k : Nat) : List (List Int) := (starts gs N k).map (oS gs N)
section
variable {gs : List (List Int)} {N : Nat}
theorem sn_iff {k y : Nat} : sn gs N k y = true ↔ ∃ z, z < k ∧ y ∈ orb gs N z := by simp [sn]
theorem sn_zero (y : Nat) : sn gs N 0 y = false := rfl
theorem sn_succ (k y : Nat) : sn gs N (k + 1) y = (sn gs N k y || decide (y ∈ orb gs N k)) := by
  simp [sn, List.range_succ]
theorem sn_seen (hp : PMs N gs) {k : Nat} (hk : k < N) (h : sn gs N k k = true) (y : Nat) : sn gs N (k + 1) y = sn gs N k y := by
  rw [sn_succ]
  rcases hy : sn gs N k y with _ | _
  · obtain ⟨z, hz, hkz⟩ := sn_iff.1 h
    have : ¬ y ∈ orb gs N k := fun hy' => by
      have : sn gs N k y = true := sn_iff.2 ⟨z, hz, orb_sub hp (by omega) hkz hy'⟩
      rw [hy] at this; cases this
    simp [this]
  · rfl
theorem sn_out (hp : PMs N gs) {k u : Nat} (hk : k ≤ N) (hu : u < N) (h : sn gs N k u = false) {g : List Int} (hg : g ∈ gs) : sn gs N k (nx g u) = false := by
  rcases h' : sn gs N k (nx g u) with _ | _
  · rfl
  · obtain ⟨z, hz, hm⟩ := sn_iff.1 h'
    have : sn gs N k u = true := sn_iff.2 ⟨z, hz, orb_back hp (by omega) hu hg hm⟩
    rw [h] at this; cases this
theorem starts_no {k : Nat} (h : sn gs N k k = true) : starts gs N (k + 1) = starts gs N k := by
  simp [starts, List.range_succ, h]
theorem starts_yes {k : Nat} (h : sn gs N k k = false) : starts gs N (k + 1) = starts gs N k ++ [k] := by
  simp [starts, List.range_succ, h]
theorem orbs_no {k : Nat} (h : sn gs N k k = true) : orbs gs N (k + 1) = orbs gs N k := by rw [orbs, starts_no h, orbs]
theorem orbs_yes {k : Nat} (h : sn gs N k k = false) : orbs gs N (k + 1) = orbs gs N k ++ [oS gs N k] := by rw [orbs, starts_yes h, orbs]; simp
theorem starts_le (k : Nat) : (starts gs N k).length ≤ k := by
  have := List.length_filter_le (fun z => !sn gs N z z) (List.range k)
  simpa [starts] using this
theorem orbs_len (k : Nat) : (orbs gs N k).length = (starts gs N k).length := by simp [orbs]
theorem starts_pre {k m : Nat} (h : k ≤ m) : ∃ t, starts gs N m = starts gs N k ++ t := by
  induction m with
  | zero => exact ⟨[], by obtain rfl : k = 0 := by omega
                          simp⟩
  | succ m ih =>
    by_cases e : k = m + 1
    · exact ⟨[], by rw [e]; simp⟩
    · obtain ⟨t, ht⟩ := ih (by omega)
      rcases hs : sn gs N m m with _ | _
      · exact ⟨t ++ [m], by rw [starts_yes hs, ht, List.append_assoc]⟩
      · exact ⟨t, by rw [starts_no hs, ht]⟩
theorem orbs_pre {k m : Nat} (h : k ≤ m) : ∃ t, orbs gs N m = orbs gs N k ++ t := by
  obtain ⟨t, ht⟩ := starts_pre (gs := gs) (N := N) h
  exact ⟨t.map (oS gs N), by rw [orbs, ht, List.map_append, orbs]⟩
/-- The next orbit that comes. -/
theorem orbs_at {k : Nat} (hk : k < N) (h : sn gs N k k = false) : (orbs gs N N).getD (orbs gs N k).length [] = oS gs N k ∧ (orbs gs N k).length < (orbs gs N N).length := by
  obtain ⟨t, ht⟩ := orbs_pre (gs := gs) (N := N) (show k + 1 ≤ N from hk)
  rw [ht, orbs_yes h]
  refine ⟨?_, by simp⟩
  rw [List.append_assoc, List.getD_eq_getElem?_getD, List.getElem?_append_right (Nat.le_refl _), Nat.sub_self]
  rfl
end
end Go.Proofs.Ytcjcmhoalomjfab

/- IsGeneratorSet, of the program and of the model. Conditions: at most 1048576 lists of at most 1048576 numbers. -/
namespace Go.Proofs.Ytcjcmhoalomjfab
open Go.RowKit

/-- What IsGeneratorSet answers. -/
def gB (n : Int) (gs : List (List Int)) : Bool := decide (1 ≤ n ∧ n ≤ 20 ∧ gs.length ≤ 8 ∧ ∀ g ∈ gs, (g.length : Int) = n ∧ isP g = true)
theorem gB_iff {n : Int} {gs : List (List Int)} : gB n gs = true ↔ 1 ≤ n ∧ n ≤ 20 ∧ gs.length ≤ 8 ∧ ∀ g ∈ gs, (g.length : Int) = n ∧ isP g = true := by simp [gB]
theorem gB_no {n : Int} {gs : List (List Int)} (h : ¬ (1 ≤ n ∧ n ≤ 20 ∧ gs.length ≤ 8)) : gB n gs = false := by
  rw [← Bool.not_eq_true, gB_iff]; exact fun h' => h ⟨h'.1, h'.2.1, h'.2.2.1⟩
theorem getD_memL {l : List (List Int)} {k : Nat} (hk : k < l.length) : l.getD k [] ∈ l := by
  rw [List.getD_eq_getElem?_getD, List.getElem?_eq_getElem hk]; exact List.getElem_mem hk
theorem gB_row {n : Int} {gs : List (List Int)} {k : Nat} {y : List Int} (hk : k < gs.length) (ey : gs.getD k [] = y) (h : ¬ ((y.length : Int) = n ∧ isP y = true)) : gB n gs = false := by
  rw [← Bool.not_eq_true, gB_iff]; exact fun h' => h (by rw [← ey]; exact h'.2.2.2 _ (getD_memL hk))
theorem gB_all {n : Int} {gs : List (List Int)} (h0 : 1 ≤ n ∧ n ≤ 20 ∧ gs.length ≤ 8) (h : ∀ j, j < gs.length → ((gs.getD j []).length : Int) = n ∧ isP (gs.getD j []) = true) : gB n gs = true := by
  refine gB_iff.2 ⟨h0.1, h0.2.1, h0.2.2, fun g hg => ?_⟩
  obtain ⟨j, hj, e⟩ := List.mem_iff_getElem.1 hg
  have := h j hj
  rw [List.getD_eq_getElem?_getD, List.getElem?_eq_getElem hj] at this
  simpa [e] using this
theorem gB_pm {n : Int} {gs : List (List Int)} (h : gB n gs = true) : ∃ N : Nat, n = (N : Int) ∧ 1 ≤ N ∧ N ≤ 20 ∧ gs.length ≤ 8 ∧ PMs N gs ∧ ∀ g ∈ gs, IsP g ∧ g.length = N := by
  obtain ⟨h1, h2, h3, h4⟩ := gB_iff.1 h
  refine ⟨n.toNat, by omega, by omega, by omega, h3, fun g hg => ?_, fun g hg => ⟨isP_iff.1 (h4 g hg).2, by have := (h4 g hg).1; omega⟩⟩
  have hl : g.length = n.toNat := by have := (h4 g hg).1; omega
  rw [← hl]
  exact (isP_iff.1 (h4 g hg).2).pm

set_option maxHeartbeats 1600000 in
/-- The program's IsGeneratorSet. -/
theorem implGS (a : Int) (A : Option Addr) (n c : Nat) (vs : List SV) (xss : List (List Int)) (w : World) (hx : RR w w.heap.size A n vs xss) (hn : n ≤ 1048576) (hl : Hid (∀ i, i < n → (vs.getD i sd0).2.1 ≤ 1048576)) :
    Calls Try.prog 44 #[.int .i64 a, .slice A n c] w fun e w' => e = .returned (.bool (gB a xss)) ∧ Below w.heap.size w w' := by
  have HX := Lib.hid hx
  have hlx := hx.lx
  clear hx
  by_cases h0 : a < 1
  · have d1 : decide (a < 1) = true := by simp; omega
    have Fin := Lib.hid (gB_no (n := a) (gs := xss) (by omega))
    go_enter Try.func44, Try.ntmps44
    go_wp2
    go_ret
    exact ⟨ret_bool Fin.out.symm, Below.refl _ _⟩
  · have d1 : decide (a < 1) = false := by simp; omega
    by_cases h1 : 20 < a
    · have d2 : decide (20 < a) = true := by simp; omega
      have Fin := Lib.hid (gB_no (n := a) (gs := xss) (by omega))
      go_enter Try.func44, Try.ntmps44
      go_wp2
      go_ret
      exact ⟨ret_bool Fin.out.symm, Below.refl _ _⟩
    · have d2 : decide (20 < a) = false := by simp; omega
      by_cases h2 : 8 < n
      · have d3 : decide ((8 : Int) < n) = true := by simp; omega
        have Fin := Lib.hid (gB_no (n := a) (gs := xss) (by omega))
        go_enter Try.func44, Try.ntmps44
        go_wp2
        go_ret
        exact ⟨ret_bool Fin.out.symm, Below.refl _ _⟩
      · have d3 : decide ((8 : Int) < n) = false := by simp; omega
        go_enter Try.func44, Try.ntmps44
        go_wp2
        go_loopw [20] (fun i wr => ∃ k : Nat, k ≤ n ∧ i = .int .i64 (k : Nat) ∧ (∀ j, j < k → ((xss.getD j []).length : Int) = a ∧ isP (xss.getD j []) = true) ∧ Below w.heap.size w wr) (fun i _ => n - (intOf i).toNat)
        case atStart => exact ⟨0, Nat.zero_le _, rfl, fun j h => absurd h (by omega), Below.refl _ _⟩
        case round =>
          obtain ⟨k, hk, rfl, hz, bel⟩ := hrel
          have Hz := Lib.hid hz
          have Be := Lib.hid bel
          clear hz bel
          by_cases hlt : k < n
          · obtain ⟨b, off, A5, l, c5, y, rfl, hb, ev, ey, hc0, hr0, hy, hlc⟩ := HX.out.at_ hlt
            have hl1 := hl.out k hlt
            rw [ev] at hl1
            have c1 := (Be.out.cell (p := ⟨b, off + k, none⟩) hb).trans hc0
            have R1 := Lib.hid ((hr0.below Be.out (Nat.le_refl _)).more Be.out.size)
            have Ey := Lib.hid ey
            have Hy : Hid (y.length = l) := Lib.hid hy
            clear ev ey hc0 hr0 hy
            by_cases hla : (l : Int) = a
            · rcases hp : isP y with _ | _
              · have Fin : Hid (gB a xss = false) := Lib.hid (gB_row (by rw [hlx]; exact hlt) Ey.out (by rw [hp]; simp))
                go_wp2_with fail
                refine (implIsP A5 c5 l y wr R1.out Hy (by omega)).mono ?_
                rintro e w2 ⟨rfl, b2⟩
                have B2 : Hid (Below w.heap.size w w2) := Lib.hid (btr Be.out b2)
                clear b2
                rw [hp]
                go_wp2_with fail
                go_ret
                exact ⟨ret_bool Fin.out.symm, B2.out⟩
              · go_wp2_with fail
                refine (implIsP A5 c5 l y wr R1.out Hy (by omega)).mono ?_
                rintro e w2 ⟨rfl, b2⟩
                have B2 : Hid (Below w.heap.size w w2) := Lib.hid (btr Be.out b2)
                clear b2
                have Hp : Hid (isP y = true) := Lib.hid hp
                rw [hp]
                clear hp
                go_wp2_with fail
                go_roundw
                case rel => exact ⟨k + 1, by omega, by go_num, fun j hj => by
                  by_cases e : j = k
                  · subst e; rw [Ey.out, Hy.out]; exact ⟨hla, Hp.out⟩
                  · exact Hz.out j (by omega), B2.out⟩
                case measure => simp [intOf]; omega
            · have Fin : Hid (gB a xss = false) := Lib.hid (gB_row (by rw [hlx]; exact hlt) Ey.out (by rw [Hy.out]; exact fun h => hla h.1))
              go_wp2_with fail
              go_ret
              exact ⟨ret_bool Fin.out.symm, Be.out⟩
          · have hkn : k = n := by omega
            subst hkn
            have Fin : Hid (gB a xss = true) := Lib.hid (gB_all ⟨by omega, by omega, by omega⟩ (fun j hj => Hz.out j (by rw [← hlx]; exact hj)))
            go_wp2
            go_ret
            exact ⟨ret_bool Fin.out.symm, Be.out⟩

set_option maxHeartbeats 1600000 in
/-- The model's IsGeneratorSet. -/
theorem specGS (a : Int) (A : Option Addr) (n c : Nat) (vs : List SV) (xss : List (List Int)) (w : World) (hx : RR w w.heap.size A n vs xss) (hn : n ≤ 1048576) (hl : Hid (∀ i, i < n → (vs.getD i sd0).2.1 ≤ 1048576)) (ha : -9223372036854775808 ≤ a ∧ a ≤ 9223372036854775807) :
    Calls Try.prog 31 #[.int .i64 a, .slice A n c] w fun e w' => e = .returned (.bool (gB a xss)) ∧ Below w.heap.size w w' := by
  have HX := Lib.hid hx
  have hlx := hx.lx
  clear hx
  by_cases h0 : 1 ≤ a ∧ a ≤ 20
  · by_cases h2 : 8 < n
    · have d3 : decide ((8 : Int) < n) = true := by simp; omega
      have Fin := Lib.hid (gB_no (n := a) (gs := xss) (by omega))
      go_enter Try.func31, Try.ntmps31
      go_wp2_with (go_at_call 57; refine (inR_true _ _ _ _ (by omega) (by omega)).mono ?_; rintro e w' ⟨rfl, rfl⟩)
      go_ret
      exact ⟨ret_bool Fin.out.symm, Below.refl _ _⟩
    · have d3 : decide ((8 : Int) < n) = false := by simp; omega
      go_enter Try.func31, Try.ntmps31
      go_wp2_with (go_at_call 57; refine (inR_true _ _ _ _ (by omega) (by omega)).mono ?_; rintro e w' ⟨rfl, rfl⟩)
      go_loopw [5] (fun i wr => ∃ k : Nat, k ≤ n ∧ i = .int .i64 (k : Nat) ∧ (∀ j, j < k → ((xss.getD j []).length : Int) = a ∧ isP (xss.getD j []) = true) ∧ Below w.heap.size w wr) (fun i _ => n - (intOf i).toNat)
      case atStart => exact ⟨0, Nat.zero_le _, rfl, fun j h => absurd h (by omega), Below.refl _ _⟩
      case round =>
        obtain ⟨k, hk, rfl, hz, bel⟩ := hrel
        have Hz := Lib.hid hz
        have Be := Lib.hid bel
        clear hz bel
        by_cases hlt : k < n
        · obtain ⟨b, off, A5, l, c5, y, rfl, hb, ev, ey, hc0, hr0, hy, hlc⟩ := HX.out.at_ hlt
          have hl1 := hl.out k hlt
          rw [ev] at hl1
          have c1 := (Be.out.cell (p := ⟨b, off + k, none⟩) hb).trans hc0
          have R1 := Lib.hid ((hr0.below Be.out (Nat.le_refl _)).more Be.out.size)
          have Ey := Lib.hid ey
          have Hy : Hid (y.length = l) := Lib.hid hy
          clear ev ey hc0 hr0 hy
          by_cases hla : (l : Int) = a
          · rcases hp : isP y with _ | _
            · have Fin : Hid (gB a xss = false) := Lib.hid (gB_row (by rw [hlx]; exact hlt) Ey.out (by rw [hp]; simp))
              go_wp2_with fail
              refine (quiet_below (specIsP A5 c5 l y wr R1.out Hy (by omega) hlc)).mono ?_
              rintro e w2 ⟨rfl, b2⟩
              have B2 : Hid (Below w.heap.size w w2) := Lib.hid (btr Be.out b2)
              clear b2
              rw [hp]
              go_wp2_with fail
              go_ret
              exact ⟨ret_bool Fin.out.symm, B2.out⟩
            · go_wp2_with fail
              refine (quiet_below (specIsP A5 c5 l y wr R1.out Hy (by omega) hlc)).mono ?_
              rintro e w2 ⟨rfl, b2⟩
              have B2 : Hid (Below w.heap.size w w2) := Lib.hid (btr Be.out b2)
              clear b2
              have Hp : Hid (isP y = true) := Lib.hid hp
              rw [hp]
              clear hp
              go_wp2_with fail
              go_roundw
              case rel => exact ⟨k + 1, by omega, by go_num, fun j hj => by
                by_cases e : j = k
                · subst e; rw [Ey.out, Hy.out]; exact ⟨hla, Hp.out⟩
                · exact Hz.out j (by omega), B2.out⟩
              case measure => simp [intOf]; omega
          · have Fin : Hid (gB a xss = false) := Lib.hid (gB_row (by rw [hlx]; exact hlt) Ey.out (by rw [Hy.out]; exact fun h => hla h.1))
            go_wp2_with fail
            go_ret
            exact ⟨ret_bool Fin.out.symm, Be.out⟩
        · have hkn : k = n := by omega
          subst hkn
          have Fin : Hid (gB a xss = true) := Lib.hid (gB_all ⟨by omega, by omega, by omega⟩ (fun j hj => Hz.out j (by rw [← hlx]; exact hj)))
          go_wp2
          go_ret
          exact ⟨ret_bool Fin.out.symm, Be.out⟩
  · have Fin := Lib.hid (gB_no (n := a) (gs := xss) (by omega))
    go_enter Try.func31, Try.ntmps31
    go_wp2_with (go_at_call 57; refine (inR_false _ _ _ _ (by omega)).mono ?_; rintro e w' ⟨rfl, rfl⟩)
    go_ret
    exact ⟨ret_bool Fin.out.symm, Below.refl _ _⟩
theorem implIsGeneratorSet (a : Int) (A : Option Addr) (n c : Nat) (vs : List SV) (xss : List (List Int)) (w : World) (hx : RR w w.heap.size A n vs xss) (hn : n ≤ 1048576) (hl : Hid (∀ i, i < n → (vs.getD i sd0).2.1 ≤ 1048576)) :
    Calls Try.prog 44 #[.int .i64 a, .slice A n c] w fun e w' => e = .returned (.bool (gB a xss)) ∧ Below w.heap.size w w' := implGS a A n c vs xss w hx hn hl
theorem specIsGeneratorSet (a : Int) (A : Option Addr) (n c : Nat) (vs : List SV) (xss : List (List Int)) (w : World) (hx : RR w w.heap.size A n vs xss) (hn : n ≤ 1048576) (hl : Hid (∀ i, i < n → (vs.getD i sd0).2.1 ≤ 1048576)) (ha : -9223372036854775808 ≤ a ∧ a ≤ 9223372036854775807) :
    Calls Try.prog 31 #[.int .i64 a, .slice A n c] w fun e w' => e = .returned (.bool (gB a xss)) ∧ Below w.heap.size w w' := specGS a A n c vs xss w hx hn hl ha
end Go.Proofs.Ytcjcmhoalomjfab

/- The model's buildChain: a chain whole from level 0 on, of what the generators generate. Conditions: at most 20 points, 8 generators. -/
namespace Go.Proofs.Ytcjcmhoalomjfab
open Go.RowKit

/-- addGenerator keeps its contract at every level. -/
theorem specAddGen (base g N : Nat) (h1 : 1 ≤ N) (h2 : N ≤ 20) : ∀ m k, k + m = N → AGs base g N k
  | 0, k, e => by
    obtain rfl : k = N := by omega
    exact specAddGenTop base g k h1 h2
  | m + 1, k, e => specAddGen1 base g N k (by omega) (specAddProd base g N k (by omega) (specAddGen base g N h1 h2 m (k + 1) (by omega)))
theorem upTo0 (N : Nat) (h1 : 1 ≤ N) (h2 : N ≤ 20) : UpTo N (ch0 N) 0 := by
  have hrep : ∀ i y, (ch0 N).rep i y ≠ [] → y = i := fun i y h => by
    by_cases e : y = i
    · exact e
    · exact absurd (if_neg e) h
  have hone : ∀ i, (ch0 N).rep i i = idL N := fun i => if_pos rfl
  have hk : ∀ i, i < N → RepOK N (ch0 N) i := fun i hi => ⟨fun y hy => by
    obtain rfl := hrep i y hy
    rw [hone]; exact ⟨hi, pn_id h1 h2, fx_id (by omega), nx_id hi⟩, hone i⟩
  refine ⟨fun i _ hi => hk i hi, fun i _ _ g hg => (List.not_mem_nil hg).elim, fun i _ hi p => ⟨fun hs => ?_, fun hm => ?_⟩, fun i _ _ => Nat.zero_le _, rfl⟩
  · have : p = idL N := by
      clear hi
      induction hs with
      | top => rfl
      | @low i p hi hp hf hr _ ih =>
        have e := hrep i _ hr
        rw [e, hone, iv_id h1 h2, hp.idr] at ih
        exact ih (Nat.zero_le _)
    rw [this]; exact .one
  · rw [hm.none_]
    clear hm
    have : ∀ m i, i + m = N → Sv N (ch0 N) i (idL N) := fun m => by
      induction m with
      | zero => intro i e; obtain rfl : i = N := by omega
                exact .top
      | succ m ih =>
        intro i e
        exact (sv_down (hk i (by omega)) (by omega) (pn_id h1 h2) (fx_id (by omega)) (nx_id (by omega))).2 (ih (i + 1) (by omega))
    exact this (N - i) i (by omega)
/-- The chain is whole, and of what gs generate. -/
structure Whole (N : Nat) (gs : List (List Int)) (c : Ch) : Prop where
  up : UpTo N c 0
  mem : ∀ q, Mb (c.gen 0) N q ↔ Mb gs N q
theorem Whole.next {N : Nat} {gs : List (List Int)} {c c' : Ch} {p : List Int} (h1 : 1 ≤ N) (h2 : N ≤ 20) (hgs : ∀ g ∈ gs, Pn N g) (hp : Pn N p) (h : Whole N gs c) (ha : Ap N 0 c c' p) : Whole N (gs ++ [p]) c' := by
  have hgp : ∀ g ∈ c.gen 0, Pn N g := h.up.pn (Nat.le_refl _) (Nat.zero_le _)
  have a1 : ∀ g ∈ gs ++ [p], Pn N g := fun g hg => by
    rcases List.mem_append.1 hg with hg | hg
    · exact hgs g hg
    · obtain rfl := List.mem_singleton.1 hg; exact hp
  have a2 : ∀ g ∈ c.gen 0 ++ [p], Pn N g := fun g hg => by
    rcases List.mem_append.1 hg with hg | hg
    · exact hgp g hg
    · obtain rfl := List.mem_singleton.1 hg; exact hp
  refine ⟨ha.up, fun q => (ha.gen q).trans ⟨fun hq => hq.sub h1 h2 a1 fun g hg => ?_, fun hq => hq.sub h1 h2 a2 fun g hg => ?_⟩⟩
  · rcases List.mem_append.1 hg with hg | hg
    · exact ((h.mem g).1 (.of (hgp g hg) hg)).more fun g hg => List.mem_append_left _ hg
    · obtain rfl := List.mem_singleton.1 hg; exact .of hp (by simp)
  · rcases List.mem_append.1 hg with hg | hg
    · exact ((h.mem g).2 (.of (hgs g hg) hg)).more fun g hg => List.mem_append_left _ hg
    · obtain rfl := List.mem_singleton.1 hg; exact .of hp (by simp)

set_option maxHeartbeats 2000000 in
set_option maxRecDepth 100000 in
theorem specBuild (N n cc : Nat) (A : Option Addr) (vs : List SV) (gs : List (List Int)) (w : World) (hx : RR w w.heap.size A n vs gs) (hN1 : 1 ≤ N) (hN : N ≤ 20) (hn : n ≤ 8) (ok : Hid (∀ g ∈ gs, IsP g ∧ g.length = N)) :
    Calls Try.prog 43 #[.int .i64 (N : Nat), .slice A n cc] w fun e w' => ∃ g L c, e = .returned (.pointer (some ⟨g, 0, none⟩)) ∧ Cn w' w.heap.size g N c L ∧ Whole N gs c ∧ Below w.heap.size w w' := by
  have HX := Lib.hid hx
  have hlx : Hid (gs.length = n) := Lib.hid hx.lx
  clear hx
  go_enter Try.func43, Try.ntmps43
  go_wp2_with fail
  refine (specEmpty N w hN1 hN).mono ?_
  rintro e w1 ⟨g, L, rfl, hc1, b1⟩
  have C1 := Lib.hid hc1
  have B1 := Lib.hid b1
  have U0 := Lib.hid (upTo0 N hN1 hN)
  clear hc1 b1
  go_wp2_with fail
  go_loopw [6] (fun i wr => ∃ (j : Nat) (c : Ch) (L : LY), j ≤ n ∧ i = .int .i64 (j : Nat) ∧ Cn wr w.heap.size g N c L ∧ Whole N (gs.take j) c ∧ Below w.heap.size w wr) (fun i _ => n - (intOf i).toNat)
  case atStart => exact ⟨0, _, L, Nat.zero_le _, rfl, C1.out, ⟨U0.out, fun q => by rw [List.take_zero]; exact Iff.rfl⟩, B1.out⟩
  case round =>
    clear C1 B1 U0
    obtain ⟨j, c, L, hj, rfl, hc, hw, bel⟩ := hrel
    have C2 := Lib.hid hc
    have W2 := Lib.hid hw
    have Be := Lib.hid bel
    clear hc hw bel
    by_cases hlt : j < n
    · obtain ⟨b, off, A5, l, c5, y, rfl, hb, hv, ey, x1, ri, ly, hl5⟩ := (HX.out.up Be.out).at_ hlt
      have hyP := ok.out y (by rw [← ey]; exact getD_memL (by rw [hlx.out]; exact hlt))
      obtain rfl : l = N := by omega
      have Ri := Lib.hid ri
      have YP : Hid (Pn l y) := Lib.hid hyP
      obtain ⟨b5, off5, rfl, hb5, hc5⟩ := ri (by omega)
      have Ey := Lib.hid ey
      have q0 : (0 : Int) ≤ j := by omega
      have q1 : (j : Int) < n := by omega
      clear hv ey hb ri hb5 hc5 hyP
      go_wp2_with fail
      refine (copyRI b5 off5 l c5 y wr Ri.out (Lib.hid ly) (by omega)).mono ?_
      rintro e w2 ⟨A2, c2, rfl, s2, b2⟩
      have S2 : Hid (Slc w2 w.heap.size A2 l c2 y) := Lib.hid (s2.mono Be.out.size)
      have C3 := Lib.hid (C2.out.up b2)
      have Be2 : Hid (Below w.heap.size w w2) := Lib.hid (btr Be.out b2)
      have hz2 := Be2.out.size
      clear s2 b2
      go_wp2_with fail
      have K := specAddGen w.heap.size g l hN1 hN l 0 (by omega) c2 A2 c L y w2 C3.out S2.out YP.out Fx.zero W2.out.up
      refine K.mono ?_
      rintro e w3 ⟨c', L', rfl, hc3, hch, hmt, hap⟩
      have C4 := Lib.hid hc3
      have Be3 : Hid (Below w.heap.size w w3) := Lib.hid (Be2.out.trans (hch.below (fun k hk => (C3.out.mut hk).1) hz2))
      have W4 : Hid (Whole l (gs.take (j + 1)) c') := Lib.hid (by
        rw [List.take_succ_eq_append_getElem (by rw [hlx.out]; exact hlt)]
        have e1 : gs[j]'(by rw [hlx.out]; exact hlt) = y := by rw [← Ey.out, List.getD_eq_getElem?_getD, List.getElem?_eq_getElem (by rw [hlx.out]; exact hlt)]; rfl
        rw [e1]
        exact W2.out.next hN1 hN (fun g hg => ok.out g (List.mem_of_mem_take hg)) YP.out hap)
      clear K hc3 hch hmt hap
      go_wp2_with fail
      go_roundw
      case rel => exact ⟨j + 1, c', L', by omega, by go_num, C4.out, W4.out, Be3.out⟩
      case measure => simp [intOf]; omega
    · obtain rfl : j = n := by omega
      have W3 : Hid (Whole N gs c) := Lib.hid (by have := W2.out; rwa [List.take_of_length_le (by rw [hlx.out]; exact Nat.le_refl _)] at this)
      go_wp2_with fail
      go_ret
      exact ⟨g, L, c, rfl, C2.out, W3.out, Be.out⟩
end Go.Proofs.Ytcjcmhoalomjfab

/- What a whole chain tells: orbit sizes, the order, membership; what these are for the group. Conditions: at most 20 points, 8 generators. -/
namespace Go.Proofs.Ytcjcmhoalomjfab
open Go.RowKit

/-! ### the group's own numbers -/
section
variable {N : Nat} {gs hs : List (List Int)} {c : Ch}
theorem Whole.stab (h : Whole N gs c) (h1 : 1 ≤ N) (h2 : N ≤ 20) : ∀ i, i ≤ N → ∀ p, Mb (c.gen i) N p ↔ Mb gs N p ∧ Fx i p
  | 0, _, p => by rw [h.mem]; exact ⟨fun h => ⟨h, Fx.zero⟩, fun h => h.1⟩
  | i + 1, hi, p => by
    have ih := h.stab h1 h2 i (by omega)
    have hr := h.up.rep i (Nat.zero_le _) hi
    have hpn : ∀ g ∈ c.gen 0, Pn N g := h.up.pn (Nat.le_refl _) (Nat.zero_le _)
    constructor
    · intro hm
      have hp := hm.pn (h.up.pn (Nat.zero_le _) hi) h1 h2
      have hf : Fx (i + 1) p := by
        rcases Nat.lt_or_ge (i + 1) N with hl | hl
        · exact hm.fx (h.up.gp (i + 1) (Nat.zero_le _) hl) h1 h2 hi
        · obtain rfl : i + 1 = N := by omega
          rw [h.up.top] at hm
          rw [hm.none_]; exact fx_id (Nat.le_refl _)
      have hs := (sv_down hr hi hp (hf.mono (by omega)) (hf i (by omega))).2 ((h.up.sv (i + 1) (Nat.zero_le _) hi p).2 hm)
      exact ⟨((ih p).1 ((h.up.sv i (Nat.zero_le _) (by omega) p).1 hs)).1, hf⟩
    · rintro ⟨hm, hf⟩
      have hp := ((h.mem p).2 hm).pn hpn h1 h2
      have hs := (h.up.sv i (Nat.zero_le _) (by omega) p).2 ((ih p).2 ⟨hm, hf.mono (by omega)⟩)
      exact (h.up.sv (i + 1) (Nat.zero_le _) hi p).1 ((sv_down hr hi hp (hf.mono (by omega)) (hf i (by omega))).1 hs)
theorem Whole.rep_mb (h : Whole N gs c) (h1 : 1 ≤ N) (h2 : N ≤ 20) {i y : Nat} (hi : i < N) (hy : c.rep i y ≠ []) : Mb gs N (c.rep i y) ∧ Fx i (c.rep i y) ∧ nx (c.rep i y) i = y ∧ y < N := by
  have hl := (h.up.mono (Nat.zero_le i)).low hi h1 h2
  have h3 := (h.stab h1 h2 i (by omega) _).1 (hl.inn y hy)
  obtain ⟨a1, a2, a3, a4⟩ := hl.rep.at_ y hy
  exact ⟨h3.1, a3, a4, a1⟩
theorem Whole.rep_iff (h : Whole N gs c) (h1 : 1 ≤ N) (h2 : N ≤ 20) {i y : Nat} (hi : i < N) : c.rep i y ≠ [] ↔ ∃ p, Mb gs N p ∧ Fx i p ∧ nx p i = y := by
  constructor
  · intro hy
    obtain ⟨a, b, d, _⟩ := h.rep_mb h1 h2 hi hy
    exact ⟨_, a, b, d⟩
  · rintro ⟨p, hm, hf, rfl⟩
    exact (((h.up.sv i (Nat.zero_le _) (by omega) p).2 ((h.stab h1 h2 i (by omega) p).2 ⟨hm, hf⟩)).inv_low hi).2.2.1
/-- The sizes of the orbits of the points under the members that fix the points before them. -/
def IsOS (N : Nat) (gs : List (List Int)) (xs : List Int) : Prop := xs.length = N ∧ ∀ i, i < N → ∃ l : List Nat, l.Nodup ∧ (∀ y, y ∈ l ↔ y < N ∧ ∃ p, Mb gs N p ∧ Fx i p ∧ nx p i = y) ∧ xs.getD i 0 = (l.length : Int)
theorem IsOS.uniq {xs ys : List Int} (h : IsOS N gs xs) (h' : IsOS N gs ys) : xs = ys := by
  refine ext_getD h.1 h'.1 fun i hi => ?_
  obtain ⟨l, d, m, e⟩ := h.2 i hi
  obtain ⟨l', d', m', e'⟩ := h'.2 i hi
  have a := nd_sub d (fun x hx => (m' x).2 ((m x).1 hx))
  have b := nd_sub d' (fun x hx => (m x).2 ((m' x).1 hx))
  rw [e, e']; omega
/-- How many representatives a level has. -/
def nr (N : Nat) (c : Ch) (i m : Nat) : Nat := ((List.range m).filter fun y => !(c.rep i y).isEmpty).length
def osL (N : Nat) (c : Ch) (m : Nat) : List Int := (List.range m).map fun i => (nr N c i N : Int)
theorem nr_zero (N : Nat) (c : Ch) (i : Nat) : nr N c i 0 = 0 := rfl
theorem nr_yes {i m : Nat} (h : c.rep i m ≠ []) : nr N c i (m + 1) = nr N c i m + 1 := by
  unfold nr; rw [List.range_succ, List.filter_append]; simp [List.isEmpty_eq_false_iff.2 h]
theorem nr_no {i m : Nat} (h : c.rep i m = []) : nr N c i (m + 1) = nr N c i m := by
  unfold nr; rw [List.range_succ, List.filter_append]; simp [h]
theorem nr_le (i m : Nat) : nr N c i m ≤ m := by
  have := List.length_filter_le (fun y => !(c.rep i y).isEmpty) (List.range m)
  simpa [nr] using this
theorem osL_succ (m : Nat) : osL N c (m + 1) = osL N c m ++ [(nr N c m N : Int)] := by simp [osL, List.range_succ]
theorem osL_len (m : Nat) : (osL N c m).length = m := by simp [osL]
theorem osL_at {i m : Nat} (hi : i < m) : (osL N c m).getD i 0 = (nr N c i N : Int) := by
  unfold osL
  rw [List.getD_eq_getElem?_getD, List.getElem?_map, List.getElem?_range hi]; rfl
theorem Whole.os (h : Whole N gs c) (h1 : 1 ≤ N) (h2 : N ≤ 20) : IsOS N gs (osL N c N) := by
  refine ⟨osL_len N, fun i hi => ⟨(List.range N).filter fun y => !(c.rep i y).isEmpty, List.nodup_range.filter _, fun y => ?_, osL_at hi⟩⟩
  rw [List.mem_filter, List.mem_range, Bool.not_eq_true', List.isEmpty_eq_false_iff, h.rep_iff h1 h2 hi]
/-- Level i has a representative of i itself, and none below. -/
theorem Whole.nr_pos (h : Whole N gs c) (h1 : 1 ≤ N) {i : Nat} (hi : i < N) : 1 ≤ nr N c i N ∧ nr N c i N ≤ N - i := by
  have hr := h.up.rep i (Nat.zero_le _) hi
  constructor
  · unfold nr
    refine List.length_pos_of_mem (a := i) ?_
    rw [List.mem_filter, List.mem_range, Bool.not_eq_true', List.isEmpty_eq_false_iff]
    exact ⟨hi, by rw [hr.one]; intro e; have := idL_length N; rw [e] at this; simp at this; omega⟩
  · have : ((List.range N).filter fun y => !(c.rep i y).isEmpty).length ≤ (List.range' i (N - i)).length := by
      refine nd_sub (List.nodup_range.filter _) fun y hy => ?_
      rw [List.mem_filter, List.mem_range, Bool.not_eq_true', List.isEmpty_eq_false_iff] at hy
      obtain ⟨a1, a2, a3, a4⟩ := hr.at_ y hy.2
      have := a3.ge a2 hi
      rw [List.mem_range'_1]; omega
    simpa [nr] using this
/-- The product. -/
def prodL (l : List Int) : Int := l.foldl (fun a x => a * x) 1
theorem prodL_snoc (l : List Int) (x : Int) : prodL (l ++ [x]) = prodL l * x := by simp [prodL]
def facts : Nat → Nat → Nat
  | _, 0 => 1
  | N, m + 1 => facts N m * (N - m)
theorem facts_pos {N : Nat} : ∀ {m : Nat}, m ≤ N → 1 ≤ facts N m
  | 0, _ => Nat.le_refl _
  | m + 1, h => Nat.mul_pos (facts_pos (by omega)) (by omega)
theorem facts_mono {N m : Nat} (h : m < N) : facts N m ≤ facts N (m + 1) := Nat.le_mul_of_pos_right _ (by omega)
theorem facts_le {N : Nat} (hN : N ≤ 20) : ∀ m, m ≤ N → facts N m ≤ 2432902008176640000 := by
  have hall : ∀ N, N ≤ 20 → ∀ m, m ≤ N → facts N m ≤ 2432902008176640000 := by decide +kernel
  exact hall N hN
theorem Whole.prod_le (h : Whole N gs c) (h1 : 1 ≤ N) : ∀ m, m ≤ N → 1 ≤ prodL (osL N c m) ∧ prodL (osL N c m) ≤ (facts N m : Int)
  | 0, _ => by simp [osL, prodL, facts]
  | m + 1, hm => by
    obtain ⟨a, b⟩ := h.prod_le h1 m (by omega)
    obtain ⟨d, e⟩ := h.nr_pos h1 (i := m) hm
    rw [osL_succ, prodL_snoc]
    refine ⟨?_, ?_⟩
    · have := Int.mul_le_mul a (show (1 : Int) ≤ (nr N c m N : Int) by omega) (by omega) (by omega)
      simpa using this
    · have := Int.mul_le_mul b (show (nr N c m N : Int) ≤ ((N - m : Nat) : Int) by omega) (by omega) (by omega)
      show _ ≤ ((facts N m * (N - m) : Nat) : Int)
      rw [Int.natCast_mul]; exact this
end

set_option maxHeartbeats 400000 in
theorem specB2I (b : Bool) (w : World) : Calls Try.prog 97 #[.bool b] w fun e w' => e = .returned (.int .i64 (if b then 1 else 0)) ∧ w = w' := by
  cases b
  · go_enter Try.func97, Try.ntmps97
    go_wp2
    go_ret
    exact ⟨rfl, rfl⟩
  · go_enter Try.func97, Try.ntmps97
    go_wp2
    go_ret
    exact ⟨rfl, rfl⟩

set_option maxHeartbeats 2000000 in
set_option maxRecDepth 100000 in
theorem specSizes (base g N : Nat) (c : Ch) (L : LY) (gs : List (List Int)) (w : World) (hc : Cn w base g N c L) (hw : Whole N gs c) (hN1 : 1 ≤ N) (hN : N ≤ 20) :
    Calls Try.prog 67 #[.pointer (some ⟨g, 0, none⟩)] w fun e w' => ∃ A' c', e = .returned (.slice A' N c') ∧ Slc w' w.heap.size A' N c' (osL N c N) ∧ Below w.heap.size w w' := by
  have HC := Lib.hid hc
  have HW := Lib.hid hw
  have S0 := Lib.hid (Slc.lit0 w w.heap.size (Nat.le_refl _))
  clear hc hw
  go_enter Try.func67, Try.ntmps67
  go_wp2_with fail
  go_loopg [3, 4] N (fun gg v i wr => ∃ (k cc : Nat) (A : Option Addr), k ≤ N ∧ N - k ≤ gg ∧ i = .int .i64 (k : Nat) ∧ v = .slice A k cc ∧ Slc wr w.heap.size A k cc (osL N c k) ∧ Below w.heap.size w wr)
  case atStart => exact ⟨0, _, _, Nat.zero_le _, by omega, rfl, rfl, S0.out, (Below.refl _ _).alloc (Nat.le_refl _) _⟩
  case round =>
    clear S0
    obtain ⟨k, cc, A, hk, hgg, rfl, rfl, hs, bel⟩ := hrel
    have Ss := Lib.hid hs
    have Be := Lib.hid bel
    have C1 := Lib.hid (HC.out.up bel)
    have x0 := C1.out.c0
    clear hs bel
    by_cases hlt : k < N
    · go_wp2_with fail
      go_loopg [5, 6] N (fun gg s y wr2 => ∃ m : Nat, m ≤ N ∧ N - m ≤ gg ∧ y = .int .i64 (m : Nat) ∧ s = .int .i64 (nr N c k m : Nat) ∧ wr = wr2)
      case atStart => exact ⟨0, Nat.zero_le _, by omega, rfl, rfl, rfl⟩
      case round =>
        obtain ⟨m, hm, hg2, rfl, rfl, rfl⟩ := hrel
        by_cases hmt : m < N
        · have x1 := C1.out.c1
          have x2 := C1.out.cR hlt
          have x3 := C1.out.cro hlt hmt
          have en := C1.out.enn hlt hmt
          rcases hd : (L.en k).getD m sd0 with ⟨dA, dn, dc⟩
          rw [hd] at x3 en
          simp only [sval] at x3
          have q0 : (0 : Int) ≤ k := by omega
          have q1 : (k : Int) < N := by omega
          have q2 : (0 : Int) ≤ m := by omega
          have q3 : (m : Int) < N := by omega
          have hnm := nr_le (N := N) (c := c) k m
          have en2 : dn = (c.rep k m).length := en
          by_cases hz : c.rep k m = []
          · obtain rfl : dn = 0 := by rw [en2, hz]; rfl
            have d0 : decide ((0 : Int) < 0) = false := by decide
            have Kn := Lib.hid (nr_no (N := N) hz)
            clear hd en en2
            go_wp2_with (first | (go_at_call 97; refine (specB2I _ _).mono ?_; rintro e w' ⟨rfl, rfl⟩))
            go_roundg (N - (m + 1))
            case rel => exact ⟨m + 1, by omega, by omega, by go_num, by rw [Kn.out], rfl⟩
            case measure => omega
          · obtain rfl : dn = N := by
              have h2 := rep_ne_pos (HW.out.up.rep k (Nat.zero_le _) hlt) hz
              omega
            have d0 : decide ((0 : Int) < (dn : Int)) = true := by simp; omega
            have Kn := Lib.hid (nr_yes (N := dn) hz)
            clear hd en en2
            go_wp2_with (first | (go_at_call 97; refine (specB2I _ _).mono ?_; rintro e w' ⟨rfl, rfl⟩))
            go_roundg (dn - (m + 1))
            case rel => exact ⟨m + 1, by omega, by omega, by go_num, by rw [Kn.out]; go_num, rfl⟩
            case measure => omega
        · obtain rfl : m = N := by omega
          have hzr := Be.out.size
          have Osk := Lib.hid (osL_succ (N := m) (c := c) k)
          go_wp2_with (at_builtin; refine wpList_app1 rfl _ _ rfl w.heap.size A k cc _ rfl (Ss.out.alloc _) wr.heap.size (nr m c k m : Int) rfl (by rw [World.cell?_alloc_at _ _ _ _ rfl]; rfl) (by omega) (by simp; omega) ?_; intro A3 c3 w3 s3 g3)
          have S3 : Hid (Slc w3 w.heap.size A3 (k + 1) c3 (osL m c (k + 1))) := Lib.hid (by rw [Osk.out]; exact s3)
          have B3 : Hid (Below w.heap.size w w3) := Lib.hid ((Be.out.alloc hzr _).grown g3 (by simp; omega) (fun j hj => (Ss.out.lt_ j hj).1))
          clear s3 g3
          go_wp2_with fail
          go_roundg (m - (k + 1))
          case rel => exact ⟨k + 1, _, _, by omega, by omega, by go_num, rfl, S3.out, B3.out⟩
          case measure => omega
    · obtain rfl : k = N := by omega
      go_wp2_with fail
      go_ret
      exact ⟨_, _, rfl, Ss.out, Be.out⟩

theorem specOrder (base g N : Nat) (c : Ch) (L : LY) (gs : List (List Int)) (w : World) (hc : Cn w base g N c L) (hw : Whole N gs c) (hN1 : 1 ≤ N) (hN : N ≤ 20) :
    Calls Try.prog 68 #[.pointer (some ⟨g, 0, none⟩)] w fun e w' => e = .returned (.int .i64 (prodL (osL N c N))) ∧ Below w.heap.size w w' := by
  have HC := Lib.hid hc
  have HW := Lib.hid hw
  clear hc hw
  go_enter Try.func68, Try.ntmps68
  go_wp2_with fail
  refine (specSizes base g N c L gs w HC.out HW.out hN1 hN).mono ?_
  rintro e w1 ⟨A, cc, rfl, s1, b1⟩
  have S1 := Lib.hid s1
  have B1 := Lib.hid b1
  clear s1 b1
  go_wp2_with fail
  go_loop [3, 5] (fun o i => ∃ k : Nat, k ≤ N ∧ i = .int .i64 (k : Nat) ∧ o = .int .i64 (prodL (osL N c k))) (fun _ i => N - (intOf i).toNat)
  case atStart => exact ⟨0, Nat.zero_le _, rfl, rfl⟩
  case round =>
    obtain ⟨k, hk, rfl, rfl⟩ := hrel
    by_cases hlt : k < N
    · obtain ⟨b, off, rfl, hb, hcell⟩ := S1.out.ri_ (by rw [S1.out.1]; omega)
      have x1 := hcell k (by rw [S1.out.1]; exact hlt)
      rw [osL_at hlt] at x1
      have pl := HW.out.prod_le hN1 (k + 1) hlt
      have pf := facts_le hN (k + 1) hlt
      rw [osL_succ, prodL_snoc] at pl
      have wr1 : IntKind.i64.wrap (prodL (osL N c k) * (nr N c k N : Int)) = prodL (osL N c k) * (nr N c k N : Int) := by rw [IntKind.wrap_i64]; omega
      have e1 : prodL (osL N c (k + 1)) = prodL (osL N c k) * (nr N c k N : Int) := by rw [osL_succ, prodL_snoc]
      have E1 := Lib.hid e1
      have q0 : (0 : Int) ≤ k := by omega
      have q1 : (k : Int) < N := by omega
      clear hb hcell pl pf e1
      go_wp2_with fail
      go_round
      case rel => exact ⟨k + 1, by omega, by go_num, by rw [E1.out]⟩
      case measure => simp [intOf]; omega
    · obtain rfl : k = N := by omega
      go_wp2_with fail
      go_ret
      exact ⟨rfl, B1.out⟩
theorem specHas (base g N cp : Nat) (A : Option Addr) (c : Ch) (L : LY) (gs : List (List Int)) (p : List Int) (w : World) (hc : Cn w base g N c L) (hw : Whole N gs c) (hp : RI w w.heap.size A p) (hP : Hid (Pn N p)) (ans : Bool) (ha : Hid (ans = true ↔ Mb gs N p)) :
    Calls Try.prog 75 #[.pointer (some ⟨g, 0, none⟩), .slice A N cp] w fun e w' => e = .returned (.bool ans) ∧ Below w.heap.size w w' := by
  have HC := Lib.hid hc
  have HW := Lib.hid hw
  have HP := Lib.hid hp
  clear hc hw hp
  go_enter Try.func75, Try.ntmps75
  go_wp2_with fail
  have K := specSift base g N 0 cp A c L p w HC.out HP.out hP (Lib.hid Fx.zero) (Nat.zero_le _) (Lib.hid HW.out.up.rep)
  refine K.mono ?_
  rintro e w1 ⟨A1, n1, c1, lvl, rfl, hlv, hle, b1⟩
  have C1 := Lib.hid (HC.out.up b1)
  have B1 := Lib.hid b1
  have x0 := C1.out.c0
  have e1 : ((lvl : Int) == (N : Int)) = ans := by
    have h1 : Sv N c 0 p ↔ Mb gs N p := (HW.out.up.sv 0 (Nat.le_refl _) (Nat.zero_le _) p).trans (HW.out.mem p)
    have h2 : ans = true ↔ lvl = N := ha.out.trans (h1.symm.trans hlv.symm)
    rw [Bool.eq_iff_iff, h2, beq_iff_eq]; omega
  clear K hlv hle b1
  go_wp2_with fail
  go_ret
  exact ⟨rfl, B1.out⟩
end Go.Proofs.Ytcjcmhoalomjfab

/- insertSorted and sortedInts of the model. No condition but lengths. -/
namespace Go.Proofs.Ytcjcmhoalomjfab
open Go.RowKit

/-- The sorted list with v put in at k. -/
def putIn (ys : List Int) (k : Nat) (v : Int) : List Int := ys.take k ++ [v] ++ ys.drop k
theorem putIn_perm (ys : List Int) (k : Nat) (v : Int) : (putIn ys k v).Perm (v :: ys) := by
  unfold putIn
  have h : (ys.take k ++ [v]).Perm (v :: ys.take k) := List.perm_append_comm
  have := h.append_right (ys.drop k)
  rw [List.cons_append, List.take_append_drop] at this
  exact this
theorem putIn_sorted {ys : List Int} {k : Nat} {v : Int} (hs : ys.Pairwise (· ≤ ·)) (h1 : ∀ j, j < k → ys.getD j 0 < v) (h2 : k < ys.length → v ≤ ys.getD k 0) : (putIn ys k v).Pairwise (· ≤ ·) := by
  unfold putIn
  have hd : ∀ b ∈ ys.drop k, v ≤ b := fun b hb => by
    obtain ⟨j, hj, e⟩ := List.mem_iff_getElem.1 hb
    rw [List.length_drop] at hj
    rw [List.getElem_drop] at e
    have h3 := h2 (by omega)
    rw [List.getD_eq_getElem?_getD, List.getElem?_eq_getElem (by omega : k < ys.length)] at h3
    rw [List.pairwise_iff_getElem] at hs
    rw [← e]
    by_cases e0 : j = 0
    · subst e0; simpa using h3
    · have := hs k (k + j) (by omega) (by omega) (by omega)
      have h3' : v ≤ ys[k] := by simpa using h3
      omega
  have ht : ∀ a ∈ ys.take k, a < v := fun a ha => by
    obtain ⟨j, hj, e⟩ := List.mem_iff_getElem.1 ha
    rw [List.length_take] at hj
    rw [List.getElem_take] at e
    have := h1 j (by omega)
    rw [List.getD_eq_getElem?_getD, List.getElem?_eq_getElem (by omega)] at this
    rw [← e]; simpa using this
  rw [List.append_assoc, List.pairwise_append]
  refine ⟨hs.sublist (List.take_sublist _ _), ?_, fun a ha b hb => ?_⟩
  · rw [List.singleton_append, List.pairwise_cons]
    exact ⟨hd, hs.sublist (List.drop_sublist _ _)⟩
  · have := ht a ha
    rcases List.mem_append.1 hb with hb | hb
    · obtain rfl : b = v := by simpa using hb
      omega
    · have := hd b hb; omega

set_option maxHeartbeats 2000000 in
set_option maxRecDepth 100000 in
/-- insertSorted, of a number that the list lacks. -/
theorem specIns (g n c base : Nat) (ys : List Int) (v : Int) (w : World) (h : Slc w base (some ⟨g, 0, none⟩) n c ys) (hv : Hid (v ∉ ys)) (hn : n ≤ 1000) :
    Calls Try.prog 121 #[.slice (some ⟨g, 0, none⟩) n c, .int .i64 v] w fun e w' => ∃ g' c' zs, e = .returned (.slice (some ⟨g', 0, none⟩) (n + 1) c') ∧ Slc w' w.heap.size (some ⟨g', 0, none⟩) (n + 1) c' zs ∧ zs.Perm (v :: ys) ∧ (ys.Pairwise (· ≤ ·) → zs.Pairwise (· ≤ ·)) ∧ Below w.heap.size w w' := by
  have H := Lib.hid h
  have lx := h.1
  have hnc := h.le.1
  have ri := Lib.hid h.ri_
  clear h
  go_enter Try.func121, Try.ntmps121
  go_wp2
  go_loop [5] (fun i => ∃ k : Nat, k ≤ n ∧ i = .int .i64 (k : Nat) ∧ ∀ j, j < k → ys.getD j 0 < v) (fun i => n - (intOf i).toNat)
  case atStart => exact ⟨0, Nat.zero_le _, rfl, fun j h => absurd h (by omega)⟩
  case round =>
    obtain ⟨k, hk, rfl, hz⟩ := hrel
    have Hz := Lib.hid hz
    clear hz
    have EndIt : Hid (∀ (hge : k < n → v ≤ ys.getD k 0), (putIn ys k v).Perm (v :: ys) ∧ (ys.Pairwise (· ≤ ·) → (putIn ys k v).Pairwise (· ≤ ·))) := Lib.hid fun hge => ⟨putIn_perm _ _ _, fun hs => putIn_sorted hs Hz.out (fun h => hge (by rw [← lx]; exact h))⟩
    have RIt : Hid (RI w w.heap.size (some ⟨g, 0, none⟩) (ys.take k)) := Lib.hid (takeRI ri.out k)
    have ltk : Hid ((ys.take k).length = k) := Lib.hid (by rw [List.length_take]; omega)
    have ldr : Hid ((ys.drop k).length = n - k) := Lib.hid (by rw [List.length_drop]; omega)
    have DrX : Hid (∀ w3 : World, Below w.heap.size w w3 → RI w3 w3.heap.size (some ⟨g, k, none⟩) (ys.drop k)) := Lib.hid fun w3 hb => dropRI H.out hb fun _ => rfl
    have ld0 : Hid (c = k → (ys.drop k).length = 0) := Lib.hid fun e => by have := ldr.out; omega
    have Dr0 : Hid (c = k → ∀ w3 : World, Below w.heap.size w w3 → RI w3 w3.heap.size (some ⟨g, 0, none⟩) (ys.drop k)) := Lib.hid fun e w3 hb => dropRI H.out hb fun h => by omega
    have p1 : (k : Int) ≤ c := by omega
    by_cases hlt : k < n
    · obtain ⟨b, off, e1, hb, hc⟩ := ri.out (by rw [lx]; omega)
      have c1 := hc k (by rw [lx]; exact hlt)
      obtain ⟨rfl, rfl⟩ : g = b ∧ 0 = off := by injection e1 with e1; injection e1 with e1 e2; exact ⟨e1, e2⟩
      rw [Nat.zero_add] at c1
      have hne : ys.getD k 0 ≠ v := fun e => hv.out (by rw [← e]; exact (by rw [List.getD_eq_getElem?_getD, List.getElem?_eq_getElem (by omega)]; exact List.getElem_mem _))
      obtain ⟨u, eu⟩ : ∃ u, ys.getD k 0 = u := ⟨_, rfl⟩
      rw [eu] at c1 hne
      have Eu := Lib.hid eu
      clear eu hc e1
      by_cases hlv : u < v
      · go_wp2
        go_round
        case rel => exact ⟨k + 1, by omega, by go_num, fun j hj => by
          by_cases e : j = k
          · subst e; rw [Eu.out]; exact hlv
          · exact Hz.out j (by omega)⟩
        case measure => simp [intOf]; omega
      · have Z := Lib.hid (EndIt.out (fun _ => by rw [Eu.out]; omega))
        have hck : ¬ c = k := by omega
        clear EndIt
        go_wp2_with fail
        refine (copyRI g 0 k _ (ys.take k) w RIt.out ltk.out (by omega)).mono ?_
        rintro e w2 ⟨A2, c2, rfl, s2, b2⟩
        have S2 := Lib.hid s2
        have B2 := Lib.hid b2
        have Z2 := b2.size
        clear s2 b2
        go_wp2_with (first
            | (at_builtin; refine wpList_app1 rfl _ _ rfl w.heap.size A2 k c2 _ rfl (S2.out.alloc _) w2.heap.size v rfl (by rw [World.cell?_alloc_at _ _ _ _ rfl]; rfl) (by omega) (by simp; omega) ?_; intro A3 c3 w3 s3 g3; have B3 : Hid (Below w.heap.size w w3) := Lib.hid ((B2.out.alloc B2.out.size _).grown g3 (by simp; omega) (fun j hj => (S2.out.lt_ j hj).1)); have S3 := Lib.hid s3; clear s3 g3)
            | (at_builtin; refine wpList_appN rfl _ _ rfl w.heap.size A3 (k + 1) c3 _ rfl S3.out g k (n - k) (c - k) (ys.drop k) rfl (DrX.out _ B3.out) ldr.out (by omega) B3.out.size ?_; intro A4 c4 w4 s4 g4))
        have S4 : Hid (Slc w4 w.heap.size A4 (n + 1) c4 (putIn ys k v)) := Lib.hid (by
          have := s4
          rw [show k + 1 + (n - k) = n + 1 from by omega] at this
          exact this)
        have B4 : Hid (Below w.heap.size w w4) := Lib.hid (B3.out.grown g4 B3.out.size (fun j hj => (S3.out.lt_ j hj).1))
        rw [show k + 1 + (n - k) = n + 1 from by omega]
        clear s4 g4
        obtain ⟨q4, rfl⟩ : ∃ q4, A4 = some ⟨q4, 0, none⟩ := by
          rcases S4.out.at_ with ⟨_, _, e0, _⟩ | ⟨q4, e0, _, _⟩
          · omega
          · exact ⟨q4, e0⟩
        go_wp2
        go_ret
        exact ⟨_, _, _, rfl, S4.out, Z.out.1, Z.out.2, B4.out⟩
    · have hkn : k = n := by omega
      have Z := Lib.hid (EndIt.out (fun h => absurd h hlt))
      subst hkn
      clear EndIt
      by_cases hck : c = k
      · subst hck
        go_wp2_with fail
        refine (copyRI g 0 c _ (ys.take c) w RIt.out ltk.out (by omega)).mono ?_
        rintro e w2 ⟨A2, c2, rfl, s2, b2⟩
        have S2 := Lib.hid s2
        have B2 := Lib.hid b2
        have Z2 := b2.size
        clear s2 b2
        go_wp2_with (first
            | (at_builtin; refine wpList_app1 rfl _ _ rfl w.heap.size A2 c c2 _ rfl (S2.out.alloc _) w2.heap.size v rfl (by rw [World.cell?_alloc_at _ _ _ _ rfl]; rfl) (by omega) (by simp; omega) ?_; intro A3 c3 w3 s3 g3; have B3 : Hid (Below w.heap.size w w3) := Lib.hid ((B2.out.alloc B2.out.size _).grown g3 (by simp; omega) (fun j hj => (S2.out.lt_ j hj).1)); have S3 := Lib.hid s3; clear s3 g3)
            | (at_builtin; refine wpList_appN rfl _ _ rfl w.heap.size A3 (c + 1) c3 _ rfl S3.out g 0 0 0 (ys.drop c) rfl (Dr0.out trivial _ B3.out) (ld0.out trivial) (by omega) B3.out.size ?_; intro A4 c4 w4 s4 g4))
        have S4 : Hid (Slc w4 w.heap.size A4 (c + 1) c4 (putIn ys c v)) := Lib.hid s4
        have B4 : Hid (Below w.heap.size w w4) := Lib.hid (B3.out.grown g4 B3.out.size (fun j hj => (S3.out.lt_ j hj).1))
        clear s4 g4
        obtain ⟨q4, rfl⟩ : ∃ q4, A4 = some ⟨q4, 0, none⟩ := by
          rcases S4.out.at_ with ⟨_, _, e0, _⟩ | ⟨q4, e0, _, _⟩
          · omega
          · exact ⟨q4, e0⟩
        go_wp2
        go_ret
        exact ⟨_, _, _, rfl, S4.out, Z.out.1, Z.out.2, B4.out⟩
      · have ld1 : Hid ((ys.drop k).length = k - k) := ldr
        go_wp2_with fail
        refine (copyRI g 0 k _ (ys.take k) w RIt.out ltk.out (by omega)).mono ?_
        rintro e w2 ⟨A2, c2, rfl, s2, b2⟩
        have S2 := Lib.hid s2
        have B2 := Lib.hid b2
        have Z2 := b2.size
        clear s2 b2
        go_wp2_with (first
            | (at_builtin; refine wpList_app1 rfl _ _ rfl w.heap.size A2 k c2 _ rfl (S2.out.alloc _) w2.heap.size v rfl (by rw [World.cell?_alloc_at _ _ _ _ rfl]; rfl) (by omega) (by simp; omega) ?_; intro A3 c3 w3 s3 g3; have B3 : Hid (Below w.heap.size w w3) := Lib.hid ((B2.out.alloc B2.out.size _).grown g3 (by simp; omega) (fun j hj => (S2.out.lt_ j hj).1)); have S3 := Lib.hid s3; clear s3 g3)
            | (at_builtin; refine wpList_appN rfl _ _ rfl w.heap.size A3 (k + 1) c3 _ rfl S3.out g k 0 (c - k) (ys.drop k) rfl (DrX.out _ B3.out) (by rw [ld1.out]; omega) (by omega) B3.out.size ?_; intro A4 c4 w4 s4 g4))
        have S4 : Hid (Slc w4 w.heap.size A4 (k + 1) c4 (putIn ys k v)) := Lib.hid s4
        have B4 : Hid (Below w.heap.size w w4) := Lib.hid (B3.out.grown g4 B3.out.size (fun j hj => (S3.out.lt_ j hj).1))
        clear s4 g4
        obtain ⟨q4, rfl⟩ : ∃ q4, A4 = some ⟨q4, 0, none⟩ := by
          rcases S4.out.at_ with ⟨_, _, e0, _⟩ | ⟨q4, e0, _, _⟩
          · omega
          · exact ⟨q4, e0⟩
        go_wp2
        go_ret
        exact ⟨_, _, _, rfl, S4.out, Z.out.1, Z.out.2, B4.out⟩

end Go.Proofs.Ytcjcmhoalomjfab

/- Members with given entries, by the model's chain. Conditions: at most 20 points, 8 generators. -/
namespace Go.Proofs.Ytcjcmhoalomjfab
open Go.RowKit

/-- The entries that level i allows behind p, among the first m points. -/
def chL (c : Ch) (i : Nat) (p : List Int) (m : Nat) : List Int := ((List.range m).filter fun y => !(c.rep i y).isEmpty).map fun y => (nx p y : Int)
theorem chL_yes {c : Ch} {i m : Nat} {p : List Int} (h : c.rep i m ≠ []) : chL c i p (m + 1) = chL c i p m ++ [(nx p m : Int)] := by
  unfold chL; rw [List.range_succ, List.filter_append]; simp [List.isEmpty_eq_false_iff.2 h]
theorem chL_no {c : Ch} {i m : Nat} {p : List Int} (h : c.rep i m = []) : chL c i p (m + 1) = chL c i p m := by
  unfold chL; rw [List.range_succ, List.filter_append]; simp [h]
theorem chL_mem {c : Ch} {i m : Nat} {p : List Int} {v : Int} : v ∈ chL c i p m ↔ ∃ y, y < m ∧ c.rep i y ≠ [] ∧ (nx p y : Int) = v := by
  simp only [chL, List.mem_map, List.mem_filter, List.mem_range, Bool.not_eq_true', List.isEmpty_eq_false_iff, and_assoc]
theorem chL_len (c : Ch) (i : Nat) (p : List Int) (m : Nat) : (chL c i p m).length ≤ m := by
  unfold chL; rw [List.length_map]
  have := List.length_filter_le (fun y => !(c.rep i y).isEmpty) (List.range m)
  simpa using this

set_option maxHeartbeats 2000000 in
set_option maxRecDepth 100000 in
theorem specChoices (base g N i cp : Nat) (A : Option Addr) (c : Ch) (L : LY) (gs : List (List Int)) (p : List Int) (w : World) (hc : Cn w base g N c L) (hw : Whole N gs c) (hp : RI w w.heap.size A p) (hP : Hid (Pn N p)) (hi : i < N) :
    Calls Try.prog 95 #[.pointer (some ⟨g, 0, none⟩), .int .i64 (i : Nat), .slice A N cp] w fun e w' => ∃ g' m cc zs, e = .returned (.slice (some ⟨g', 0, none⟩) m cc) ∧ Slc w' w.heap.size (some ⟨g', 0, none⟩) m cc zs ∧ zs.Perm (chL c i p N) ∧ zs.Pairwise (· ≤ ·) ∧ Below w.heap.size w w' := by
  have HC := Lib.hid hc
  have HW := Lib.hid hw
  have HP := Lib.hid hp
  have hN := hP.out.pos
  have S0 := Lib.hid (Slc.lit0 w w.heap.size (Nat.le_refl _))
  clear hc hw hp
  go_enter Try.func95, Try.ntmps95
  go_wp2_with fail
  go_loopw [7, 8] (fun v j wr => ∃ (k m cc q : Nat) (zs : List Int), k ≤ N ∧ m ≤ k ∧ j = .int .i64 (k : Nat) ∧ v = .slice (some ⟨q, 0, none⟩) m cc ∧ Slc wr w.heap.size (some ⟨q, 0, none⟩) m cc zs ∧ zs.Perm (chL c i p k) ∧ zs.Pairwise (· ≤ ·) ∧ Below w.heap.size w wr) (fun _ j _ => N - (intOf j).toNat)
  case atStart => exact ⟨0, 0, _, _, [], Nat.zero_le _, Nat.le_refl _, rfl, rfl, S0.out, .refl _, .nil, (Below.refl _ _).alloc (Nat.le_refl _) _⟩
  case round =>
    clear S0
    obtain ⟨k, m, cc, q, zs, hk, hmk, rfl, rfl, hs, hpm, hso, bel⟩ := hrel
    have Ss := Lib.hid hs
    have Be := Lib.hid bel
    have Pm1 := Lib.hid hpm
    have So := Lib.hid hso
    have C1 := Lib.hid (HC.out.up bel)
    have x0 := C1.out.c0
    clear hs hpm hso
    by_cases hlt : k < N
    · have x1 := C1.out.c1
      have x2 := C1.out.cR hi
      have x3 := C1.out.cro hi hlt
      have en := C1.out.enn hi hlt
      rcases hd : (L.en i).getD k sd0 with ⟨dA, dn, dc⟩
      rw [hd] at x3 en
      simp only [sval] at x3
      have q0 : (0 : Int) ≤ k := by omega
      have q1 : (k : Int) < N := by omega
      have q2 : (0 : Int) ≤ i := by omega
      have q3 : (i : Int) < N := by omega
      have en2 : dn = (c.rep i k).length := en
      by_cases hz : c.rep i k = []
      · obtain rfl : dn = 0 := by rw [en2, hz]; rfl
        have d0 : decide ((0 : Int) < 0) = false := by decide
        have Kn := Lib.hid (chL_no (p := p) hz)
        clear hd en en2 bel
        go_wp2_with fail
        go_roundw
        case rel => exact ⟨k + 1, m, cc, q, zs, by omega, by omega, by go_num, rfl, Ss.out, by rw [Kn.out]; exact Pm1.out, So.out, Be.out⟩
        case measure => simp [intOf]; omega
      · obtain rfl : dn = N := by
          have h2 := rep_ne_pos (HW.out.up.rep i (Nat.zero_le _) hi) hz
          omega
        have d0 : decide ((0 : Int) < (dn : Int)) = true := by simp; omega
        have Kn := Lib.hid (chL_yes (p := p) hz)
        obtain ⟨b, off, rfl, hb, hcell⟩ := (HP.out.up bel) (by rw [hP.out.2]; omega)
        have x4 := hcell k (by rw [hP.out.2]; exact hlt)
        rw [nx_val hP.out.1 (by rw [hP.out.2]; exact hlt)] at x4
        have hv : Hid (((nx p k : Nat) : Int) ∉ zs) := Lib.hid fun hm => by
          obtain ⟨y, hy, _, e⟩ := chL_mem.1 (Pm1.out.mem_iff.1 hm)
          have := hP.out.inj (x := y) (y := k) (by omega) hlt (by omega)
          omega
        obtain ⟨v, ev⟩ : ∃ v, nx p k = v := ⟨_, rfl⟩
        rw [ev] at x4 hv Kn
        clear hd en en2 bel hb hcell ev
        go_wp2_with fail
        refine (specIns q m cc w.heap.size zs (v : Int) wr Ss.out hv (by omega)).mono ?_
        rintro e w2 ⟨g2, c2, zs2, rfl, s2, p2, o2, b2⟩
        have S2 : Hid (Slc w2 w.heap.size (some ⟨g2, 0, none⟩) (m + 1) c2 zs2) := Lib.hid (s2.mono Be.out.size)
        have P2 : Hid (zs2.Perm (chL c i p (k + 1))) := Lib.hid (by
          rw [Kn.out]
          exact (p2.trans (Pm1.out.cons _)).trans (by simpa using (List.perm_append_comm (l₁ := [(v : Int)]) (l₂ := chL c i p k))))
        have O2 := Lib.hid (o2 So.out)
        have Be2 : Hid (Below w.heap.size w w2) := Lib.hid (btr Be.out b2)
        clear s2 p2 o2 b2
        go_wp2_with fail
        go_roundw
        case rel => exact ⟨k + 1, m + 1, c2, g2, zs2, by omega, by omega, by go_num, rfl, S2.out, P2.out, O2.out, Be2.out⟩
        case measure => simp [intOf]; omega
    · obtain rfl : k = N := by omega
      clear bel
      go_wp2_with fail
      go_ret
      exact ⟨q, m, cc, zs, rfl, Ss.out, Pm1.out, So.out, Be.out⟩

set_option maxHeartbeats 2000000 in
set_option maxRecDepth 100000 in
theorem specWithEntry (base g N i v y cp : Nat) (A : Option Addr) (c : Ch) (L : LY) (p : List Int) (w : World) (hc : Cn w base g N c L) (hp : RI w w.heap.size A p) (hP : Hid (Pn N p)) (hi : i < N) (hy : y < N) (hv : Hid (nx p y = v)) (hz : Hid (Pn N (c.rep i y))) :
    Calls Try.prog 96 #[.pointer (some ⟨g, 0, none⟩), .int .i64 (i : Nat), .slice A N cp, .int .i64 (v : Nat)] w fun e w' => ∃ A' c', e = .returned (.slice A' N c') ∧ Slc w' w.heap.size A' N c' (compL (c.rep i y) p) ∧ Below w.heap.size w w' := by
  have HC := Lib.hid hc
  have HP := Lib.hid hp
  have hN := hP.out.pos
  have x1 := hc.c1
  have x2 := hc.cR hi
  have q0 : (0 : Int) ≤ v := by omega
  have hvN : v < N := by rw [← hv.out]; exact hP.out.lt hy
  have q1 : (v : Int) < N := by omega
  have q2 : (0 : Int) ≤ i := by omega
  have q3 : (i : Int) < N := by omega
  have q4 : (0 : Int) ≤ y := by omega
  have q5 : (y : Int) < N := by omega
  have x3 := hc.cro hi hy
  have en := hc.enn hi hy
  rcases hd : (L.en i).getD y sd0 with ⟨dA, dn, dc⟩
  rw [hd] at x3 en
  simp only [sval] at x3
  obtain rfl : dn = N := by
    have h1 : dn = (c.rep i y).length := en
    rw [h1, hz.out.2]
  have Hd := Lib.hid hd
  clear hc hp hd en
  go_enter Try.func96, Try.ntmps96
  go_wp2_with fail
  have Iv : Hid ((invL p dn).getD v 0 = (y : Int)) := Lib.hid (by
    have e1 : invL p dn = iv p := by unfold iv; rw [hP.out.2]
    have e2 := hP.out.nxi hy
    rw [hv.out] at e2
    have h3 := hP.out.iv
    rw [e1, nx_val h3.1 (by rw [h3.2]; exact hvN), e2])
  go_region_law ((go_simp; go_wp2_with (first
    | (go_at_call 38; refine (specInv A cp dn p w.drew HP.out (Lib.hid hP.out.2) (Lib.hid hP.out.1) hN.2).mono ?_; rintro e w1 ⟨A1, c1, rfl, s1, b1⟩
       have b1' : Below w.heap.size w w1 := ⟨b1.os, b1.tape, b1.output, b1.size, b1.block⟩
       have C1 := HC.out.up b1'
       have z1 := C1.c1
       have z2 := C1.cR hi
       have z3 := C1.cro hi hy
       rw [Hd.out] at z3
       simp only [sval] at z3
       obtain ⟨bb, off, hA1, hb1, hc1⟩ := s1.ri_ (by rw [s1.1]; omega)
       subst hA1
       have z4 := hc1 v (by rw [s1.1]; exact hvN)
       rw [Iv.out] at z4
       have E0 := C1.ent1 i hi y hy
       rw [Hd.out] at E0
       have E1 := Lib.hid E0
       have M1 := Lib.hid (HP.out.up b1')
       have B1 := Lib.hid b1'
       clear hb1 hc1 s1 b1 b1' C1 E0)
    | (go_at_call 37; (first | refine (specComp dA A dc cp dn (c.rep i y) p w1 E1.out.ri_ M1.out (Lib.hid hz.out.2) (Lib.hid hP.out.2) (Lib.hid hz.out.1) hN.2).mono ?_ | refine (specComp dA A dc cp dn (c.rep i y) p w1.drew E1.out.ri_ M1.out (Lib.hid hz.out.2) (Lib.hid hP.out.2) (Lib.hid hz.out.1) hN.2).mono ?_); rintro e w2 ⟨A2, c2, rfl, s2, b2⟩))))
  all_goals (go_wp2_with fail; go_ret; exact ⟨A2, c2, rfl, s2.mono B1.out.size, btr B1.out b2⟩)
end Go.Proofs.Ytcjcmhoalomjfab

/- The smallest member with a prefix: what it is, and that the model finds it. Conditions: at most 20 points, 8 generators. -/
namespace Go.Proofs.Ytcjcmhoalomjfab
open Go.RowKit

/-- m is the member with the prefix whose further entries are as small as can be, one after the other. -/
def Greedy (N : Nat) (gs : List (List Int)) (pre m : List Int) : Prop :=
  Mb gs N m ∧ ∀ i, i < N → (i < pre.length → (nx m i : Int) = pre.getD i 0) ∧ (pre.length ≤ i → ∀ q, Mb gs N q → (∀ t, t < i → nx q t = nx m t) → nx m i ≤ nx q i)
def NoMem (N : Nat) (gs : List (List Int)) (pre : List Int) : Prop := ∀ q, Mb gs N q → ¬ ∀ t, t < pre.length → (nx q t : Int) = pre.getD t 0
/-- What MemberWithPrefix answers. -/
def IsMwp (N : Nat) (gs : List (List Int)) (pre m : List Int) (ok : Bool) : Prop := (ok = true ∧ Greedy N gs pre m) ∨ (ok = false ∧ m = [] ∧ NoMem N gs pre)
section
variable {N : Nat} {gs : List (List Int)} {pre m m' : List Int}
theorem Greedy.uniq (h1 : 1 ≤ N) (h2 : N ≤ 20) (hg : ∀ g ∈ gs, Pn N g) (h : Greedy N gs pre m) (h' : Greedy N gs pre m') : m = m' := by
  have hp := h.1.pn hg h1 h2
  have hp' := h'.1.pn hg h1 h2
  refine hp.ext hp' fun x hx => ?_
  induction x using Nat.strongRecOn with
  | ind x ih =>
    by_cases hl : x < pre.length
    · have a := (h.2 x hx).1 hl
      have b := (h'.2 x hx).1 hl
      omega
    · have a := (h.2 x hx).2 (by omega) m' h'.1 fun t ht => (ih t ht (by omega)).symm
      have b := (h'.2 x hx).2 (by omega) m h.1 fun t ht => ih t ht (by omega)
      omega
theorem Greedy.has (h : Greedy N gs pre m) (hl : pre.length ≤ N) : ¬ NoMem N gs pre := fun hn => hn m h.1 fun t ht => (h.2 t (by omega)).1 ht
theorem IsMwp.uniq {ok ok' : Bool} (h1 : 1 ≤ N) (h2 : N ≤ 20) (hg : ∀ g ∈ gs, Pn N g) (hl : pre.length ≤ N) (h : IsMwp N gs pre m ok) (h' : IsMwp N gs pre m' ok') : m = m' ∧ ok = ok' := by
  rcases h with ⟨rfl, a⟩ | ⟨rfl, rfl, a⟩ <;> rcases h' with ⟨rfl, b⟩ | ⟨rfl, rfl, b⟩
  · exact ⟨a.uniq h1 h2 hg b, rfl⟩
  · exact absurd b (a.has hl)
  · exact absurd a (b.has hl)
  · exact ⟨rfl, rfl⟩
/-- m keeps to it in its first k entries. -/
def GrTo (N : Nat) (gs : List (List Int)) (pre m : List Int) (k : Nat) : Prop :=
  Mb gs N m ∧ ∀ i, i < k → (i < pre.length → (nx m i : Int) = pre.getD i 0) ∧ (pre.length ≤ i → ∀ q, Mb gs N q → (∀ t, t < i → nx q t = nx m t) → nx m i ≤ nx q i)
/-- The entries that level i allows are those of the members that agree before. -/
theorem Whole.choice {c : Ch} (h : Whole N gs c) (h1 : 1 ≤ N) (h2 : N ≤ 20) (hg : ∀ g ∈ gs, Pn N g) {i : Nat} (hi : i < N) (hm : Mb gs N m) {v : Int} : v ∈ chL c i m N ↔ ∃ q, Mb gs N q ∧ (∀ t, t < i → nx q t = nx m t) ∧ (nx q i : Int) = v := by
  have hp := hm.pn hg h1 h2
  rw [chL_mem]
  constructor
  · rintro ⟨y, hy, hr, rfl⟩
    obtain ⟨a, b, d, _⟩ := h.rep_mb h1 h2 hi hr
    have hr' := a.pn hg h1 h2
    refine ⟨compL (c.rep i y) m, a.comp hg h1 h2 hm, fun t ht => ?_, ?_⟩
    · rw [hr'.nxc (by omega), b t ht]
    · rw [hr'.nxc hi, d]
  · rintro ⟨q, hq, ha, rfl⟩
    have hq' := hq.pn hg h1 h2
    have hmi := hp.iv
    refine ⟨nx (iv m) (nx q i), hmi.lt (hq'.lt hi), (h.rep_iff h1 h2 hi).2 ⟨compL q (iv m), hq.comp hg h1 h2 (hm.inv hg h1 h2), fun t ht => ?_, ?_⟩, ?_⟩
    · rw [hq'.nxc (by omega), ha t ht, hp.nxi (by omega)]
    · rw [hq'.nxc hi]
    · rw [hp.nxi' (hq'.lt hi)]
theorem GrTo.step {c : Ch} {k : Nat} (h : GrTo N gs pre m k) (hw : Whole N gs c) (h1 : 1 ≤ N) (h2 : N ≤ 20) (hg : ∀ g ∈ gs, Pn N g) (hk : k < N) {y : Nat} (hr : c.rep k y ≠ []) (hv : (k < pre.length → (nx m y : Int) = pre.getD k 0) ∧ (pre.length ≤ k → ∀ v ∈ chL c k m N, (nx m y : Int) ≤ v)) : GrTo N gs pre (compL (c.rep k y) m) (k + 1) := by
  obtain ⟨a, b, d, _⟩ := hw.rep_mb h1 h2 hk hr
  have hr' := a.pn hg h1 h2
  have e : ∀ t, t < k → nx (compL (c.rep k y) m) t = nx m t := fun t ht => by rw [hr'.nxc (by omega), b t ht]
  have e2 : nx (compL (c.rep k y) m) k = nx m y := by rw [hr'.nxc hk, d]
  refine ⟨a.comp hg h1 h2 h.1, fun i hi => ?_⟩
  rcases Nat.lt_or_ge i k with hl | hl
  · rw [e i hl]
    exact ⟨(h.2 i hl).1, fun hp q hq hag => (h.2 i hl).2 hp q hq fun t ht => (hag t ht).trans (e t (by omega))⟩
  · obtain rfl : i = k := by omega
    rw [e2]
    refine ⟨hv.1, fun hp q hq hag => ?_⟩
    have := hv.2 hp (nx q i : Int) ((hw.choice h1 h2 hg hk h.1).2 ⟨q, hq, fun t ht => (hag t ht).trans (e t ht), rfl⟩)
    omega
theorem GrTo.no {c : Ch} {k : Nat} (h : GrTo N gs pre m k) (hw : Whole N gs c) (h1 : 1 ≤ N) (h2 : N ≤ 20) (hg : ∀ g ∈ gs, Pn N g) (hk : k < N) (hl : k < pre.length) (hn : pre.getD k 0 ∉ chL c k m N) : NoMem N gs pre := fun q hq hag =>
  hn ((hw.choice h1 h2 hg hk h.1).2 ⟨q, hq, fun t ht => by
    have a := hag t (by omega)
    have b := (h.2 t ht).1 (by omega)
    omega, hag k hl⟩)
theorem hasB_in (xs : List Int) (x : Int) : hasB xs x = decide (x ∈ xs) := by
  unfold hasB
  rw [Bool.eq_iff_iff]
  simp only [decide_eq_true_eq]
  constructor
  · rintro ⟨k, hk, e⟩
    rw [← e, List.getD_eq_getElem?_getD, List.getElem?_eq_getElem hk]; exact List.getElem_mem _
  · intro h
    obtain ⟨k, hk, e⟩ := List.mem_iff_getElem.1 h
    exact ⟨k, hk, by rw [List.getD_eq_getElem?_getD, List.getElem?_eq_getElem hk, ← e]; rfl⟩
end

set_option maxHeartbeats 4000000 in
set_option maxRecDepth 100000 in
theorem specMwp (base g N np cp : Nat) (A : Option Addr) (c : Ch) (L : LY) (gs : List (List Int)) (pre : List Int) (w : World) (hc : Cn w base g N c L) (hw : Whole N gs c) (hp : RI w w.heap.size A pre) (lp : Hid (pre.length = np)) (hnp : np ≤ N) (hN1 : 1 ≤ N) (hN : N ≤ 20) (hg : Hid (∀ g ∈ gs, Pn N g)) :
    Calls Try.prog 65 #[.pointer (some ⟨g, 0, none⟩), .slice A np cp] w fun e w' => ∃ A' n' c' m ok, e = .returned (.tuple #[.slice A' n' c', .bool ok]) ∧ Slc w' w.heap.size A' n' c' m ∧ IsMwp N gs pre m ok ∧ Below w.heap.size w w' := by
  have HC := Lib.hid hc
  have HW := Lib.hid hw
  have HP := Lib.hid hp
  have x0 := hc.c0
  clear hc hw hp
  go_enter Try.func65, Try.ntmps65
  go_wp2_with fail
  refine (specIdent N w (by omega)).mono ?_
  rintro e w1 ⟨A1, c1, rfl, s1, b1⟩
  have S1 := Lib.hid s1
  have B1 := Lib.hid b1
  clear s1 b1 x0
  go_wp2_with fail
  go_loopw [6, 7] (fun v i wr => ∃ (k cc : Nat) (M : Option Addr) (m : List Int), k ≤ N ∧ i = .int .i64 (k : Nat) ∧ v = .slice M N cc ∧ Slc wr w.heap.size M N cc m ∧ GrTo N gs pre m k ∧ Below w.heap.size w wr) (fun _ i _ => N - (intOf i).toNat)
  case atStart => exact ⟨0, _, _, _, Nat.zero_le _, rfl, rfl, S1.out, ⟨.one, fun i hi => absurd hi (by omega)⟩, B1.out⟩
  case round =>
    clear S1 B1
    obtain ⟨k, cc, M, m, hk, rfl, rfl, hs, hgr, bel⟩ := hrel
    have Ss := Lib.hid hs
    have Gr := Lib.hid hgr
    have Be := Lib.hid bel
    have C1 := Lib.hid (HC.out.up bel)
    have x0 := C1.out.c0
    have MP : Hid (Pn N m) := Lib.hid (hgr.1.pn hg.out hN1 hN)
    clear hs hgr bel
    by_cases hlt : k < N
    · go_wp2_with fail
      refine (specChoices base g N k cc M c L gs m wr C1.out HW.out Ss.out.ri_ MP hlt).mono ?_
      rintro e w2 ⟨g2, m2, c2, zs, rfl, s2, p2, o2, b2⟩
      have S2 := Lib.hid s2
      have P2 := Lib.hid p2
      have O2 := Lib.hid o2
      have Ss2 := Lib.hid (Ss.out.up b2)
      have C2 := Lib.hid (C1.out.up b2)
      have Be2 : Hid (Below w.heap.size w w2) := Lib.hid (btr Be.out b2)
      have hid : ∃ v, v ∈ zs := ⟨(nx m k : Int), P2.out.mem_iff.2 ((HW.out.choice hN1 hN hg.out hlt Gr.out.1).2 ⟨m, Gr.out.1, fun _ _ => rfl, rfl⟩)⟩
      have hm2 : 0 < m2 := by
        obtain ⟨v, hv⟩ := hid
        rw [← s2.1]; exact List.length_pos_of_mem hv
      have hm3 : m2 ≤ 20 := by rw [← s2.1, p2.length_eq]; have := chL_len c k m N; omega
      obtain ⟨bz, oz, hzA, hzb, hzc⟩ := s2.ri_ (by rw [s2.1]; omega)
      have x5 := hzc 0 (by rw [s2.1]; omega)
      have ez : (some ⟨g2, 0, none⟩ : Option Addr) = some ⟨bz, oz, none⟩ := hzA
      injection ez with ez
      injection ez with e1 e2 _
      subst e1 e2
      obtain ⟨v0, ev0⟩ : ∃ v0, zs.getD 0 0 = v0 := ⟨_, rfl⟩
      rw [ev0] at x5
      have V0 : Hid (zs.getD 0 0 = v0) := Lib.hid ev0
      have q0 : (0 : Int) < m2 := by omega
      clear s2 p2 o2 b2 hzA hzb hzc ev0 hid x0
      -- what a value among the choices gives
      have Take : Hid (∀ v : Int, v ∈ zs → (k < pre.length → v = pre.getD k 0) → (pre.length ≤ k → ∀ u ∈ zs, v ≤ u) → ∃ y : Nat, y < N ∧ v = (nx m y : Int) ∧ Pn N (c.rep k y) ∧ GrTo N gs pre (compL (c.rep k y) m) (k + 1)) := Lib.hid fun v hv h1 h2 => by
        obtain ⟨y, hy, hr, e⟩ := chL_mem.1 (P2.out.mem_iff.1 hv)
        exact ⟨y, hy, e.symm, ((HW.out.up.rep k (Nat.zero_le _) hlt).at_ y hr).2.1, Gr.out.step HW.out hN1 hN hg.out hlt hr ⟨fun hl => by rw [e]; exact h1 hl, fun hl u hu => by rw [e]; exact h2 hl u (P2.out.mem_iff.2 hu)⟩⟩
      by_cases hl : k < np
      · obtain ⟨b, off, rfl, hb, hcell⟩ := (HP.out.up Be2.out) (by rw [lp.out]; omega)
        have x6 := hcell k (by rw [lp.out]; exact hl)
        obtain ⟨v, ev⟩ : ∃ v, pre.getD k 0 = v := ⟨_, rfl⟩
        rw [ev] at x6
        have q1 : (0 : Int) ≤ k := by omega
        have q2 : (k : Int) < np := by omega
        have Ev : Hid (pre.getD k 0 = v) := Lib.hid ev
        clear hb hcell ev
        by_cases hin : v ∈ zs
        · obtain ⟨y, hy, rfl, hrP, hgr⟩ := Take.out v hin (fun _ => Ev.out.symm) (fun hh => absurd hh (by rw [lp.out]; omega))
          have Gr2 := Lib.hid hgr
          have HA : Hid (hasB zs (nx m y : Int) = true) := Lib.hid (by rw [hasB_in]; exact decide_eq_true hin)
          have RP := Lib.hid hrP
          clear hgr hin hrP
          go_wp2_with fail
          refine (containsI_any _ c2 m2 zs _ w2 _ S2.out.ri_ S2.out.hid (by omega) true HA).mono ?_
          rintro e w' ⟨rfl, rfl⟩
          go_wp2_with fail
          refine (specWithEntry base g N k (nx m y) y cc M c L m w2 C2.out Ss2.out.ri_ MP hlt hy (Lib.hid rfl) RP).mono ?_
          rintro e w3 ⟨A3, c3, rfl, s3, b3⟩
          have S3 : Hid (Slc w3 w.heap.size A3 N c3 (compL (c.rep k y) m)) := Lib.hid (s3.mono Be2.out.size)
          have Be3 : Hid (Below w.heap.size w w3) := Lib.hid (btr Be2.out b3)
          clear s3 b3
          go_wp2_with fail
          go_roundw
          case rel => exact ⟨k + 1, _, _, _, by omega, by go_num, rfl, S3.out, Gr2.out, Be3.out⟩
          case measure => simp [intOf]; omega
        · have HA : Hid (hasB zs v = false) := Lib.hid (by rw [hasB_in]; exact decide_eq_false hin)
          have No : Hid (NoMem N gs pre) := Lib.hid (Gr.out.no HW.out hN1 hN hg.out hlt (by rw [lp.out]; exact hl) (by rw [Ev.out]; exact fun h => hin (P2.out.mem_iff.2 h)))
          have S3 := Lib.hid (Slc.lit0 w2 w.heap.size Be2.out.size)
          have hz2 := Be2.out.size
          clear hin
          go_wp2_with fail
          refine (containsI_any _ c2 m2 zs _ w2 _ S2.out.ri_ S2.out.hid (by omega) false HA).mono ?_
          rintro e w' ⟨rfl, rfl⟩
          go_wp2_with fail
          go_ret2
          exact ⟨_, _, _, [], false, rfl, S3.out, .inr ⟨rfl, rfl, No.out⟩, Be2.out.alloc hz2 _⟩
      · have hin : v0 ∈ zs := by
          rw [← V0.out, List.getD_eq_getElem?_getD, List.getElem?_eq_getElem (by rw [S2.out.1]; exact hm2)]
          exact List.getElem_mem _
        have hmin : ∀ u ∈ zs, v0 ≤ u := fun u hu => by
          obtain ⟨t, ht, e⟩ := List.mem_iff_getElem.1 hu
          have h0 := hm2
          rw [← S2.out.1] at h0
          rw [← V0.out, List.getD_eq_getElem?_getD, List.getElem?_eq_getElem h0, ← e]
          show zs[0] ≤ zs[t]
          rcases Nat.eq_zero_or_pos t with rfl | hp
          · exact Int.le_refl _
          · exact (List.pairwise_iff_getElem.1 O2.out) 0 t h0 ht hp
        obtain ⟨y, hy, hvy, hrP, hgr⟩ := Take.out v0 hin (fun hh => absurd hh (by rw [lp.out]; omega)) (fun _ => hmin)
        have Gr2 := Lib.hid hgr
        have HA : Hid (hasB zs (nx m y : Int) = true) := Lib.hid (by rw [hasB_in, ← hvy]; exact decide_eq_true hin)
        have RP := Lib.hid hrP
        subst hvy
        clear hgr hin hrP hmin V0
        go_wp2_with fail
        refine (containsI_any _ c2 m2 zs _ w2 _ S2.out.ri_ S2.out.hid (by omega) true HA).mono ?_
        rintro e w' ⟨rfl, rfl⟩
        go_wp2_with fail
        refine (specWithEntry base g N k (nx m y) y cc M c L m w2 C2.out Ss2.out.ri_ MP hlt hy (Lib.hid rfl) RP).mono ?_
        rintro e w3 ⟨A3, c3, rfl, s3, b3⟩
        have S3 : Hid (Slc w3 w.heap.size A3 N c3 (compL (c.rep k y) m)) := Lib.hid (s3.mono Be2.out.size)
        have Be3 : Hid (Below w.heap.size w w3) := Lib.hid (btr Be2.out b3)
        clear s3 b3
        go_wp2_with fail
        go_roundw
        case rel => exact ⟨k + 1, _, _, _, by omega, by go_num, rfl, S3.out, Gr2.out, Be3.out⟩
        case measure => simp [intOf]; omega
    · obtain rfl : k = N := by omega
      go_wp2_with fail
      go_ret2
      exact ⟨_, _, _, m, true, rfl, Ss.out, .inl ⟨rfl, Gr.out⟩, Be.out⟩
end Go.Proofs.Ytcjcmhoalomjfab

/- GroupOrder, OrbitSizes, IsMember and MemberWithPrefix of the model: what they answer. Conditions: at most 1048576 lists of at most 1048576 numbers. -/
namespace Go.Proofs.Ytcjcmhoalomjfab
open Go.RowKit

/-- What GroupOrder answers. -/
def IsOrd (a : Int) (gs : List (List Int)) (v : Int) : Prop := (gB a gs = true ∧ ∃ xs, IsOS a.toNat gs xs ∧ v = prodL xs) ∨ (gB a gs = false ∧ v = 0)
theorem IsOrd.uniq {a v v' : Int} {gs : List (List Int)} (h : IsOrd a gs v) (h' : IsOrd a gs v') : v = v' := by
  rcases h with ⟨e, xs, h, rfl⟩ | ⟨e, rfl⟩ <;> rcases h' with ⟨e', ys, h', rfl⟩ | ⟨e', rfl⟩
  · rw [h.uniq h']
  · rw [e] at e'; cases e'
  · rw [e] at e'; cases e'
  · rfl
/-- What OrbitSizes answers. -/
def IsSiz (a : Int) (gs : List (List Int)) (xs : List Int) : Prop := (gB a gs = true ∧ IsOS a.toNat gs xs) ∨ (gB a gs = false ∧ xs = [])
theorem IsSiz.uniq {a : Int} {gs : List (List Int)} {xs ys : List Int} (h : IsSiz a gs xs) (h' : IsSiz a gs ys) : xs = ys := by
  rcases h with ⟨e, h⟩ | ⟨e, rfl⟩ <;> rcases h' with ⟨e', h'⟩ | ⟨e', rfl⟩
  · exact h.uniq h'
  · rw [e] at e'; cases e'
  · rw [e] at e'; cases e'
  · rfl
theorem IsSiz.len {a : Int} {gs : List (List Int)} {xs : List Int} (h : IsSiz a gs xs) : xs.length ≤ 20 := by
  rcases h with ⟨e, h⟩ | ⟨e, rfl⟩
  · obtain ⟨N, rfl, _, hN, _⟩ := gB_pm e
    rw [h.1]; simpa using hN
  · simp
/-- p is a member. -/
def Memb (a : Int) (gs : List (List Int)) (p : List Int) : Prop := gB a gs = true ∧ (p.length : Int) = a ∧ isP p = true ∧ Mb gs a.toNat p
theorem memb_uniq {a : Int} {gs : List (List Int)} {p : List Int} {b b' : Bool} (h : b = true ↔ Memb a gs p) (h' : b' = true ↔ Memb a gs p) : b = b' := by
  rw [Bool.eq_iff_iff, h, h']
/-- What MemberWithPrefix answers. -/
def IsMw (a : Int) (gs : List (List Int)) (pre m : List Int) (ok : Bool) : Prop :=
  (gB a gs = true ∧ (pre.length : Int) ≤ a ∧ IsMwp a.toNat gs pre m ok) ∨ (¬ (gB a gs = true ∧ (pre.length : Int) ≤ a) ∧ m = [] ∧ ok = false)
theorem IsMw.uniq {a : Int} {gs : List (List Int)} {pre m m' : List Int} {ok ok' : Bool} (h : IsMw a gs pre m ok) (h' : IsMw a gs pre m' ok') : m = m' ∧ ok = ok' := by
  rcases h with ⟨e, hl, h⟩ | ⟨e, rfl, rfl⟩ <;> rcases h' with ⟨e', hl', h'⟩ | ⟨e', rfl, rfl⟩
  · obtain ⟨N, rfl, h1, hN, _, _, ok⟩ := gB_pm e
    exact h.uniq (by simpa using h1) (by simpa using hN) (fun g hg => by rw [Int.toNat_natCast]; exact ok g hg) (by simp; omega) h'
  · exact absurd ⟨e, hl⟩ e'
  · exact absurd ⟨e', hl'⟩ e
  · exact ⟨rfl, rfl⟩
theorem IsMwp.len {N : Nat} {gs : List (List Int)} {pre m : List Int} {ok : Bool} (h1 : 1 ≤ N) (h2 : N ≤ 20) (hg : ∀ g ∈ gs, Pn N g) (h : IsMwp N gs pre m ok) : m.length ≤ 20 := by
  rcases h with ⟨_, h⟩ | ⟨_, rfl, _⟩
  · rw [(h.1.pn hg h1 h2).2]; exact h2
  · simp
theorem IsMw.len {a : Int} {gs : List (List Int)} {pre m : List Int} {ok : Bool} (h : IsMw a gs pre m ok) : m.length ≤ 20 := by
  rcases h with ⟨e, hl, h⟩ | ⟨e, rfl, rfl⟩
  · obtain ⟨N, rfl, h1, hN, _, _, ok⟩ := gB_pm e
    rw [Int.toNat_natCast] at h
    exact h.len h1 hN ok
  · simp

section
variable (a : Int) (A : Option Addr) (n c : Nat) (vs : List SV) (xss : List (List Int)) (w : World)
set_option maxHeartbeats 1000000 in
set_option maxRecDepth 100000 in
theorem specGroupOrder (hx : RR w w.heap.size A n vs xss) (hn : n ≤ 1048576) (hl : Hid (∀ i, i < n → (vs.getD i sd0).2.1 ≤ 1048576)) (ha : -9223372036854775808 ≤ a ∧ a ≤ 9223372036854775807) :
    Calls Try.prog 33 #[.int .i64 a, .slice A n c] w fun e w' => ∃ v, e = .returned (.int .i64 v) ∧ IsOrd a xss v ∧ Below w.heap.size w w' := by
  have HX := Lib.hid hx
  have hlx : Hid (xss.length = n) := Lib.hid hx.lx
  clear hx
  go_enter Try.func33, Try.ntmps33
  go_wp2_with fail
  refine (specGS a A n c vs xss w HX.out hn hl ha).mono ?_
  rintro e w1 ⟨rfl, b1⟩
  have B1 := Lib.hid b1
  have X1 := Lib.hid (HX.out.up b1)
  clear b1
  rcases hs : gB a xss with _ | _
  · have Fin : Hid (IsOrd a xss 0) := Lib.hid (.inr ⟨hs, rfl⟩)
    clear hs
    go_wp2_with fail
    go_ret
    exact ⟨0, rfl, Fin.out, B1.out⟩
  · obtain ⟨N, rfl, hN1, hN2, hg8, hpm, hok⟩ := gB_pm hs
    have Hs := Lib.hid hs
    have Ok := Lib.hid hok
    have hn8 : n ≤ 8 := by rw [← hlx.out]; exact hg8
    clear hs hpm hok hg8
    go_wp2_with fail
    refine (specBuild N n c A vs xss w1 X1.out hN1 hN2 hn8 Ok).mono ?_
    rintro e w2 ⟨g, L, ch, rfl, hc2, hw2, b2⟩
    have C2 := Lib.hid hc2
    have W2 := Lib.hid hw2
    have B2 : Hid (Below w.heap.size w w2) := Lib.hid (btr B1.out b2)
    clear hc2 hw2 b2
    go_wp2_with fail
    refine (specOrder w1.heap.size g N ch L xss w2 C2.out W2.out hN1 hN2).mono ?_
    rintro e w3 ⟨rfl, b3⟩
    have B3 : Hid (Below w.heap.size w w3) := Lib.hid (btr B2.out b3)
    have Fin : Hid (IsOrd (N : Int) xss (prodL (osL N ch N))) := Lib.hid (.inl ⟨Hs.out, _, by rw [Int.toNat_natCast]; exact W2.out.os hN1 hN2, rfl⟩)
    clear b3
    go_wp2_with fail
    go_ret
    exact ⟨_, rfl, Fin.out, B3.out⟩
set_option maxHeartbeats 1000000 in
set_option maxRecDepth 100000 in
theorem specOrbitSizes (hx : RR w w.heap.size A n vs xss) (hn : n ≤ 1048576) (hl : Hid (∀ i, i < n → (vs.getD i sd0).2.1 ≤ 1048576)) (ha : -9223372036854775808 ≤ a ∧ a ≤ 9223372036854775807) :
    Calls Try.prog 32 #[.int .i64 a, .slice A n c] w fun e w' => ∃ A' m c' zs, e = .returned (.slice A' m c') ∧ Slc w' w.heap.size A' m c' zs ∧ IsSiz a xss zs ∧ Below w.heap.size w w' := by
  have HX := Lib.hid hx
  have hlx : Hid (xss.length = n) := Lib.hid hx.lx
  clear hx
  go_enter Try.func32, Try.ntmps32
  go_wp2_with fail
  refine (specGS a A n c vs xss w HX.out hn hl ha).mono ?_
  rintro e w1 ⟨rfl, b1⟩
  have B1 := Lib.hid b1
  have X1 := Lib.hid (HX.out.up b1)
  have hz1 := b1.size
  clear b1
  rcases hs : gB a xss with _ | _
  · have Fin : Hid (IsSiz a xss []) := Lib.hid (.inr ⟨hs, rfl⟩)
    have S0 := Lib.hid (Slc.lit0 w1 w.heap.size hz1)
    clear hs
    go_wp2_with fail
    go_ret
    exact ⟨_, _, _, _, rfl, S0.out, Fin.out, B1.out.alloc hz1 _⟩
  · obtain ⟨N, rfl, hN1, hN2, hg8, hpm, hok⟩ := gB_pm hs
    have Hs := Lib.hid hs
    have Ok := Lib.hid hok
    have hn8 : n ≤ 8 := by rw [← hlx.out]; exact hg8
    clear hs hpm hok hg8
    go_wp2_with fail
    refine (specBuild N n c A vs xss w1 X1.out hN1 hN2 hn8 Ok).mono ?_
    rintro e w2 ⟨g, L, ch, rfl, hc2, hw2, b2⟩
    have C2 := Lib.hid hc2
    have W2 := Lib.hid hw2
    have B2 : Hid (Below w.heap.size w w2) := Lib.hid (btr B1.out b2)
    clear hc2 hw2 b2
    go_wp2_with fail
    refine (specSizes w1.heap.size g N ch L xss w2 C2.out W2.out hN1 hN2).mono ?_
    rintro e w3 ⟨A3, c3, rfl, s3, b3⟩
    have S3 : Hid (Slc w3 w.heap.size A3 N c3 (osL N ch N)) := Lib.hid (s3.mono B2.out.size)
    have B3 : Hid (Below w.heap.size w w3) := Lib.hid (btr B2.out b3)
    have Fin : Hid (IsSiz (N : Int) xss (osL N ch N)) := Lib.hid (.inl ⟨Hs.out, by rw [Int.toNat_natCast]; exact W2.out.os hN1 hN2⟩)
    clear s3 b3
    go_wp2_with fail
    go_ret
    exact ⟨_, _, _, _, rfl, S3.out, Fin.out, B3.out⟩
end
end Go.Proofs.Ytcjcmhoalomjfab
