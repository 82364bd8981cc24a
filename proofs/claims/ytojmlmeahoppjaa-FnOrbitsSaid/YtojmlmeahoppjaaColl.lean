/- Orbits of the program: the iterator's lists collected. Conditions: at most 1048576 lists of at most 1048576 numbers. -/
import Derived.Test.YtojmlmeahoppjaaOrbs
namespace Go.Proofs.Ytojmlmeahoppjaa
open Go.RowKit Go.Shelf
attribute [local go_sem] Oper.semAt_some

/-- append of one slice onto a slice of slices of the call's own, inside a round. -/
theorem wpListIn_app2 {F : Fence} {nn : Nat} {w : World} {base bi n c : Nat} {A : Option Addr} {vs : List SV} {xss : List (List Int)} {ops : Array Oper} {rest : List Oper} {o : Oper} {a : Act} {Q : Exit → Act → World → Prop} (hgd : o.guard = none) (s x : Operand)
    (ho : o.op = .call { callee := .builtin .append, args := #[s, x], argTypes := #[24, 24] })
    (hs : a.eval s = .slice A n c) (hss : SS w base bi A n c vs xss) (g : Nat) (dA : Option Addr) (dn dc : Nat) (ys : List Int) (hx : a.eval x = .slice (some ⟨g, 0, none⟩) 1 1)
    (hcell : w.cell? ⟨g, 0, none⟩ = some (.slice dA dn dc)) (hys : Slc w bi dA dn dc ys)
    (hdis : ∀ i, i < n → (sval (vs.getD i sd0)).ownBlock = none ∨ (sval (vs.getD i sd0)).ownBlock ≠ (Value.slice dA dn dc).ownBlock) (hn : n ≤ 1000000000) (hbase : base ≤ w.heap.size)
    (h : ∀ g' c' w', SS w' base bi (some ⟨g', 0, none⟩) (n + 1) c' (vs ++ [(dA, dn, dc)]) (xss ++ [ys]) → w.grownBy w' (Value.slice A n c).ownBlock → wpListIn F nn Try.prog ops Q rest (a.put o.dst (.slice (some ⟨g', 0, none⟩) (n + 1) c')) w') : wpListIn F nn Try.prog ops Q (o :: rest) a w := by
  obtain ⟨i0, hi, hz0, hz1, hz2⟩ := info_parts infoS
  refine wpListIn_append_own w hgd s x 24 ho base 34 i0 (.slice none 0 0) 1 24 Try.underlying24 hi hz0 hz1 hz2 rfl (by decide) _ n _ hs hss.own ⟨g, 0, none⟩ 1 1 [.slice dA dn dc] hx rfl ?_ ?_ ?_ (by omega) hbase ?_
  · intro j v hj
    match j, hj with
    | 0, hj => simp at hj; subst hj; simpa [Addr.add] using hcell
    | j + 1, hj => simp at hj
  · intro v hv; simp at hv; subst hv; rfl
  · unfold maxLen; omega
  · intro v' w' hown' hg _
    have hform : ∃ g' c', v' = .slice (some ⟨g', 0, none⟩) (n + 1) c' := by
      rcases hown'.2 with ⟨rfl, h0⟩ | ⟨g', cap, cur, rfl, _⟩
      · omega
      · exact ⟨_, _, rfl⟩
    obtain ⟨A', c', rfl⟩ := hform
    refine h A' c' w' ⟨?_, by simp [hss.lv], by simp [hss.lx], fun i hi' => ?_, fun i j hij hj => ?_⟩ hg
    · rw [List.map_append]; exact hown'
    · by_cases e : i < n
      · rw [getD_app _ _ _ _ (by rw [hss.lv]; exact e), getD_app _ _ _ _ (by rw [hss.lx]; exact e)]
        exact (hss.row i e).kept hg (apart_types (hss.row i e) hss.own)
      · obtain rfl : i = n := by omega
        rw [getD_snoc _ _ _ _ hss.lv.symm, getD_snoc _ _ _ _ hss.lx.symm]
        exact hys.kept hg (apart_types hys hss.own)
    · rw [getD_app _ _ _ i (by rw [hss.lv]; omega)]
      by_cases e : j < n
      · rw [getD_app _ _ _ j (by rw [hss.lv]; exact e)]; exact hss.dis i j hij e
      · obtain rfl : j = n := by omega
        rw [getD_snoc _ _ _ _ hss.lv.symm]
        exact hdis i hij

theorem take_next {xss : List (List Int)} {i : Nat} (hi : i < xss.length) : xss.take (i + 1) = xss.take i ++ [xss.getD i []] := by
  rw [List.take_succ_eq_append_getElem hi, List.getD_eq_getElem?_getD, List.getElem?_eq_getElem hi]; rfl
/-- A box of another type is not the slice's row. -/
theorem Blk.not_outer {w : World} {b base n : Nat} {v : Value} {cs : Array Value} {ys : List Value} (h : Blk w b 24 cs) (ho : w.ownsRow base 34 1 v n ys) : some b ≠ v.ownBlock := by
  rcases ho.2 with ⟨rfl, _⟩ | ⟨g', cap', cur', rfl, hb', hg', _⟩
  · simp [Value.ownBlock]
  · intro e
    have e2 : b = g' := by simpa [Value.ownBlock] using e
    subst e2
    have := (show w.heap[b]? = _ from h).symm.trans hg'
    simp at this

set_option maxHeartbeats 4000000 in
set_option maxRecDepth 100000 in
/-- slices.AppendSeq onto nil. -/
theorem appSeq (lb : Array Value) (kp : Nat → Prop) (xss : List (List Int)) (w w0 : World) (hs : Its 80 lb kp xss w0) (hk : ∀ k, kp k → k < w.heap.size ∧ w.heap[k]? = w0.heap[k]?) (hsz : w0.heap.size ≤ w.heap.size) (hxl : xss.length ≤ 1000) :
    Calls Try.prog 79 #[.slice none 0 0, .func (.func 80) #[] lb] w fun e w' => ∃ A' c' us, e = .returned (.slice A' xss.length c') ∧ SS w' w.heap.size w.heap.size A' xss.length c' us xss ∧ Below w.heap.size w w' := by
  have HS := Lib.hid hs
  have HK := Lib.hid hk
  clear hs hk
  refine (callsIn_wide (n := 6)).1 ?_
  refine callsIn_of_wp_marks Try.func79 rfl trivial ?_ rfl
  simp only [Try.ntmps79, List.size_toArray, List.length_cons, List.length_nil, Nat.reduceAdd, Nat.reduceSub, Array.replicate_succ, Array.replicate_zero, List.push_toArray, List.append_toArray, List.nil_append, List.cons_append]
  gi_wp2
  obtain ⟨V, hV⟩ : ∃ V, w.alloc (.cells #[.slice none 0 0] 24) = V := ⟨_, rfl⟩
  rw [hV]
  have hz : V.heap.size = w.heap.size + 1 := by rw [← hV]; simp
  have b0 : Blk V w.heap.size 24 #[.slice none 0 0] := by rw [← hV]; exact Blk.new w _ _
  have bel : Below w.heap.size w V := by rw [← hV]; exact (Below.refl _ w).alloc (Nat.le_refl _) _
  have hkV : ∀ k, kp k → k < V.heap.size ∧ V.heap[k]? = w0.heap[k]? := fun k h => ⟨by have := (HK.out k h).1; omega, (bel.block k (HK.out k h).1).trans (HK.out k h).2⟩
  have hkw : Hid (∀ k, kp k → k < w.heap.size) := Lib.hid fun k h => (HK.out k h).1
  clear hV
  refine rangeT (gf := 80) (lb := lb) rfl (enters_of Try.func80 (by kernel_rfl) rfl) HS.out hkV (by omega)
    (fun i W => ∃ S c us, Blk W w.heap.size 24 #[.slice S i c] ∧ SS W (V.heap.size + 3) (V.heap.size + 3) S i c us (xss.take i) ∧ Below w.heap.size w W)
    (fun i A C h hx => by
      obtain ⟨S, c, us, h1, h2, h3⟩ := h
      exact ⟨S, c, us, (hx.block _ h1.lt (.inl (by omega))).trans h1, h2.xk hx (by omega) (by omega), h3.trans (hx.below (by omega) h3.size)⟩) ⟨none, 0, [], b0, by simpa using SS.nil_, bel⟩
    (fun v => { tmps := #[.slice none 0 0, .func (.func 80) #[] lb, .pointer (some ⟨w.heap.size, 0, none⟩), undef, .slice none 0 0, v, .func (.func 80) #[] lb, v, undef, undef, undef, undef, undef], defers := [] }) ?assign ?body ?done
  case assign =>
    intro l v W K hK
    gi_wp2
    exact hK
  case body =>
    rintro l i S m d W1 W2 ⟨R, e, us, hb, hss, hbl⟩ hlt hsz1 hx hsl
    have hb2 : Blk W2 w.heap.size 24 #[.slice R i e] := (hx.block _ hb.lt (.inl (by omega))).trans hb
    have cc : W2.cell? ⟨w.heap.size, 0, none⟩ = some (.slice R i e) := hb2.cell 0
    have ff := hb2.frozen 0
    have Ss2 := Lib.hid (hss.xk hx (by omega) (by omega))
    have Di : Hid (∀ t, t < i → (sval (us.getD t sd0)).ownBlock = none ∨ (sval (us.getD t sd0)).ownBlock ≠ (Value.slice S m d).ownBlock) := Lib.hid (lies_dis hss hsl.lies (Nat.le_refl _))
    have Sl2 := Lib.hid (hsl.mono (show V.heap.size + 3 ≤ W1.heap.size by omega))
    have Bl2 := Lib.hid (hbl.trans (hx.below (by omega) hbl.size))
    have Hb2 := Lib.hid hb2
    have hz2 := hx.size
    have hzz : V.heap.size + 3 ≤ W2.heap.size := by omega
    have hcell : (W2.alloc (.cells #[.slice S m d] 34)).cell? ⟨W2.heap.size, 0, none⟩ = some (.slice S m d) := by rw [World.cell?_alloc_at _ _ _ _ rfl]; rfl
    have Hcell := Lib.hid hcell
    clear hcell hb hss hbl hx hsl hb2
    gi_wp2_with (first
      | (gi_at_builtin; refine wpListIn_app2 rfl _ _ rfl rfl (Ss2.out.alloc _) W2.heap.size S m d _ rfl Hcell.out (Sl2.out.alloc _) Di.out (by omega) (by simp; omega) ?_; intro A5 c5 w5 ss5 hg5
         have Ss5 := Lib.hid ss5
         have Hb5 : Hid (Blk w5 w.heap.size 24 #[.slice R i e]) := Lib.hid ((Hb2.out.alloc (.cells #[.slice S m d] 34)).grown hg5 ((Hb2.out.alloc (.cells #[.slice S m d] 34)).not_outer (Ss2.out.alloc _).own))
         have cc5 : w5.cell? ⟨w.heap.size, 0, none⟩ = some (.slice R i e) := Hb5.out.cell 0
         have ff5 := Hb5.out.frozen 0
         have Hg5 := Lib.hid hg5
         clear ss5 hg5))
    have Hb6 := Lib.hid (Hb5.out.set_ 0 (.slice (some ⟨A5, 0, none⟩) (i + 1) c5))
    have hne : some w.heap.size ≠ (Value.slice (some ⟨A5, 0, none⟩) (i + 1) c5).ownBlock := Hb5.out.not_outer Ss5.out.own
    have Ss6 : Hid (SS (w5.setCell ⟨w.heap.size, 0, none⟩ (.slice (some ⟨A5, 0, none⟩) (i + 1) c5)) (V.heap.size + 3) (V.heap.size + 3) (some ⟨A5, 0, none⟩) (i + 1) c5 (us ++ [(S, m, d)]) (xss.take (i + 1))) := Lib.hid (by
      rw [take_next hlt]
      refine Ss5.out.keptR (grown_set (grown_refl _ _) 0 _) (.inr fun h => hne h.symm) fun t ht => ?_
      rcases e2 : (sval ((us ++ [(S, m, d)]).getD t sd0)).ownBlock with _ | q
      · exact .inl rfl
      · have := ((Ss5.out.row t ht).lt_ q e2).1
        exact .inr fun e3 => by have := Option.some.inj e3; omega)
    have Bl5 : Hid (Below w.heap.size w w5) := Lib.hid ((Bl2.out.alloc Bl2.out.size _).grown Hg5.out (by have := Bl2.out.size; simp; omega) (fun j hj => by have := (Ss2.out.lt_ j hj).1; omega))
    refine ⟨⟨_, _, _, Hb6.out, Ss6.out, Bl5.out.setCell (p := ⟨w.heap.size, 0, none⟩) (Nat.le_refl _) _⟩, fun k hk => ?_, ?_⟩
    · have hkl : k ≠ w.heap.size := by
        rcases hk with hk | hk
        · have := hkw.out k hk; omega
        · omega
      have hkW2 : k < W2.heap.size := by
        rcases hk with hk | hk
        · have := hkw.out k hk; omega
        · omega
      refine (Below.heap_setCell _ _ _ k hkl).trans ((Hg5.out.block k (by simp; omega) fun e9 => ?_).trans (Below.heap_alloc _ _ _ hkW2))
      have := (Ss2.out.lt_ k e9.symm).1
      rcases hk with hk | hk
      · have := hkw.out k hk; omega
      · omega
    · have := Hg5.out.size
      simp at this
      simp [World.setCell]; omega
  case done =>
    rintro W ⟨S, c, us, hb, hss, hbl⟩ hd
    have cc : W.cell? ⟨w.heap.size, 0, none⟩ = some (.slice S xss.length c) := hb.cell 0
    have Hbl := Lib.hid hbl
    have Hss := Lib.hid hss
    clear hbl hss
    gi_wp2
    refine ⟨by simp, .inl ⟨_, _, rfl, run_takeDeferred hd, ?_⟩⟩
    have e1 : xss.take xss.length = xss := List.take_length
    have hfin := Hss.out.xk (Xk.put W (.deferred none) (b := V.heap.size) (r := V.heap.size) (by omega)) (by omega) (by omega)
    rw [e1] at hfin
    exact ⟨_, results_tmp rfl _ _ _, _, _, _, rfl, hfin.mono (by omega) (by omega), Hbl.out.grown (grownBy_putObj' W _ _) Hbl.out.size (fun k e => by cases e; omega)⟩

set_option maxHeartbeats 800000 in
/-- slices.Collect. -/
theorem collectT (lb : Array Value) (kp : Nat → Prop) (xss : List (List Int)) (w w0 : World) (hs : Its 80 lb kp xss w0) (hk : ∀ k, kp k → k < w.heap.size ∧ w.heap[k]? = w0.heap[k]?) (hsz : w0.heap.size ≤ w.heap.size) (hxl : xss.length ≤ 1000) :
    Calls Try.prog 47 #[.func (.func 80) #[] lb] w fun e w' => ∃ A' c' us, e = .returned (.slice A' xss.length c') ∧ SS w' w.heap.size w.heap.size A' xss.length c' us xss ∧ Below w.heap.size w w' := by
  have HS := Lib.hid hs
  have HK := Lib.hid hk
  clear hs hk
  go_enter Try.func47, Try.ntmps47
  go_wp2_with fail
  refine (appSeq lb kp xss w w0 HS.out HK.out hsz hxl).mono ?_
  rintro e w1 ⟨A1, c1, us, rfl, s1, b1⟩
  have S1 := Lib.hid s1
  have B1 := Lib.hid b1
  clear s1 b1
  go_wp2
  go_ret
  exact ⟨_, _, _, rfl, S1.out, B1.out⟩

set_option maxHeartbeats 1600000 in
set_option maxRecDepth 100000 in
/-- The program's Orbits. -/
theorem implOrbits (a : Int) (A : Option Addr) (n c : Nat) (vs : List SV) (xss : List (List Int)) (w : World) (hx : RR w w.heap.size A n vs xss) (hn : n ≤ 1048576) (hl : Hid (∀ i, i < n → (vs.getD i sd0).2.1 ≤ 1048576)) :
    Calls Try.prog 15 #[.int .i64 a, .slice A n c] w fun e w' => ∃ A' m c' us, e = .returned (.slice A' m c') ∧ SS w' w.heap.size w.heap.size A' m c' us (orbitsL a xss) ∧ Below w.heap.size w w' := by
  rcases hs : gB a xss with _ | _
  · have Fin : Hid (orbitsL a xss = []) := Lib.hid (if_neg (by rw [hs]; simp))
    go_enter Try.func15, Try.ntmps15
    go_wp2_with fail
    have K0 := implGS a A n c vs xss w hx hn hl
    refine K0.mono ?_
    rintro e w1 ⟨rfl, b1⟩
    have B1 := Lib.hid b1
    clear b1 K0
    rw [hs]
    go_wp2_with fail
    go_ret
    exact ⟨_, _, _, _, rfl, by rw [Fin.out]; exact SS.nil_, B1.out⟩
  · have Fin : Hid (orbitsL a xss = orbs xss a.toNat a.toNat) := Lib.hid (if_pos hs)
    obtain ⟨N, hN, hN1, hN2, hg8, hpm, hok⟩ := gB_pm hs
    subst hN
    have Pm := Lib.hid hpm
    have HX := Lib.hid hx
    have hlx := hx.lx
    clear hok hpm
    go_enter Try.func15, Try.ntmps15
    go_wp2_with fail
    have K0 := implGS N A n c vs xss w hx hn hl
    refine K0.mono ?_
    rintro e w1 ⟨rfl, b1⟩
    have B1 := Lib.hid b1
    clear b1 hx K0
    rw [hs]
    clear hs
    go_wp2_with fail
    refine (implUnder N A n c w1).mono ?_
    rintro e w2 ⟨rfl, rfl⟩
    obtain ⟨V, hV⟩ : ∃ V, (w1.alloc (.cells #[.int .i64 (N : Nat)] 2)).alloc (.cells #[.slice A n c] 24) = V := ⟨_, rfl⟩
    rw [hV]
    have hz : V.heap.size = w1.heap.size + 2 := by rw [← hV]; simp
    have b1 : Blk V w1.heap.size 2 #[.int .i64 (N : Nat)] := by
      rw [← hV]; exact (Blk.new w1 _ _).alloc _
    have b2 : Blk V (w1.heap.size + 1) 24 #[.slice A n c] := by
      rw [← hV]; have := Blk.new (w1.alloc (.cells #[.int .i64 (N : Nat)] 2)) 24 #[.slice A n c]
      rw [World.size_alloc] at this; exact this
    have bel : Below w1.heap.size w1 V := by rw [← hV]; exact ((Below.refl _ w1).alloc (Nat.le_refl _) _).alloc (by simp) _
    have hxV : RR V w1.heap.size A n vs xss := (HX.out.up B1.out).below bel (Nat.le_refl _)
    have IT := Lib.hid (itsUnder N n c w1.heap.size w1.heap.size (w1.heap.size + 1) A vs xss V hxV Pm hN1 (by omega) (by omega) (by omega) b1 b2)
    have hol : (orbs xss N N).length ≤ 1000 := by rw [orbs_len]; have := starts_le (gs := xss) (N := N) N; omega
    have Bel := Lib.hid (btr B1.out bel)
    clear hV b1 b2 bel hxV
    go_wp2_with fail
    refine (collectT _ _ _ V V IT.out (fun k hk => ⟨by rcases hk with h | h | h <;> omega, rfl⟩) (Nat.le_refl _) hol).mono ?_
    rintro e w3 ⟨A3, c3, us, rfl, s3, b3⟩
    have S3 := Lib.hid (s3.mono Bel.out.size Bel.out.size)
    have B3 : Hid (Below w.heap.size w w3) := Lib.hid (btr Bel.out b3)
    clear s3 b3
    obtain ⟨M, hM⟩ : ∃ M, (orbs xss N N).length = M := ⟨_, rfl⟩
    rw [hM] at S3 ⊢
    clear hM
    go_wp2
    go_ret
    exact ⟨_, _, _, _, rfl, by rw [Fin.out]; exact S3.out, B3.out⟩
end Go.Proofs.Ytojmlmeahoppjaa
