/- FixedPoints, of the program and of the model. Conditions: at most 1048576 lists of at most 1048576 numbers. -/
import Derived.Test.YtojmlmeahoppjaaColl
import Derived.Test.YtojmlmeahoppjaaFixM
namespace Go.Proofs.Ytojmlmeahoppjaa
open Go.RowKit Go.Shelf
attribute [local go_sem] Oper.semAt_some

/-- append of one number, as one step of a region that draws, inside a round. -/
theorem stepIn_app1 {F : Fence} {nn : Nat} {w : World} {ops : Array Oper} {o : Oper} {a : Act} {K : Act → World → Prop} {Q : Exit → Act → World → Prop} {E : Prop} (hgd : o.guard = none) (s x : Operand)
    (ho : o.op = .call { callee := .builtin .append, args := #[s, x], argTypes := #[34, 34] })
    (base : Nat) (A : Option Addr) (n c : Nat) (xs : List Int) (hs : a.eval s = .slice A n c) (hown : Slc w base A n c xs) (g : Nat) (u : Int) (hx : a.eval x = .slice (some ⟨g, 0, none⟩) 1 1)
    (hcell : w.cell? ⟨g, 0, none⟩ = some (.int .i64 u)) (hn : n ≤ 1000000000) (hbase : base ≤ w.heap.size)
    (h : ∀ A' c' w', Slc w' base A' (n + 1) c' (xs ++ [u]) → w.grownBy w' (Value.slice A n c).ownBlock → K (a.put o.dst (.slice A' (n + 1) c')) w') : if Region.wanted o (yielded ops a.tmps) = true then Oper.wpIn F nn Try.prog o a w K Q else E := by
  have hw : Region.wanted o (yielded ops a.tmps) = true := by simp [Region.wanted, hgd]
  rw [if_pos hw]
  obtain ⟨i0, hi, hz0, hz1, hz2⟩ := info_parts infoI
  obtain ⟨hl, ho'⟩ := hown
  subst hl
  obtain ⟨v', w', hrun, r1, r2, r3⟩ := run_append_own (P := Try.prog) w base 34 o.type 2 i0 (.int .i64 0) 1 8 Try.underlying34 hi hz0 hz1 hz2 rfl (by decide) _ xs.length _ ho' ⟨g, 0, none⟩ 1 1 [.int .i64 u] rfl
    (fun j v hj => by
      match j, hj with
      | 0, hj => simp at hj; subst hj; simpa [Addr.add] using hcell
      | j + 1, hj => simp at hj) (fun v hv => by simp at hv; subst hv; rfl) (by unfold maxLen; omega) (by omega) hbase
  unfold Oper.wpIn
  refine ⟨?_, ?_⟩
  · simp [Oper.about, ho, resolve, Target.leads, Sem.run_pure]
  · rw [Oper.semAt_plain F _ _ (by rw [ho]; intro c hc'; cases hc')]
    simp [execOp, ho, resolve, invoke, builtin, hs, hx, hrun, Result.andThen]
    have hO : Own w' base v' (xs ++ [u]) := by
      unfold Own
      rw [List.length_append, List.map_append]
      exact r1
    obtain ⟨A', c', rfl, hS⟩ := Slc.of_own (n := xs.length + 1) hO (by simp)
    exact h A' c' w' hS r2

theorem grown_undrewF {a b : World} {row : Option Nat} (h : a.drew.grownBy b row) : a.grownBy b row := ⟨h.os, h.tape, h.output, h.size, h.block⟩

/-- What FixedPoints answers. -/
def fixL (n : Int) (gs : List (List Int)) : List Int := if gB n gs = true then fxL gs n.toNat n.toNat else []
theorem fixL_len (n : Int) (gs : List (List Int)) : (fixL n gs).length ≤ 20 := by
  unfold fixL
  split
  · rename_i h
    obtain ⟨N, rfl, _, hN, _⟩ := gB_pm h
    have := fxL_len gs N N
    simp; omega
  · exact Nat.zero_le _

set_option maxHeartbeats 4000000 in
set_option maxRecDepth 100000 in
/-- The program's FixedPoints. -/
theorem implFixedPoints (a : Int) (A : Option Addr) (n c : Nat) (vs : List SV) (xss : List (List Int)) (w : World) (hx : RR w w.heap.size A n vs xss) (hn : n ≤ 1048576) (hl : Hid (∀ i, i < n → (vs.getD i sd0).2.1 ≤ 1048576)) :
    Calls Try.prog 28 #[.int .i64 a, .slice A n c] w fun e w' => ∃ A' m c', e = .returned (.slice A' m c') ∧ Slc w' w.heap.size A' m c' (fixL a xss) ∧ m ≤ 20 ∧ Below w.heap.size w w' := by
  have HX := Lib.hid hx
  refine (callsIn_wide (n := 6)).1 ?_
  refine callsIn_of_wp_marks Try.func28 rfl trivial ?_ rfl
  simp only [Try.ntmps28, List.size_toArray, List.length_cons, List.length_nil, Nat.reduceAdd, Nat.reduceSub, Array.replicate_succ, Array.replicate_zero, List.push_toArray, List.append_toArray, List.nil_append, List.cons_append]
  rcases hs : gB a xss with _ | _
  · have Fin : Hid (fixL a xss = []) := Lib.hid (if_neg (by rw [hs]; simp))
    have K0 := callsIn_wide (n := 5) |>.2 (implGS a A n c vs xss w hx hn hl)
    clear hx
    gi_wp2
    refine ⟨trivial, ?_⟩
    refine K0.mono ?_
    rintro e w1 ⟨rfl, b1⟩
    have B1 := Lib.hid b1
    clear b1 K0
    rw [hs]
    gi_wp2
    exact ⟨_, results_tmp rfl _ _ _, _, _, _, rfl, by rw [Fin.out]; exact Slc.nil_, by omega, B1.out⟩
  · obtain ⟨N, hN, hN1, hN2, hg8, hpm, hok⟩ := gB_pm hs
    subst hN
    have Fin : Hid (fixL N xss = fxL xss N N) := Lib.hid (if_pos hs)
    have Pm := Lib.hid hpm
    have K0 := callsIn_wide (n := 5) |>.2 (implGS N A n c vs xss w hx hn hl)
    have hlx := hx.lx
    clear hx hok hpm
    gi_wp2
    refine ⟨trivial, ?_⟩
    refine K0.mono ?_
    rintro e w1 ⟨rfl, b1⟩
    have B1 := Lib.hid b1
    clear b1 K0
    rw [hs]
    clear hs
    gi_wp2
    refine ⟨trivial, ?_⟩
    refine (callsIn_wide.2 (implUnder N A n c _)).mono ?_
    rintro e w2 ⟨rfl, rfl⟩
    gi_wp2
    obtain ⟨V, hV⟩ : ∃ V, ((w1.alloc (.cells #[.slice none 0 0] 34)).alloc (.cells #[.int .i64 (N : Nat)] 2)).alloc (.cells #[.slice A n c] 24) = V := ⟨_, rfl⟩
    rw [hV]
    have hz : V.heap.size = w1.heap.size + 3 := by rw [← hV]; simp
    have b0 : Blk V w1.heap.size 34 #[.slice none 0 0] := by rw [← hV]; exact ((Blk.new w1 _ _).alloc _).alloc _
    have b1 : Blk V (w1.heap.size + 1) 2 #[.int .i64 (N : Nat)] := by
      rw [← hV]; have := (Blk.new (w1.alloc (.cells #[.slice none 0 0] 34)) 2 #[.int .i64 (N : Nat)]).alloc (.cells #[.slice A n c] 24)
      rw [World.size_alloc] at this; exact this
    have b2 : Blk V (w1.heap.size + 1 + 1) 24 #[.slice A n c] := by
      rw [← hV]; have := Blk.new ((w1.alloc (.cells #[.slice none 0 0] 34)).alloc (.cells #[.int .i64 (N : Nat)] 2)) 24 #[.slice A n c]
      rw [World.size_alloc, World.size_alloc] at this; exact this
    have bel : Below w1.heap.size w1 V := by
      rw [← hV]; exact (((Below.refl _ w1).alloc (Nat.le_refl _) _).alloc (by simp) _).alloc (by simp; omega) _
    have hxV : RR V w1.heap.size A n vs xss := (HX.out.up B1.out).below bel (Nat.le_refl _)
    have hole : (orbs xss N N).length ≤ N := by rw [orbs_len]; exact starts_le N
    have Bel := Lib.hid bel
    clear hV bel
    refine rangeT (gf := 80) (lb := #[.pointer (some ⟨w1.heap.size + 1, 0, none⟩), .pointer (some ⟨w1.heap.size + 1 + 1, 0, none⟩)]) rfl (enters_of Try.func80 (by kernel_rfl) rfl)
      (itsUnder N n c w1.heap.size (w1.heap.size + 1) (w1.heap.size + 1 + 1) A vs xss V hxV Pm hN1 (by omega) (by omega) (by omega) b1 b2)
      (fun k hk => ⟨by rcases hk with h | h | h <;> omega, rfl⟩) (Nat.le_refl _)
      (fun i W => ∃ S m d, Blk W w1.heap.size 34 #[.slice S m d] ∧ Slc W (V.heap.size + 3) S m d (heads ((orbs xss N N).take i)) ∧ m ≤ i ∧ Below w1.heap.size w1 W)
      (fun i A C h hx => by
        obtain ⟨S, m, d, h1, h2, h3, h4⟩ := h
        exact ⟨S, m, d, (hx.block _ h1.lt (.inl (by omega))).trans h1, h2.xk hx (fun k e => .inr (by have := (h2.lt_ k e).1; omega)), h3, h4.trans (hx.below (by omega) h4.size)⟩) ⟨none, 0, 0, b0, by simpa [heads] using Slc.nil_, Nat.le_refl _, Bel.out⟩
      (fun v => { tmps := #[.int .i64 (N : Nat), .slice A n c, undef, undef, .slice none 0 0, .pointer (some ⟨w1.heap.size, 0, none⟩), v, .int .i64 (N : Nat), .slice A n c, .bool true, .bool false, .int .i64 (N : Nat), .slice A n c, .func (.func 80) #[] #[.pointer (some ⟨w1.heap.size + 1, 0, none⟩), .pointer (some ⟨w1.heap.size + 1 + 1, 0, none⟩)], v, undef, undef, undef, undef, undef, undef, undef, undef, undef, undef], defers := [] }) ?assign ?body ?done
    case assign =>
      intro l v W K hK
      gi_wp2
      exact hK
    case body =>
      rintro l i S m d W1 W2 ⟨R, q, e, hb, hss, hqi, hbl⟩ hlt hsz1 hx hsl
      have hb2 : Blk W2 w1.heap.size 34 #[.slice R q e] := (hx.block _ hb.lt (.inl (by omega))).trans hb
      have cc : W2.cell? ⟨w1.heap.size, 0, none⟩ = some (.slice R q e) := hb2.cell 0
      have ff := hb2.frozen 0
      have Ss2 := Lib.hid (hss.xk hx (fun k e => .inr (by have := (hss.lt_ k e).1; omega)))
      have Bl2 := Lib.hid (hbl.trans (hx.below (by omega) hbl.size))
      have Hb2 := Lib.hid hb2
      have Sl2 := Lib.hid hsl
      have Hn := Lib.hid (heads_snoc ((orbs xss N N).take i) ((orbs xss N N).getD i []))
      have Tk := Lib.hid (take_next hlt)
      have hz2 := hx.size
      clear hb hss hbl hx hsl hb2
      by_cases hm1 : m = 1
      · subst hm1
        obtain ⟨g, rfl, hg1, hg2⟩ : ∃ g, S = some ⟨g, 0, none⟩ ∧ W1.heap.size ≤ g ∧ g < W2.heap.size := by
          rcases Sl2.out.at_ with ⟨_, _, e0, _⟩ | ⟨g, e0, h1, h2⟩
          · cases e0
          · exact ⟨g, e0, h1, h2⟩
        obtain ⟨u, hu⟩ : ∃ u, ((orbs xss N N).getD i []).getD 0 0 = u := ⟨_, rfl⟩
        have c0 : W2.cell? ⟨g, 0, none⟩ = some (.int .i64 u) := by
          have := (Sl2.out.ri_).cellAt (j := 0) (by rw [Sl2.out.1]; exact Nat.one_pos)
          rw [← hu]; exact this.2
        have Hcell : Hid ((W2.alloc (.cells #[.int .i64 u] 2)).cell? ⟨W2.heap.size, 0, none⟩ = some (.int .i64 u)) := Lib.hid (by rw [World.cell?_alloc_at _ _ _ _ rfl]; rfl)
        have cc3 : (W2.alloc (.cells #[.int .i64 u] 2)).cell? ⟨w1.heap.size, 0, none⟩ = some (.slice R q e) := (Hb2.out.alloc _).cell 0
        gi_wp2
        refine wpIn_region_any (by kernel_rfl) ?_
        change wpAnyIn _ _ _ _ _ _ _ _ _ (World.drew _)
        repeat' (first
          | exact AllReadyIn.nil
          | (refine wpAnyIn_ready (rs := [0, 1]) (by decide +kernel) (by simp) ?_)
          | (refine wpAnyIn_ready (rs := [0, 2]) (by decide +kernel) (by simp) ?_)
          | (refine wpAnyIn_ready (rs := [0, 3]) (by decide +kernel) (by simp) ?_)
          | (refine wpAnyIn_ready (rs := [0, 4]) (by decide +kernel) (by simp) ?_)
          | (refine wpAnyIn_ready (rs := [0]) (by decide +kernel) (by simp) ?_)
          | (refine wpAnyIn_ready (rs := [1]) (by decide +kernel) (by simp) ?_)
          | (refine wpAnyIn_ready (rs := [2]) (by decide +kernel) (by simp) ?_)
          | (refine wpAnyIn_ready (rs := [3]) (by decide +kernel) (by simp) ?_)
          | (refine wpAnyIn_ready (rs := [4]) (by decide +kernel) (by simp) ?_)
          | (refine wpAnyIn_ready (rs := [5]) (by decide +kernel) (by simp) ?_)
          | (refine wpAnyIn_ready (rs := [6]) (by decide +kernel) (by simp) ?_)
          | (refine wpAnyIn_done (by decide +kernel) ?_ _)
          | (refine AllReadyIn.cons rfl (fun K hK => ?_) ?_)
          | (refine stepIn_app1 rfl (.tmp 18) (.tmp 22) rfl (V.heap.size + 3) R q e (heads ((orbs xss N N).take i)) rfl (Ss2.out.alloc (.cells #[.int .i64 u] 2)) W2.heap.size u rfl Hcell.out (by omega) (by simp; omega) ?_; intro A5 c5 w5 s5 g5
             have Hb5 : Hid (Blk w5 w1.heap.size 34 #[.slice R q e]) := Lib.hid ((Hb2.out.alloc (.cells #[.int .i64 u] 2)).grown (grown_undrewF g5) (fun e9 => by have := (Ss2.out.lt_ _ e9.symm).1; omega))
             have cc5 : w5.cell? ⟨w1.heap.size, 0, none⟩ = some (.slice R q e) := Hb5.out.cell 0
             have ff5 := Hb5.out.frozen 0
             have Ss5 := Lib.hid s5
             have Hg5 : Hid ((W2.alloc (.cells #[.int .i64 u] 2)).grownBy w5 (Value.slice R q e).ownBlock) := Lib.hid (grown_undrewF g5)
             clear s5 g5
             refine hK _ _ ?_; clear hK K)
          | (go_simp; refine hK _ _ ?_; clear hK K))
        all_goals (
          have Hb6 := Lib.hid (Hb5.out.set_ 0 (.slice A5 (q + 1) c5))
          have hne : some w1.heap.size ≠ (Value.slice A5 (q + 1) c5).ownBlock := fun e9 => by have := (Ss5.out.lt_ _ e9.symm).1; omega
          have Hn2 : Hid (heads ((orbs xss N N).take (i + 1)) = heads ((orbs xss N N).take i) ++ [u]) := Lib.hid (by rw [Tk.out, Hn.out, if_pos Sl2.out.1, hu])
          have Ss6 : Hid (Slc (w5.setCell ⟨w1.heap.size, 0, none⟩ (.slice A5 (q + 1) c5)) (V.heap.size + 3) A5 (q + 1) c5 (heads ((orbs xss N N).take (i + 1)))) := Lib.hid (by
            rw [Hn2.out]
            exact Ss5.out.kept (grown_set (grown_refl _ _) 0 _) (.inr fun h => hne h.symm))
          have Bl5 : Hid (Below w1.heap.size w1 w5) := Lib.hid ((Bl2.out.alloc Bl2.out.size _).grown Hg5.out (by have := Bl2.out.size; simp; omega) (fun j hj => by have := (Ss2.out.lt_ j hj).1; omega))
          refine ⟨⟨_, _, _, Hb6.out, Ss6.out, by omega, Bl5.out.setCell (p := ⟨w1.heap.size, 0, none⟩) (Nat.le_refl _) _⟩, fun k hk => ?_, ?_⟩
          · have hkl : k ≠ w1.heap.size := by omega
            have hkW2 : k < W2.heap.size := by omega
            refine (Below.heap_setCell _ _ _ k hkl).trans ((Hg5.out.block k (by simp; omega) fun e9 => ?_).trans (Below.heap_alloc _ _ _ hkW2))
            have := (Ss2.out.lt_ k e9.symm).1
            omega
          · have := Hg5.out.size
            simp at this
            simp [World.setCell]; omega)
      · have d1 : ((m : Int) == 1) = false := by simp; omega
        have Hn2 : Hid (heads ((orbs xss N N).take (i + 1)) = heads ((orbs xss N N).take i)) := Lib.hid (by rw [Tk.out, Hn.out, if_neg (by rw [Sl2.out.1]; exact hm1)])
        gi_wp2
        exact ⟨⟨R, q, e, Hb2.out, by rw [Hn2.out]; exact Ss2.out, by omega, Bl2.out⟩, fun _ _ => trivial, Nat.le_refl _⟩
    case done =>
      rintro W ⟨R, q, e, hb, hss, hqi, hbl⟩ hd
      have cc : W.cell? ⟨w1.heap.size, 0, none⟩ = some (.slice R q e) := hb.cell 0
      have Hbl := Lib.hid hbl
      have Hss := Lib.hid hss
      clear hbl hss
      gi_wp2
      refine ⟨by simp, .inl ⟨_, _, rfl, run_takeDeferred hd, ?_⟩⟩
      have hfin := Hss.out.xk (Xk.put W (.deferred none) (b := V.heap.size) (r := V.heap.size) (by omega)) (fun k e => .inr (by have := (Hss.out.lt_ k e).1; omega))
      rw [List.take_length, heads_orbs Pm.out N (Nat.le_refl _), ← Fin.out] at hfin
      have hq : q ≤ 20 := by rw [← hfin.1]; exact fixL_len _ _
      have hz9 := B1.out.size
      exact ⟨_, results_tmp rfl _ _ _, _, _, _, rfl, hfin.mono (by omega), hq, (btr B1.out Hbl.out).grown (grownBy_putObj' W _ _) (btr B1.out Hbl.out).size (fun k e => by cases e; omega)⟩

set_option maxHeartbeats 1600000 in
set_option maxRecDepth 100000 in
/-- The model's FixedPoints. -/
theorem specFixedPoints (a : Int) (A : Option Addr) (n c : Nat) (vs : List SV) (xss : List (List Int)) (w : World) (hx : RR w w.heap.size A n vs xss) (hn : n ≤ 1048576) (hl : Hid (∀ i, i < n → (vs.getD i sd0).2.1 ≤ 1048576)) (ha : -9223372036854775808 ≤ a ∧ a ≤ 9223372036854775807) :
    Calls Try.prog 29 #[.int .i64 a, .slice A n c] w fun e w' => ∃ A' m c', e = .returned (.slice A' m c') ∧ Slc w' w.heap.size A' m c' (fixL a xss) ∧ m ≤ 20 ∧ Below w.heap.size w w' := by
  have HX := Lib.hid hx
  have hlx := hx.lx
  have S0 := Lib.hid (Slc.lit0 w w.heap.size (Nat.le_refl _))
  have B0 : Hid (Below w.heap.size w (w.alloc (.cells #[] 2))) := Lib.hid ((Below.refl _ _).alloc (Nat.le_refl _) _)
  clear hx
  rcases hs : gB a xss with _ | _
  · have Fin : Hid (fixL a xss = []) := Lib.hid (if_neg (by rw [hs]; simp))
    go_enter Try.func29, Try.ntmps29
    go_wp2
    go_loopw [5, 6] (fun v i wr => i = .int .i64 0 ∧ v = .slice (some ⟨w.heap.size, 0, none⟩) 0 0 ∧ wr = w.alloc (.cells #[] 2)) (fun _ _ _ => 0)
    case atStart => exact ⟨rfl, rfl, rfl⟩
    case round =>
      obtain ⟨rfl, rfl, rfl⟩ := hrel
      by_cases h0 : 0 < a
      · have d0 : decide (0 < a) = true := decide_eq_true h0
        go_wp2_with fail
        refine (specGS a A n c vs xss _ (HX.out.up B0.out) hn hl ha).mono ?_
        rintro e w2 ⟨rfl, b2⟩
        have S2 := Lib.hid (S0.out.up b2)
        have B2 : Hid (Below w.heap.size w w2) := Lib.hid (btr B0.out b2)
        clear b2
        rw [hs]
        go_wp2_with fail
        go_ret
        exact ⟨_, _, _, rfl, by rw [Fin.out]; exact S2.out, by omega, B2.out⟩
      · have d0 : decide (0 < a) = false := decide_eq_false h0
        go_wp2_with fail
        go_ret
        exact ⟨_, _, _, rfl, by rw [Fin.out]; exact S0.out, by omega, B0.out⟩
  · obtain ⟨N, hN, hN1, hN2, hg8, hpm, hok⟩ := gB_pm hs
    subst hN
    have Fin : Hid (fixL N xss = fxL xss N N) := Lib.hid (if_pos hs)
    have Pm := Lib.hid hpm
    clear hok hpm
    go_enter Try.func29, Try.ntmps29
    go_wp2
    go_loopw [5, 6] (fun v i wr => ∃ (k : Nat) (g' m c' : Nat), k ≤ N ∧ i = .int .i64 (k : Nat) ∧ v = .slice (some ⟨g', 0, none⟩) m c' ∧ Slc wr w.heap.size (some ⟨g', 0, none⟩) m c' (fxL xss N k) ∧ Below w.heap.size w wr) (fun _ i _ => N - (intOf i).toNat)
    case atStart => exact ⟨0, _, _, _, Nat.zero_le _, rfl, rfl, S0.out, B0.out⟩
    case round =>
      clear S0 B0
      obtain ⟨k, g', m, c', hk, rfl, rfl, ss, bel⟩ := hrel
      have Ss := Lib.hid ss
      have Be := Lib.hid bel
      have hmk : m ≤ 20 := by rw [← ss.1]; have := fxL_len xss N k; omega
      clear ss bel
      by_cases hlt : k < N
      · have d0 : decide (k < N) = true := decide_eq_true hlt
        go_wp2_with fail
        refine (specGS N A n c vs xss wr (HX.out.up Be.out) hn hl ha).mono ?_
        rintro e w2 ⟨rfl, b2⟩
        have S2 := Lib.hid (Ss.out.up b2)
        have B2 : Hid (Below w.heap.size w w2) := Lib.hid (btr Be.out b2)
        clear b2
        rw [hs]
        go_wp2_with fail
        refine (specOrbOf k A n c N vs xss w2 (HX.out.up B2.out) Pm hlt (by omega) (by omega)).mono ?_
        rintro e w3 ⟨g3, c3, rfl, s3, b3⟩
        have S3 := Lib.hid (S2.out.up b3)
        have B3 : Hid (Below w.heap.size w w3) := Lib.hid (btr B2.out b3)
        clear s3 b3
        obtain ⟨M, hM⟩ : ∃ M, (orb xss N k).length = M := ⟨_, rfl⟩
        rw [hM]
        by_cases h1 : M = 1
        · subst h1
          have Fy := Lib.hid (fxL_yes hM)
          have hz3 := B3.out.size
          clear hM
          go_wp2_with (first | (at_builtin; refine wpList_app1 rfl _ _ rfl w.heap.size (some ⟨g', 0, none⟩) m c' _ rfl (S3.out.alloc _) w3.heap.size (k : Int) rfl (by rw [World.cell?_alloc_at _ _ _ _ rfl]; rfl) (by omega) (by simp; omega) ?_; intro A4 c4 w4 s4 g4))
          have B4 : Hid (Below w.heap.size w w4) := Lib.hid ((B3.out.alloc B3.out.size _).grown g4 (by simp; omega) (fun j hj => (S3.out.lt_ j hj).1))
          have S4 : Hid (Slc w4 w.heap.size A4 (m + 1) c4 (fxL xss N (k + 1))) := Lib.hid (by rw [Fy.out]; exact s4)
          clear s4 g4
          obtain ⟨q4, rfl⟩ : ∃ q4, A4 = some ⟨q4, 0, none⟩ := by
            rcases S4.out.at_ with ⟨_, _, e0, _⟩ | ⟨q4, e0, _, _⟩
            · omega
            · exact ⟨q4, e0⟩
          go_wp2
          go_roundw
          case rel => exact ⟨k + 1, _, _, _, by omega, by go_num, rfl, S4.out, B4.out⟩
          case measure => simp [intOf]; omega
        · have d1 : ((M : Int) == 1) = false := by simp; omega
          have Fn : Hid (fxL xss N (k + 1) = fxL xss N k) := Lib.hid (fxL_no (by rw [hM]; exact h1))
          clear hM
          go_wp2
          go_roundw
          case rel => exact ⟨k + 1, _, _, _, by omega, by go_num, rfl, by rw [Fn.out]; exact S3.out, B3.out⟩
          case measure => simp [intOf]; omega
      · have d0 : decide (k < N) = false := decide_eq_false hlt
        have hkN : k = N := by omega
        subst hkN
        go_wp2_with fail
        go_ret
        exact ⟨_, _, _, rfl, by rw [Fin.out]; exact Ss.out, hmk, Be.out⟩
end Go.Proofs.Ytojmlmeahoppjaa
