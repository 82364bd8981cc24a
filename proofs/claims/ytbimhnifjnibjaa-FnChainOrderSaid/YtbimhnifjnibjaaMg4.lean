/- Part 4 of the texts: DrawX, DrawM, WalkI4, Supp, Cyc, All, TypM, CycS, DrawN, Rnk, RkS, RkM, RkB, RkA, RkL, RkT, RkR, NtM, Less, WalkK5, PcM. No condition of its own: each text tells its own. -/
import Derived.Test.YtbimhnifjnibjaaMg3
import Derived.Test.YtbimhnifjnibjaaMg1
import Derived.Test.YtbimhnifjnibjaaMg2
import Derived.Deep.LoopGhost
import Derived.Deep.RegionHeld3
set_option linter.unusedVariables false
set_option linter.unusedSimpArgs false

/- A draw of a group, with where its slices lie. Condition: at most 4096 bytes. -/
namespace Go.Proofs.Ytbimhnifjnibjaa
open Go.RowKit

/-- Slices of numbers that can be read, all in blocks from lo on. -/
structure RX (w : World) (lo : Nat) (A : Option Addr) (n : Nat) (vs : List SV) (xss : List (List Int)) : Prop where
  rr : RR w w.heap.size A n vs xss
  outer : 0 < n → ∀ b off, A = some ⟨b, off, none⟩ → lo ≤ b
  inner : ∀ j, j < n → ∀ b off, (vs.getD j sd0).1 = some ⟨b, off, none⟩ → 0 < (xss.getD j []).length → lo ≤ b
section
variable {w w' : World} {lo g n : Nat} {A : Option Addr} {vs : List SV} {xss : List (List Int)}
theorem RX.nil_ {c : Option Addr} : RX w lo c 0 [] [] := ⟨RR.nil_, fun h => absurd h (Nat.lt_irrefl _), fun j h => absurd h (Nat.not_lt_zero _)⟩
theorem RX.of_ss {bo bi c : Nat} (h : SS w bo bi A n c vs xss) (h1 : lo ≤ bo) (h2 : lo ≤ bi) : RX w lo A n vs xss :=
  ⟨h.rr, fun _ b off e => by have := (h.lt_ b (by subst e; rfl)).1; omega, fun j hj b off e _ => by have := ((h.row j hj).lt_ b (by rw [e]; rfl)).1; omega⟩
theorem RX.gro (h : RX w lo A n vs xss) (hg : w.grownBy w' (some g)) (hl : g < lo) : RX w' lo A n vs xss :=
  ⟨⟨h.rr.lv, h.rr.lx, fun hn => by
      obtain ⟨b, off, e, hb, hc⟩ := h.rr.cells hn
      have := h.outer hn b off e
      exact ⟨b, off, e, Nat.lt_of_lt_of_le hb hg.size, fun j hj => (World.cell?_of_block (a := ⟨b, off + j, none⟩) (hg.block b hb (by intro e2; injection e2 with e2; omega))).trans (hc j hj)⟩,
    fun j hj hp => by
      obtain ⟨b, off, e, hb, hc⟩ := h.rr.rows j hj hp
      have := h.inner j hj b off e hp
      exact ⟨b, off, e, Nat.lt_of_lt_of_le hb hg.size, fun t ht => (World.cell?_of_block (a := ⟨b, off + t, none⟩) (hg.block b hb (by intro e2; injection e2 with e2; omega))).trans (hc t ht)⟩, h.rr.lens, h.rr.caps⟩, h.outer, h.inner⟩
theorem RX.up (h : RX w lo A n vs xss) (hb : Below w.heap.size w w') : RX w' lo A n vs xss := ⟨h.rr.up hb, h.outer, h.inner⟩
end
section
variable {w w' : World} {base n c : Nat} {A : Option Addr} {vs : List SV} {xss : List (List Int)}
/-- A slice that can be read, appended onto a slice of slices of the call's own. -/
theorem wpList_app2X {ops : Array Oper} {rest : List Oper} {o : Oper} {a : Act} {Q : Exit → Act → World → Prop} (hgd : o.guard = none) (s x : Operand)
    (ho : o.op = .call { callee := .builtin .append, args := #[s, x], argTypes := #[24, 24] })
    (hs : a.eval s = .slice A n c) (hss : SS w base base A n c vs xss) (g : Nat) (dA : Option Addr) (dn dc lo : Nat) (ys : List Int) (hx : a.eval x = .slice (some ⟨g, 0, none⟩) 1 1)
    (hcell : w.cell? ⟨g, 0, none⟩ = some (.slice dA dn dc)) (hys : Pm w lo dA dn dc ys) (hlo : ∀ k, (Value.slice A n c).ownBlock = some k → k < lo) (hn : n ≤ 1000000000) (hbase : base ≤ w.heap.size) (l0 : Nat) (hl0 : l0 ≤ base) (hl1 : l0 ≤ lo)
    (h : ∀ A' c' w', RX w' l0 A' (n + 1) (vs ++ [(dA, dn, dc)]) (xss ++ [ys]) → w.grownBy w' (Value.slice A n c).ownBlock → wpList Try.prog ops Q rest (a.put o.dst (.slice A' (n + 1) c')) w') : wpList Try.prog ops Q (o :: rest) a w := by
  obtain ⟨i0, hi, hz0, hz1, hz2⟩ := info_parts infoS
  refine wpList_append_own (w := w) hgd s x 24 ho base 28 i0 (.slice none 0 0) 1 24 Try.underlying24 hi hz0 hz1 hz2 rfl (by decide) _ n _ hs hss.own ⟨g, 0, none⟩ 1 1 [.slice dA dn dc] hx rfl ?_ ?_ ?_ (by omega) hbase ?_
  · intro j v hj
    match j, hj with
    | 0, hj => simp at hj; subst hj; simpa [Addr.add] using hcell
    | j + 1, hj => simp at hj
  · intro v hv; simp at hv; subst hv; rfl
  · unfold maxLen; omega
  · intro v' w' hown' hg _
    rcases hown'.2 with ⟨rfl, h0⟩ | ⟨g', cap, cur, rfl, hb', hg', hnc, _⟩
    · omega
    · refine h (some ⟨g', 0, none⟩) cap w' ⟨⟨by simp [hss.lv], by simp [hss.lx], fun _ => ⟨g', 0, rfl, (Array.getElem?_eq_some_iff.1 hg').1, fun j hj => ?_⟩, fun j hj => ?_, fun j hj => ?_, fun j hj => ?_⟩, fun _ b off e => ?_, fun j hj b off e hp => ?_⟩ hg
      · rw [Nat.zero_add, hown'.cellAt j (by omega)]
        by_cases e : j < n
        · rw [List.getElem?_append_left (by rw [List.length_map, hss.lv]; exact e), List.getElem?_map, getD_app _ _ _ _ (by rw [hss.lv]; exact e), List.getD_eq_getElem?_getD, List.getElem?_eq_getElem (by rw [hss.lv]; exact e)]; rfl
        · obtain rfl : j = n := by omega
          rw [List.getElem?_append_right (by rw [List.length_map, hss.lv]; exact Nat.le_refl _), List.length_map, hss.lv, Nat.sub_self, getD_snoc _ _ _ _ hss.lv.symm]; rfl
      · by_cases e : j < n
        · rw [getD_app _ _ _ _ (by rw [hss.lv]; exact e), getD_app _ _ _ _ (by rw [hss.lx]; exact e)]
          exact ((hss.row j e).kept hg (apart_types (hss.row j e) hss.own)).ri_
        · obtain rfl : j = n := by omega
          rw [getD_snoc _ _ _ _ hss.lv.symm, getD_snoc _ _ _ _ hss.lx.symm]
          intro hp
          obtain ⟨b, off, e1, h1, h2, hc⟩ := hys.2.2 (by rw [← hys.1]; exact hp)
          refine ⟨b, off, e1, Nat.lt_of_lt_of_le h2 hg.size, fun t ht => (World.cell?_of_block (a := ⟨b, off + t, none⟩) (hg.block b h2 fun e2 => ?_)).trans (hc t (by rw [← hys.1]; exact ht))⟩
          have := hlo b e2.symm
          omega
      · by_cases e : j < n
        · rw [getD_app _ _ _ _ (by rw [hss.lx]; exact e), getD_app _ _ _ _ (by rw [hss.lv]; exact e)]; exact (hss.row j e).1
        · obtain rfl : j = n := by omega
          rw [getD_snoc _ _ _ _ hss.lx.symm, getD_snoc _ _ _ _ hss.lv.symm]; exact hys.1
      · by_cases e : j < n
        · rw [getD_app _ _ _ _ (by rw [hss.lv]; exact e)]; exact (hss.row j e).le.1
        · obtain rfl : j = n := by omega
          rw [getD_snoc _ _ _ _ hss.lv.symm]; exact hys.2.1
      · injection e with e; injection e with e; omega
      · by_cases e9 : j < n
        · rw [getD_app _ _ _ _ (by rw [hss.lv]; exact e9)] at e
          have := ((hss.row j e9).lt_ b (by rw [e]; rfl)).1
          omega
        · obtain rfl : j = n := by omega
          rw [getD_snoc _ _ _ _ hss.lv.symm] at e
          rw [getD_snoc _ _ _ _ hss.lx.symm] at hp
          obtain ⟨b2, off2, e1, h1, _⟩ := hys.2.2 (by rw [← hys.1]; exact hp)
          have e3 : (some ⟨b, off, none⟩ : Option Addr) = some ⟨b2, off2, none⟩ := e.symm.trans e1
          injection e3 with e3; injection e3 with e3; omega
end

set_option maxHeartbeats 4000000 in
set_option maxRecDepth 100000 in
/-- drawGroup. -/
theorem drawGroupX (g : Nat) (w : World) (hs : Src w g) :
    Calls Try.prog 16 #[.pointer (some ⟨g, 0, none⟩)] w fun e w' => ∃ (z : Int) (A : Option Addr) (m c : Nat) (vs : List SV) (xss : List (List Int)), e = .returned (.tuple #[.int .i64 z, .slice A m c]) ∧ B64 z ∧ RX w' w.heap.size A m vs xss ∧ m ≤ 9 ∧ (∀ i, i < m → (vs.getD i sd0).2.1 ≤ 21) ∧ Src w' g ∧ w.grownBy w' (some g) := by
  have hg := hs.lt
  go_enter Try.func16, Try.ntmps16
  go_wp2_with fail
  refine (srcBetween g 2 5 w hs (by omega) (by omega)).mono ?_
  rintro e w1 ⟨n1, h11, h12, rfl, s1, g1⟩
  have Sr1 := Lib.hid s1
  have G1 := Lib.hid g1
  clear s1 g1 hs
  go_wp2_with fail
  refine (srcOne g _ 6 w1 Sr1.out rfl (by omega) (by omega)).mono ?_
  rintro e w2 ⟨b, rfl, s2, g2⟩
  have Sr2 := Lib.hid s2
  have G2 : Hid (w.grownBy w2 (some g)) := Lib.hid (grown_trans' G1.out g2)
  clear s2 g2
  go_upto_if 9 with fail
  go_cut [4] from 6 to 48 (fun nn wx => ∃ n : Nat, 1 ≤ n ∧ n ≤ 7 ∧ nn = .int .i64 (n : Nat) ∧ Src wx g ∧ w.grownBy wx (some g))
  case first =>
    cases b
    · go_wp2_with fail
      go_meet
      exact ⟨n1, by omega, by omega, rfl, Sr2.out, G2.out⟩
    · go_wp2_with fail
      refine (srcBetween g 1 7 w2 Sr2.out (by omega) (by omega)).mono ?_
      rintro e w3 ⟨n3, h31, h32, rfl, s3, g3⟩
      have Sr3 := Lib.hid s3
      have G3 : Hid (w.grownBy w3 (some g)) := Lib.hid (grown_trans' G2.out g3)
      clear s3 g3
      go_wp2_with fail
      go_meet
      exact ⟨n3, by omega, by omega, rfl, Sr3.out, G3.out⟩
  case rest =>
    obtain ⟨n, hn1, hn7, rfl, src, grc⟩ := hcut
    have Sr3 := Lib.hid src
    have G3 := Lib.hid grc
    clear src grc Sr2 G2 Sr1 G1
    have hwc := G3.out.size
    go_wp2_with fail
    refine (drawGens g n wc Sr3.out hn1 (by omega)).mono ?_
    rintro e w4 ⟨A, m, c, us, xss, rfl, ss4, ln4, hm4, s4, g4⟩
    have Ss4 := Lib.hid ss4
    have Ln4 := Lib.hid ln4
    have Sr4 := Lib.hid s4
    have G4 : Hid (w.grownBy w4 (some g)) := Lib.hid (grown_trans' G3.out g4)
    have hgc : g < wc.heap.size := Sr3.out.lt
    have hz4 := G4.out.size
    have LA : Hid (∀ j, (Value.slice A m c).ownBlock = some j → wc.heap.size ≤ j ∧ j < w4.heap.size) := Lib.hid ss4.lt_
    have LI : Hid (∀ t, t < m → ∀ j, (sval (us.getD t sd0)).ownBlock = some j → wc.heap.size ≤ j ∧ j < w4.heap.size) := Lib.hid fun t ht => (ss4.row t ht).lt_
    have hzc4 := g4.size
    clear ss4 ln4 s4 g4
    go_wp2_with fail
    refine (srcOne g _ 20 w4 Sr4.out rfl (by omega) (by omega)).mono ?_
    rintro e w5 ⟨b5, rfl, s5, g5⟩
    have Sr5 := Lib.hid s5
    have Ss5 := Lib.hid (Ss4.out.farR g5 LA.out LI.out (.inl hgc))
    have G5 : Hid (w.grownBy w5 (some g)) := Lib.hid (grown_trans' G4.out g5)
    have hz5 := g5.size
    clear s5 g5
    cases b5
    · go_wp2_with fail
      go_ret2
      exact ⟨_, _, _, _, us, xss, rfl, by unfold B64; omega, (RX.of_ss Ss5.out (by omega) (by omega)), by omega, Ss5.out.lens_le Ln4.out (by omega), Sr5.out, G5.out⟩
    · go_wp2_with fail
      refine (srcBelow g _ 4 w5 Sr5.out rfl (by omega) (by omega)).mono ?_
      rintro e w6 ⟨r6, hr6, rfl, s6, g6⟩
      have Sr6 := Lib.hid s6
      have Ss6 := Lib.hid (Ss5.out.farR g6 LA.out LI.out (.inl hgc))
      have G6 : Hid (w.grownBy w6 (some g)) := Lib.hid (grown_trans' G5.out g6)
      have hz6 := g6.size
      clear s6 g6
      obtain rfl | rfl | rfl | rfl : r6 = 0 ∨ r6 = 1 ∨ r6 = 2 ∨ r6 = 3 := by omega
      · go_wp2_with fail
        refine (srcNumberB g 20 w6 Sr6.out (by omega) (by omega)).mono ?_
        rintro e w7 ⟨z7, rfl, hB7, s7, g7⟩
        have Sr7 := Lib.hid s7
        have Ss7 := Lib.hid (Ss6.out.farR g7 LA.out LI.out (.inl hgc))
        have G7 : Hid (w.grownBy w7 (some g)) := Lib.hid (grown_trans' G6.out g7)
        have HB7 := Lib.hid hB7
        clear s7 g7 hB7
        go_wp2_with fail
        go_ret2
        exact ⟨_, _, _, _, us, xss, rfl, HB7.out, (RX.of_ss Ss7.out (by omega) (by omega)), by omega, Ss7.out.lens_le Ln4.out (by omega), Sr7.out, G7.out⟩
      · go_wp2_with fail
        refine (drawAny g n w6 Sr6.out (by omega) (by omega)).mono ?_
        rintro e w7 ⟨A7, m7, c7, ys, rfl, p7, hm7, s7, g7⟩
        have Sr7 := Lib.hid s7
        have Ss7 := Lib.hid (Ss6.out.farR g7 LA.out LI.out (.inl hgc))
        have G7 : Hid (w.grownBy w7 (some g)) := Lib.hid (grown_trans' G6.out g7)
        have P7 : Hid (Pm (w7.alloc (.cells #[.slice A7 m7 c7] 28)) w6.heap.size A7 m7 c7 ys) := Lib.hid (p7.up ((Below.refl w7.heap.size w7).alloc (Nat.le_refl _) _))
        have hz7 := G7.out.size
        have hz67 := g7.size
        have hlt7 : Hid (∀ j, (Value.slice A m c).ownBlock = some j → j < w6.heap.size) := Lib.hid fun j hj => by have := (LA.out j hj).2; omega
        clear s7 g7 p7
        go_wp2_with (first
          | (at_builtin
             refine wpList_app2X rfl _ _ rfl rfl (Ss7.out.alloc _) w7.heap.size A7 m7 c7 w6.heap.size ys rfl (by rw [World.cell?_alloc_at _ _ _ _ rfl]; rfl) P7.out hlt7.out (by omega) (by simp; omega) w.heap.size (by omega) (by omega) ?_
             intro A8 c8 w8 rr8 g8))
        have R8 := Lib.hid rr8
        have Sr8 : Hid (Src w8 g) := Lib.hid ((Sr7.out.below ((Below.refl w7.heap.size w7).alloc (Nat.le_refl _) (.cells #[.slice A7 m7 c7] 28)) Sr7.out.lt).gro2 g8 (fun j hj => by have := (LA.out j hj).1; omega))
        have G8 : Hid (w.grownBy w8 (some g)) := Lib.hid (grown_new2 (grown_alloc2 G7.out (.cells #[.slice A7 m7 c7] 28)) g8 (fun j hj => by have := (LA.out j hj).1; have := G3.out.size; omega))
        have Ln8 : Hid (∀ i, i < m + 1 → ((us ++ [((A7, m7, c7) : SV)]).getD i sd0).2.1 ≤ 21) := Lib.hid fun i hi => by
          by_cases e9 : i < m
          · rw [getD_app _ _ _ _ (by rw [Ss7.out.lv]; exact e9), Ln4.out i e9]; omega
          · rw [getD_snoc _ _ _ _ (by rw [Ss7.out.lv]; omega)]; exact hm7
        clear rr8 g8
        go_wp2_with fail
        go_ret2
        exact ⟨_, _, _, _, _, _, rfl, by unfold B64; omega, R8.out, by omega, Ln8.out, Sr8.out, G8.out⟩
      · have hw6 := G6.out.size
        have Sr7 : Hid (Src (w6.alloc (.cells #[] 28)) g) := Lib.hid (Sr6.out.below ((Below.refl w6.heap.size w6).alloc (Nat.le_refl _) _) Sr6.out.lt)
        have G7 : Hid (w.grownBy (w6.alloc (.cells #[] 28)) (some g)) := Lib.hid (grown_alloc2 G6.out _)
        go_wp2_with fail
        go_ret2
        exact ⟨_, _, 0, _, [], [], rfl, by unfold B64; omega, RX.nil_, by omega, fun i hi => absurd hi (by omega), Sr7.out, G7.out⟩
      · go_wp2_with fail
        go_loopg [5] 10 (fun gg v wr => ∃ (A : Option Addr) (m c : Nat) (us : List SV) (xss : List (List Int)), m ≤ 9 ∧ 9 - m ≤ gg ∧ v = .slice A m c ∧ SS wr wc.heap.size wc.heap.size A m c us xss ∧ (∀ i, i < m → (us.getD i sd0).2.1 = n) ∧ Src wr g ∧ w.grownBy wr (some g) ∧ wc.heap.size ≤ wr.heap.size)
        case atStart => exact ⟨_, m, _, _, _, by omega, by omega, rfl, Ss6.out, Ln4.out, Sr6.out, G6.out, by omega⟩
        case round =>
          clear LA LI Ss4 Ss5 Ss6
          obtain ⟨A, m, c, us, xss, hm9, hgm, rfl, ss, ln, sr, gr, hzc⟩ := hrel
          have Ss := Lib.hid ss
          have Ln := Lib.hid ln
          have Sr := Lib.hid sr
          have Gr := Lib.hid gr
          have LA : Hid (∀ j, (Value.slice A m c).ownBlock = some j → wc.heap.size ≤ j ∧ j < wr.heap.size) := Lib.hid ss.lt_
          have LI : Hid (∀ t, t < m → ∀ j, (sval (us.getD t sd0)).ownBlock = some j → wc.heap.size ≤ j ∧ j < wr.heap.size) := Lib.hid fun t ht => (ss.row t ht).lt_
          clear ss ln sr gr
          go_wp2_with fail
          refine (srcBelow g _ 2 wr Sr.out rfl (by omega) (by omega)).mono ?_
          rintro e w7 ⟨r7, hr7, rfl, s7, g7⟩
          have Sr7 := Lib.hid s7
          have Ss7 := Lib.hid (Ss.out.farR g7 LA.out LI.out (.inl hgc))
          have G7 : Hid (w.grownBy w7 (some g)) := Lib.hid (grown_trans' Gr.out g7)
          have hz7 := g7.size
          have w88 : IntKind.i64.wrap (8 + (r7 : Int)) = 8 + (r7 : Int) := by rw [IntKind.wrap_i64]; omega
          have w89 : IntKind.i64.wrap (r7 : Int) = (r7 : Int) := by rw [IntKind.wrap_i64]; omega
          clear s7 g7
          by_cases hlt : (m : Int) < 8 + (r7 : Int)
          · have d7 : decide ((m : Int) < 8 + (r7 : Int)) = true := decide_eq_true hlt
            have hm8 : m ≤ 8 := by omega
            go_wp2_with fail
            refine (specIdent n w7 (by omega)).mono ?_
            rintro e w8 ⟨A8, c8, rfl, s8, b8⟩
            have Sr8 := Lib.hid (Sr7.out.below b8 Sr7.out.lt)
            have Ss8 := Lib.hid (Ss7.out.up b8)
            have G8 : Hid (w.grownBy w8 (some g)) := Lib.hid (grown_below2 G7.out b8)
            have D8 := Lib.hid (lies_dis Ss7.out s8.lies (Nat.le_refl _))
            have hz8 := b8.size
            have Sl8 := Lib.hid (s8.mono (show wc.heap.size ≤ w7.heap.size by omega))
            clear s8 b8
            go_wp2_with (first
              | (at_builtin
                 refine wpList_app2 rfl _ _ rfl rfl (Ss8.out.alloc _) w8.heap.size A8 n c8 (idL n) rfl (by rw [World.cell?_alloc_at _ _ _ _ rfl]; rfl) (Sl8.out.alloc _) D8.out (by omega) (by simp; omega) ?_
                 intro A9 c9 w9 ss9 g9))
            have Ss9 : Hid (SS w9 wc.heap.size wc.heap.size A9 (m + 1) c9 (us ++ [(A8, n, c8)]) (xss ++ [idL n])) := Lib.hid ss9
            have Sr9 : Hid (Src w9 g) := Lib.hid ((Sr8.out.below ((Below.refl w8.heap.size w8).alloc (Nat.le_refl _) (.cells #[.slice A8 n c8] 28)) Sr8.out.lt).gro2 g9 (fun j hj => by have := (LA.out j hj).1; omega))
            have G9 : Hid (w.grownBy w9 (some g)) := Lib.hid (grown_new2 (grown_alloc2 G8.out (.cells #[.slice A8 n c8] 28)) g9 (fun j hj => by have := (LA.out j hj).1; have := G3.out.size; omega))
            have hz9 : wc.heap.size ≤ w9.heap.size := by have := g9.size; simp at this; omega
            have Ln9 : Hid (∀ i, i < m + 1 → ((us ++ [((A8, n, c8) : SV)]).getD i sd0).2.1 = n) := Lib.hid fun i hi => by
              by_cases e9 : i < m
              · rw [getD_app _ _ _ _ (by rw [Ss8.out.lv]; exact e9)]; exact Ln.out i e9
              · rw [getD_snoc _ _ _ _ (by rw [Ss8.out.lv]; omega)]
            clear ss9 g9
            go_wp2_with fail
            go_roundg (9 - (m + 1))
            case rel => exact ⟨A9, m + 1, c9, _, _, by omega, by omega, rfl, Ss9.out, Ln9.out, Sr9.out, G9.out, hz9⟩
            case measure => omega
          · have d7 : decide ((m : Int) < 8 + (r7 : Int)) = false := decide_eq_false hlt
            go_wp2_with fail
            go_ret2
            exact ⟨_, _, _, _, us, xss, rfl, by unfold B64; omega, (RX.of_ss Ss7.out (by omega) (by omega)), by omega, Ss7.out.lens_le Ln.out (by omega), Sr7.out, G7.out⟩
end Go.Proofs.Ytbimhnifjnibjaa

/- The draws of chapter 4's named laws. Condition: at most 4096 bytes. -/
namespace Go.Proofs.Ytbimhnifjnibjaa
open Go.RowKit

theorem drawAnyK (g n : Nat) (N : Int) (w : World) (hs : Src w g) (hN : N = (n : Int)) (h1 : 1 ≤ n) (hn : n ≤ 20) :
    Calls Try.prog 34 #[.pointer (some ⟨g, 0, none⟩), .int .i64 N] w fun e w' => ∃ A m c xs, e = .returned (.slice A m c) ∧ Pm w' w.heap.size A m c xs ∧ m ≤ 21 ∧ Src w' g ∧ w.grownBy w' (some g) := by
  subst hN; exact drawAny g n w hs h1 hn

end Go.Proofs.Ytbimhnifjnibjaa

/- The walk of the law FnMembership: it returns true at every input, and writes nothing that was there. No condition but the program's own contracts. -/
namespace Go.Proofs.Ytbimhnifjnibjaa
open Go.RowKit

set_option maxHeartbeats 400000 in
theorem bigF4 (A : Option Addr) (len cap : Nat) (w : World) (hl : len ≤ 4096) : Calls Try.prog 4 #[.slice A len cap] w fun e w' => e = .returned (.bool false) ∧ w = w' := by
  have d : decide ((4096 : Int) < (len : Int)) = false := by simp; omega
  go_enter Try.func4, Try.ntmps4
  go_wp2
  go_ret
  exact ⟨rfl, rfl⟩
set_option maxHeartbeats 400000 in
theorem bigT4 (A : Option Addr) (len cap : Nat) (w : World) (hl : 4096 < len) : Calls Try.prog 4 #[.slice A len cap] w fun e w' => e = .returned (.bool true) ∧ w = w' := by
  have d : decide ((4096 : Int) < (len : Int)) = true := by simp; omega
  go_enter Try.func4, Try.ntmps4
  go_wp2
  go_ret
  exact ⟨rfl, rfl⟩
theorem below_gro4 {w0 w w' : World} {g : Nat} (h : Below w0.heap.size w0 w) (hg : w.grownBy w' (some g)) (hB : w0.heap.size ≤ g) : Below w0.heap.size w0 w' := h.grown hg h.size (fun k e => by injection e with e; omega)
theorem likeI_eq (A B : Option Addr) (c d n m : Nat) (xs : List Int) (w : World) (hx : RI w w.heap.size A xs) (hy : RI w w.heap.size B xs) (lx : Hid (xs.length = n)) (ly : Hid (xs.length = m)) (hn : n ≤ 2097152) :
    Calls Try.prog 10 #[.slice A n c, .slice B m d] w fun e w' => e = .returned (.bool true) ∧ Below w.heap.size w w' :=
  (quiet_below (likeI_any A B c d n m _ _ w hx hy lx ly hn (by rw [← ly.out, lx.out]; exact hn))).mono fun e w' ⟨he, hb⟩ => ⟨he.trans (ret_bool (by simp)), hb⟩


/-! ### what the answers tell of each other -/
section
variable {N k np : Nat} {gs : List (List Int)} {p m : List Int}
theorem take_at {t : Nat} (h : t < (p.take k).length) : (p.take k).getD t 0 = p.getD t 0 := by
  rw [List.length_take] at h
  rw [List.getD_eq_getElem?_getD, List.getElem?_take, if_pos (by omega), ← List.getD_eq_getElem?_getD]
theorem lmp_all (hp : Pn N p) (h1 : 1 ≤ N) (h2 : N ≤ 20) (hg : ∀ g ∈ gs, Pn N g) (h : LmpOK N gs p k) : Mb gs N p ↔ k = N := by
  obtain ⟨a, ⟨q, hq, hq2⟩, b⟩ := h
  constructor
  · intro hm
    rcases Nat.lt_or_ge k N with hl | hl
    · exact absurd ⟨p, hm, fun _ _ => rfl⟩ (b hl)
    · omega
  · rintro rfl
    have : q = p := (hq.pn hg h1 h2).ext hp fun x hx => hq2 x hx
    exact this ▸ hq
theorem lmp_pre (hp : Pn N p) (h : LmpOK N gs p k) : ¬ NoMem N gs (p.take k) := by
  obtain ⟨a, ⟨q, hq, hq2⟩, _⟩ := h
  refine fun hn => hn q hq fun t ht => ?_
  rw [take_at ht]
  rw [List.length_take] at ht
  rw [hq2 t (by omega), nx_val hp.1 (by rw [hp.2]; omega)]
theorem lmp_none (hp : Pn N p) (h : LmpOK N gs p k) (hk : k < N) : ∀ q, Mb gs N q → ¬ ∀ t, t < (p.take (k + 1)).length → (nx q t : Int) = (p.take (k + 1)).getD t 0 := fun q hq hq2 => by
  refine h.2.2 hk ⟨q, hq, fun t ht => ?_⟩
  have h3 := hq2 t (by rw [List.length_take, hp.2]; omega)
  rw [take_at (by rw [List.length_take, hp.2]; omega), nx_val hp.1 (by rw [hp.2]; omega)] at h3
  omega
theorem greedy_all (hp : Pn N p) (h1 : 1 ≤ N) (h2 : N ≤ 20) (hg : ∀ g ∈ gs, Pn N g) (h : Greedy N gs p m) : m = p :=
  (h.1.pn hg h1 h2).ext hp fun x hx => by
    have := (h.2 x hx).1 (by rw [hp.2]; exact hx)
    rw [nx_val hp.1 (by rw [hp.2]; exact hx)] at this
    omega
end

end Go.Proofs.Ytbimhnifjnibjaa

/- Support, of the program and of the model, and the program's search for points. Condition: at most 2097152 entries. -/
namespace Go.Proofs.Ytbimhnifjnibjaa
open Go.RowKit

def ptsL (f : Nat → Bool) (k : Nat) : List Int := ((List.range k).filter f).map Int.ofNat
theorem ptsL_yes {f : Nat → Bool} {k : Nat} (h : f k = true) : ptsL f (k + 1) = ptsL f k ++ [(k : Int)] := by simp [ptsL, List.range_succ, List.filter_append, h]
theorem ptsL_no {f : Nat → Bool} {k : Nat} (h : f k = false) : ptsL f (k + 1) = ptsL f k := by simp [ptsL, List.range_succ, List.filter_append, h]
theorem ptsL_le (f : Nat → Bool) (k : Nat) : (ptsL f k).length ≤ k := by
  unfold ptsL; rw [List.length_map]; exact Nat.le_trans (List.length_filter_le _ _) (by simp)
def movesB (p : List Int) (x : Nat) : Bool := p.getD x 0 != (x : Int)
theorem supp_eq (p : List Int) : supp p = ptsL (movesB p) p.length := rfl
def suppL (p : List Int) : List Int := if isP p = true then supp p else []

end Go.Proofs.Ytbimhnifjnibjaa

/- Cycles, point by point: cycleFrom and startsCycle of the program, cycleOf and isSmallest of the model. Condition: the list is a permutation. -/
namespace Go.Proofs.Ytbimhnifjnibjaa
open Go.RowKit

def lenV : Value → Nat | .slice _ n _ => n | _ => 0
/-- The first k points from x on. -/
def cycTo (p : List Int) (x k : Nat) : List Int := (List.range k).map fun j => (it p j x : Int)
theorem cycTo_succ (p : List Int) (x k : Nat) : cycTo p x (k + 1) = cycTo p x k ++ [(it p k x : Int)] := by simp [cycTo, List.range_succ]
theorem cycTo_one (p : List Int) (x : Nat) : cycTo p x 1 = [(x : Int)] := rfl
theorem cyc_eq (p : List Int) (x : Nat) : cyc p x = cycTo p x (per p x) := rfl
theorem cyc_getD {p : List Int} {x j : Nat} (h : j < per p x) : (cyc p x).getD j 0 = (it p j x : Int) := by
  rw [List.getD_eq_getElem?_getD, List.getElem?_eq_getElem (by rw [cyc_length]; exact h)]; simp [cyc]


theorem st_true {p : List Int} {x : Nat} (h : ∀ j, j < per p x → x ≤ it p j x) : st p x = true := by
  unfold st; rw [List.all_eq_true]; intro j hj; rw [decide_eq_true_eq]; exact h j (List.mem_range.1 hj)
theorem st_false {p : List Int} {x j : Nat} (hj : j < per p x) (h : it p j x < x) : st p x = false := by
  unfold st; rw [List.all_eq_false]; exact ⟨j, List.mem_range.2 hj, by simp; omega⟩




end Go.Proofs.Ytbimhnifjnibjaa

/- All cycles of a permutation, of the program and of the model. Condition: the list is a permutation. -/
namespace Go.Proofs.Ytbimhnifjnibjaa
open Go.RowKit

/-- The smallest points of the cycles, as far as k. -/
def heads (p : List Int) (k : Nat) : List Nat := (List.range k).filter (st p)
theorem heads_yes {p : List Int} {k : Nat} (h : st p k = true) : heads p (k + 1) = heads p k ++ [k] := by simp [heads, List.range_succ, List.filter_append, h]
theorem heads_no {p : List Int} {k : Nat} (h : st p k = false) : heads p (k + 1) = heads p k := by simp [heads, List.range_succ, List.filter_append, h]
theorem cycs_heads (p : List Int) : cycs p = (heads p p.length).map (cyc p) := rfl
theorem heads_le (p : List Int) (k : Nat) : (heads p k).length ≤ k := Nat.le_trans (List.length_filter_le _ _) (by simp)
theorem pts_heads (p : List Int) (k : Nat) : ptsL (st p) k = (heads p k).map Int.ofNat := rfl
theorem heads_lt {p : List Int} {n k x : Nat} (hk : k < (heads p n).length) (e : (heads p n).getD k 0 = x) : x < n := by
  have : x ∈ heads p n := by rw [← e, List.getD_eq_getElem?_getD, List.getElem?_eq_getElem hk]; exact List.getElem_mem hk
  exact List.mem_range.1 (List.mem_filter.1 this).1


end Go.Proofs.Ytbimhnifjnibjaa

/- Plain facts on cycle types: the lengths of all cycles, in descending order. No Go in it. No condition. -/
namespace Go.Proofs.Ytbimhnifjnibjaa

def lens (p : List Int) : List Nat := (cycs p).map List.length
/-- Those of the numbers that are at most n, and at least 1, in descending order. -/
def desc : Nat → List Nat → List Int
  | 0, _ => []
  | n + 1, l => List.replicate (l.count (n + 1)) (((n + 1 : Nat) : Int)) ++ desc n l
def ctype (p : List Int) : List Int := desc p.length (lens p)
def ctypeL (p : List Int) : List Int := if isP p = true then ctype p else []
theorem desc_count (n : Nat) (l : List Nat) (x : Int) : (desc n l).count x = if 1 ≤ x ∧ x ≤ n then l.count x.toNat else 0 := by
  induction n with
  | zero => rw [if_neg (by omega)]; rfl
  | succ n ih =>
    rw [desc, List.count_append, ih, List.count_replicate]
    by_cases e : x = ((n + 1 : Nat) : Int)
    · subst e
      rw [if_pos (by simp), if_neg (by omega), if_pos (by omega)]; simp
    · rw [if_neg (by simpa using Ne.symm e)]
      by_cases h : 1 ≤ x ∧ x ≤ n
      · rw [if_pos h, if_pos (by omega)]; omega
      · rw [if_neg h, if_neg (by omega)]
theorem desc_mem (n : Nat) (l : List Nat) {x : Int} (h : x ∈ desc n l) : 1 ≤ x ∧ x ≤ n := by
  have := List.count_pos_iff.2 h
  rw [desc_count] at this
  split at this
  · assumption
  · omega
theorem desc_sorted (n : Nat) (l : List Nat) : (desc n l).Pairwise fun a b => b ≤ a := by
  induction n with
  | zero => exact List.Pairwise.nil
  | succ n ih =>
    rw [desc, List.pairwise_append]
    refine ⟨List.pairwise_replicate.2 (.inr (Int.le_refl _)), ih, fun a ha b hb => ?_⟩
    rw [List.mem_replicate] at ha
    have := desc_mem n l hb
    omega
theorem sort_desc (n : Nat) (l : List Nat) (h : ∀ x ∈ l, 1 ≤ x ∧ x ≤ n) : ((l.map Int.ofNat).mergeSort fun x y => decide (x ≤ y)).reverse = desc n l := by
  apply List.Perm.eq_of_pairwise (le := fun (a b : Int) => b ≤ a)
  · intro a b _ _ h1 h2; omega
  · rw [List.pairwise_reverse]
    have := List.pairwise_mergeSort (le := fun (x y : Int) => decide (x ≤ y)) (fun a b c h1 h2 => by simp at *; omega) (fun a b => by simp; omega) (l.map Int.ofNat)
    exact this.imp fun h => by simpa using h
  · exact desc_sorted n l
  · refine (List.reverse_perm _).trans ((List.mergeSort_perm _ _).trans ?_)
    rw [List.perm_iff_count]
    intro x
    rw [desc_count]
    by_cases hx : 0 ≤ x
    · have e1 : (l.map Int.ofNat).count x = l.count x.toNat := by
        clear h
        induction l with
        | nil => rfl
        | cons a t ih =>
          rw [List.map_cons, List.count_cons, List.count_cons, ih]
          by_cases e : a = x.toNat
          · have e2 : Int.ofNat a = x := by rw [e]; simp; omega
            rw [if_pos (by simpa using e2), if_pos (by simpa using e)]
          · have e2 : Int.ofNat a ≠ x := by intro e3; apply e; rw [← e3]; rfl
            have : ¬ ((a : Int) = x) := e2
            simp [e, this]
      rw [e1]
      split
      · rfl
      · rename_i hn
        rw [List.count_eq_zero]
        intro hm
        have := h _ hm
        omega
    · rw [if_neg (by omega), List.count_eq_zero]
      intro hm
      rw [List.mem_map] at hm
      obtain ⟨a, _, e⟩ := hm
      have : (a : Int) = x := e
      omega
theorem lens_heads (p : List Int) : lens p = (heads p p.length).map (per p) := by
  unfold lens; rw [cycs_heads, List.map_map]; congr 1; funext x; simp [cyc_length]
theorem lens_mem {p : List Int} (h : IsP p) : ∀ x ∈ lens p, 1 ≤ x ∧ x ≤ p.length := by
  intro x hx
  rw [lens_heads, List.mem_map] at hx
  obtain ⟨a, ha, rfl⟩ := hx
  have ha' : a < p.length := List.mem_range.1 (List.mem_filter.1 ha).1
  have := per_spec h ha'
  exact ⟨this.1, this.2.1⟩
theorem ctype_sort {p : List Int} (h : IsP p) : (((lens p).map Int.ofNat).mergeSort fun x y => decide (x ≤ y)).reverse = ctype p := sort_desc _ _ (lens_mem h)
theorem lens_len (p : List Int) : (lens p).length = (cycs p).length := by simp [lens]
theorem cycs_pos {p : List Int} (h : IsP p) : 1 ≤ (cycs p).length := by
  obtain ⟨c, j, hc, hs, _⟩ := min_ex h (x := 0) (by have := h.pos; omega)
  rw [cycs_heads, List.length_map]
  have : c ∈ heads p p.length := List.mem_filter.2 ⟨List.mem_range.2 hc, hs⟩
  cases e : heads p p.length with
  | nil => rw [e] at this; cases this
  | cons => simp
theorem ctype_len {p : List Int} (h : IsP p) : (ctype p).length = (cycs p).length := by rw [← ctype_sort h, List.length_reverse, List.length_mergeSort, List.length_map, lens_len]
/-- The lengths of the first k cycles. -/
def lensI (p : List Int) (k : Nat) : List Int := ((lens p).take k).map Int.ofNat
theorem lensI_succ {p : List Int} {k l : Nat} (hk : k < (lens p).length) (e : (lens p)[k] = l) : lensI p (k + 1) = lensI p k ++ [(l : Int)] := by
  unfold lensI; rw [List.take_succ_eq_append_getElem hk, List.map_append, e]; rfl
theorem count_take {l : List Nat} {k x y : Nat} (hk : k < l.length) (e : l[k] = y) : (l.take (k + 1)).count x = (l.take k).count x + if y = x then 1 else 0 := by
  rw [List.take_succ_eq_append_getElem hk, List.count_append, e, List.count_singleton]
  simp
end Go.Proofs.Ytbimhnifjnibjaa

/- CycleType of the model; lists held against each other. No condition but lengths. -/
namespace Go.Proofs.Ytbimhnifjnibjaa
open Go.RowKit

/-- append of one number, with the place of what comes back. -/
theorem wpList_app1_at {w : World} {ops : Array Oper} {rest : List Oper} {o : Oper} {a : Act} {Q : Exit → Act → World → Prop} (hgd : o.guard = none) (s x : Operand)
    (ho : o.op = .call { callee := .builtin .append, args := #[s, x], argTypes := #[28, 28] })
    (base : Nat) (A : Option Addr) (n c : Nat) (xs : List Int) (hs : a.eval s = .slice A n c) (hown : Slc w base A n c xs) (g : Nat) (u : Int) (hx : a.eval x = .slice (some ⟨g, 0, none⟩) 1 1)
    (hcell : w.cell? ⟨g, 0, none⟩ = some (.int .i64 u)) (hn : n ≤ 1000000000000) (hbase : base ≤ w.heap.size)
    (h : ∀ A' c' w', Slc w' base A' (n + 1) c' (xs ++ [u]) → w.grownBy w' (Value.slice A n c).ownBlock → ((Value.slice A' (n + 1) c').ownBlock = (Value.slice A n c).ownBlock ∨ (Value.slice A' (n + 1) c').ownBlock = some w.heap.size) → wpList Try.prog ops Q rest (a.put o.dst (.slice A' (n + 1) c')) w') : wpList Try.prog ops Q (o :: rest) a w := by
  obtain ⟨i0, hi, hz0, hz1, hz2⟩ := info_parts infoI
  obtain ⟨hl, ho'⟩ := hown
  subst hl
  refine wpList_append_own_at w hgd s x 28 ho base 2 i0 (.int .i64 0) 1 8 Try.underlying28 hi hz0 hz1 hz2 rfl (by decide) _ xs.length _ hs ho' ⟨g, 0, none⟩ 1 1 [.int .i64 u] hx rfl ?_ ?_ ?_ (by omega) hbase ?_
  · intro j v hj
    match j, hj with
    | 0, hj => simp at hj; subst hj; simpa [Addr.add] using hcell
    | j + 1, hj => simp at hj
  · intro v hv; simp at hv; subst hv; rfl
  · unfold maxLen; omega
  · intro v' w' hown' hg _ hat
    have hO : Own w' base v' (xs ++ [u]) := by
      unfold Own
      rw [List.length_append, List.map_append]
      exact hown'
    obtain ⟨A', c', rfl, hS⟩ := Slc.of_own (n := xs.length + 1) hO (by simp)
    exact h A' c' w' hS hg hat





end Go.Proofs.Ytbimhnifjnibjaa

/- The draws of chapter 5's named laws. Condition: at most 4096 bytes. -/
namespace Go.Proofs.Ytbimhnifjnibjaa
open Go.RowKit

set_option maxHeartbeats 1600000 in
/-- below, of whatever number. -/
theorem srcBelowN (g : Nat) (N : Int) (n : Nat) (w : World) (hs : Src w g) (hN : N = (n : Int)) (h1 : 1 ≤ n) (h2 : n ≤ 4611686018427387904) :
    Calls Try.prog 32 #[.pointer (some ⟨g, 0, none⟩), .int .i64 N] w fun e w' => ∃ r : Nat, r < n ∧ e = .returned (.int .i64 r) ∧ Src w' g ∧ w.grownBy w' (some g) := by
  by_cases hn : n ≤ 256
  · exact srcBelow g N n w hs hN h1 hn
  · subst hN
    have d1 : decide ((n : Int) ≤ 0) = false := by simp; omega
    have d2 : decide ((n : Int) ≤ 256) = false := by simp; omega
    have n0 : ¬ ((n : Int) = 0) := by omega
    go_enter Try.func32, Try.ntmps32
    go_wp2_with fail
    refine (srcByte g w hs).mono ?_
    rintro e w1 ⟨x, hx, rfl, s1, g1⟩
    have S1 := Lib.hid s1
    have G1 := Lib.hid g1
    clear s1 g1
    go_wp2_with fail
    refine (srcByte g w1 S1.out).mono ?_
    rintro e w2 ⟨y, hy, rfl, s2, g2⟩
    have S2 := Lib.hid s2
    have G2 : Hid (w.grownBy w2 (some g)) := Lib.hid (grown_trans' G1.out g2)
    clear s2 g2
    go_wp2_with fail
    refine (srcByte g w2 S2.out).mono ?_
    rintro e w3 ⟨z, hz, rfl, s3, g3⟩
    have S3 := Lib.hid s3
    have G3 : Hid (w.grownBy w3 (some g)) := Lib.hid (grown_trans' G2.out g3)
    clear s3 g3
    go_wp2_with fail
    refine (srcByte g w3 S3.out).mono ?_
    rintro e w4 ⟨t, ht, rfl, s4, g4⟩
    have S4 := Lib.hid s4
    have G4 : Hid (w.grownBy w4 (some g)) := Lib.hid (grown_trans' G3.out g4)
    have ex : ((x * 16777216 + y * 65536 + z * 256 + t : Nat) : Int) = (x : Int) * 16777216 + (y : Int) * 65536 + (z : Int) * 256 + (t : Int) := by omega
    have Ex := Lib.hid ex
    clear s4 g4 ex
    go_wp2_with fail
    go_ret
    exact ⟨(x * 16777216 + y * 65536 + z * 256 + t) % n, Nat.mod_lt _ (by omega), ret_int (by rw [Int.natCast_emod, Ex.out]), S4.out, G4.out⟩

set_option maxHeartbeats 1600000 in
theorem srcNumberN (g n : Nat) (w : World) (hs : Src w g) (h1 : 1 ≤ n) (hn : n ≤ 4611686018427387903) :
    Calls Try.prog 33 #[.pointer (some ⟨g, 0, none⟩), .int .i64 (n : Int)] w fun e w' => ∃ z : Int, e = .returned (.int .i64 z) ∧ B64 z ∧ Src w' g ∧ w.grownBy w' (some g) := by
  go_enter Try.func33, Try.ntmps33
  go_wp2_with fail
  refine (srcOne g _ 10 w hs rfl (by omega) (by omega)).mono ?_
  rintro e w1 ⟨b, rfl, s1, g1⟩
  have S1 := Lib.hid s1
  have G1 := Lib.hid g1
  clear s1 g1
  cases b
  · go_wp2_with fail
    refine (srcOne g _ 2 w1 S1.out rfl (by omega) (by omega)).mono ?_
    rintro e w2 ⟨b, rfl, s2, g2⟩
    have S2 := Lib.hid s2
    have G2 : Hid (w.grownBy w2 (some g)) := Lib.hid (grown_trans' G1.out g2)
    clear s2 g2
    cases b
    · go_wp2_with fail
      refine (srcBelowN g _ (n + 1) w2 S2.out (by omega) (by omega) (by omega)).mono ?_
      rintro e w3 ⟨r, hr, rfl, s3, g3⟩
      have S3 := Lib.hid s3
      have G3 : Hid (w.grownBy w3 (some g)) := Lib.hid (grown_trans' G2.out g3)
      clear s3 g3
      go_wp2_with fail
      go_ret
      exact ⟨r, rfl, by unfold B64; omega, S3.out, G3.out⟩
    · by_cases h4 : n ≤ 4
      · have hm : (min (n : Int) 4) = (n : Int) := by omega
        have d4 : decide ((n : Int) ≤ 4) = true := by simp; omega
        go_wp2_with fail
        refine (srcBelowN g _ (n + 1) w2 S2.out (by omega) (by omega) (by omega)).mono ?_
        rintro e w3 ⟨r, hr, rfl, s3, g3⟩
        have S3 := Lib.hid s3
        have G3 : Hid (w.grownBy w3 (some g)) := Lib.hid (grown_trans' G2.out g3)
        clear s3 g3
        go_wp2_with fail
        go_ret
        exact ⟨r, rfl, by unfold B64; omega, S3.out, G3.out⟩
      · have hm : (min (n : Int) 4) = 4 := by omega
        have d4 : decide ((n : Int) ≤ 4) = false := by simp; omega
        go_wp2_with fail
        refine (srcBelow g _ (5) w2 S2.out (by omega) (by omega) (by omega)).mono ?_
        rintro e w3 ⟨r, hr, rfl, s3, g3⟩
        have S3 := Lib.hid s3
        have G3 : Hid (w.grownBy w3 (some g)) := Lib.hid (grown_trans' G2.out g3)
        clear s3 g3
        go_wp2_with fail
        go_ret
        exact ⟨r, rfl, by unfold B64; omega, S3.out, G3.out⟩
  · go_wp2_with fail
    refine (srcExtremeB g w1 S1.out).mono ?_
    rintro e w2 ⟨z, rfl, hzB, s2, g2⟩
    have S2 := Lib.hid s2
    have hg2 := s2.lt
    have G2 : Hid (w.grownBy w2 (some g)) := Lib.hid (grown_trans' G1.out g2)
    clear s2 g2
    go_wp2_with fail
    refine (srcBelow g _ 4 _ (S2.out.below ((Below.refl w2.heap.size w2).alloc (Nat.le_refl _) _) hg2) rfl (by omega) (by omega)).mono ?_
    rintro e w3 ⟨r, hr, rfl, s3, g3⟩
    have S3 := Lib.hid s3
    have G3 : Hid (w.grownBy w3 (some g)) := Lib.hid (grown_trans' (grown_alloc2 G2.out _) g3)
    obtain ⟨y, hy, hyB⟩ := lit_atB (r := r) hg2 g3 hr (by
      intro i h
      have h : i < 4 := h
      rcases i with _ | _ | _ | _ | i
      all_goals first | exact ⟨_, rfl, by unfold B64; omega⟩ | exact ⟨_, rfl, hzB⟩ | omega)
    have p0 : (0 : Int) ≤ r := by omega
    have p1 : (r : Int) < 4 := by omega
    clear s3 g3
    go_wp2_with fail
    go_ret
    exact ⟨y, rfl, hyB, S3.out, G3.out⟩



theorem srcNumberK (g : Nat) (N : Int) (w : World) (hs : Src w g) (h1 : 1 ≤ N) (hn : N ≤ 4611686018427387903) :
    Calls Try.prog 33 #[.pointer (some ⟨g, 0, none⟩), .int .i64 N] w fun e w' => ∃ z : Int, e = .returned (.int .i64 z) ∧ B64 z ∧ Src w' g ∧ w.grownBy w' (some g) := by
  obtain ⟨n, rfl⟩ : ∃ n : Nat, N = (n : Int) := ⟨N.toNat, by omega⟩
  exact srcNumberN g n w hs (by omega) (by omega)
set_option maxHeartbeats 1000000 in
theorem drawMbs (len cap : Nat) (A : Option Addr) (w : World) (hb : SB w w.heap.size A len) (hl : len ≤ 4096) :
    Calls Try.prog 5 #[.slice A len cap] w fun e w' => ∃ (z : Int) (A : Option Addr) (m c : Nat) (vs : List SV) (xss : List (List Int)), e = .returned (.tuple #[.int .i64 z, .slice A m c]) ∧ I64 z ∧ GIn w' A m vs xss ∧ Below w.heap.size w w' := by
  go_enter Try.func5, Try.ntmps5
  go_wp2_with fail
  refine (newSrc len cap A w hb hl).mono ?_
  rintro e w1 ⟨rfl, s1, b1⟩
  have S1 := Lib.hid s1
  have B1 := Lib.hid b1
  clear s1 b1
  go_wp2_with fail
  refine (drawGroupX w.heap.size w1 S1.out).mono ?_
  rintro e w2 ⟨z, A2, m, c, vs, xss, rfl, hB, rx, hm, hln, s2, g2⟩
  have HB := Lib.hid hB
  have Gi : Hid (GIn w2 A2 m vs xss) := Lib.hid ⟨rx.rr, by omega, fun i hi => by have := hln i hi; omega⟩
  have B2 : Hid (Below w.heap.size w w2) := Lib.hid (below_gro4 B1.out g2 (Nat.le_refl _))
  clear hB rx hln s2 g2
  go_wp2_with fail
  go_ret2
  exact ⟨_, _, _, _, vs, xss, rfl, HB.out, Gi.out, B2.out⟩



end Go.Proofs.Ytbimhnifjnibjaa

/- The members of a group in lexicographic order: how many precede, how one entry adds to it. No Go in it. No condition. -/
namespace Go.Proofs.Ytbimhnifjnibjaa
open Go.RowKit

/-- They agree in the first i entries. -/
def Ag (i : Nat) (q p : List Int) : Prop := ∀ t, t < i → nx q t = nx p t
/-- q precedes p, by one of the first i entries. -/
def LxI (i : Nat) (q p : List Int) : Prop := ∃ t, t < i ∧ Ag t q p ∧ nx q t < nx p t
section
variable {N i : Nat} {p q r m : List Int}
theorem Ag.symm (h : Ag i q p) : Ag i p q := fun t ht => (h t ht).symm
theorem Ag.trans (h : Ag i q p) (h2 : Ag i p r) : Ag i q r := fun t ht => (h t ht).trans (h2 t ht)
theorem Ag.mono {j : Nat} (h : Ag i q p) (hj : j ≤ i) : Ag j q p := fun t ht => h t (by omega)
theorem Ag.refl (i : Nat) (p : List Int) : Ag i p p := fun _ _ => rfl
theorem ag_succ : Ag (i + 1) q p ↔ Ag i q p ∧ nx q i = nx p i :=
  ⟨fun h => ⟨h.mono (by omega), h i (by omega)⟩, fun ⟨a, b⟩ t ht => by
    by_cases e : t = i
    · subst e; exact b
    · exact a t (by omega)⟩
theorem lxi_succ : LxI (i + 1) q p ↔ LxI i q p ∨ (Ag i q p ∧ nx q i < nx p i) := by
  constructor
  · rintro ⟨t, ht, a, b⟩
    by_cases e : t = i
    · subst e; exact .inr ⟨a, b⟩
    · exact .inl ⟨t, by omega, a, b⟩
  · rintro (⟨t, ht, a, b⟩ | ⟨a, b⟩)
    · exact ⟨t, by omega, a, b⟩
    · exact ⟨i, by omega, a, b⟩
theorem lxi_ag (h : Ag i p r) : LxI i q p ↔ LxI i q r := by
  constructor
  · rintro ⟨t, ht, a, b⟩
    exact ⟨t, ht, a.trans (h.mono (by omega)), by rw [← h t ht]; exact b⟩
  · rintro ⟨t, ht, a, b⟩
    exact ⟨t, ht, a.trans (h.mono (by omega)).symm, by rw [h t ht]; exact b⟩
theorem lxi_not (h : Ag i q p) : ¬ LxI i q p := fun ⟨t, ht, _, b⟩ => by rw [h t ht] at b; omega
theorem lxi_tri (p q : List Int) : ∀ i, Ag i p q ∨ LxI i p q ∨ LxI i q p
  | 0 => .inl fun _ h => absurd h (Nat.not_lt_zero _)
  | i + 1 => by
    rcases lxi_tri p q i with h | h | h
    · rcases Nat.lt_trichotomy (nx p i) (nx q i) with e | e | e
      · exact .inr (.inl (lxi_succ.2 (.inr ⟨h, e⟩)))
      · exact .inl (ag_succ.2 ⟨h, e⟩)
      · exact .inr (.inr (lxi_succ.2 (.inr ⟨h.symm, e⟩)))
    · exact .inr (.inl (lxi_succ.2 (.inl h)))
    · exact .inr (.inr (lxi_succ.2 (.inl h)))
theorem lx_tri (hp : Pn N p) (hq : Pn N q) : p = q ∨ LxI N p q ∨ LxI N q p := by
  rcases lxi_tri p q N with h | h | h
  · exact .inl (hp.ext hq h)
  · exact .inr (.inl h)
  · exact .inr (.inr h)
theorem LxI.trans (h : LxI N p q) (h2 : LxI N q r) : LxI N p r := by
  obtain ⟨t, ht, a, b⟩ := h
  obtain ⟨s, hs, a', b'⟩ := h2
  rcases Nat.lt_trichotomy t s with e | e | e
  · exact ⟨t, ht, a.trans (a'.mono (by omega)), by rw [← a' t e]; exact b⟩
  · subst e; exact ⟨t, ht, a.trans a', by omega⟩
  · exact ⟨s, hs, (a.mono (by omega)).trans a', by rw [a s e]; exact b'⟩
theorem LxI.irr : ¬ LxI N p p := lxi_not (Ag.refl _ _)
theorem LxI.mono {j : Nat} (h : LxI i q p) (hj : i ≤ j) : LxI j q p := by
  obtain ⟨t, ht, a, b⟩ := h
  exact ⟨t, by omega, a, b⟩
end

/-! ### counting -/
section
variable {P Q : List Int → Prop} {a b : Nat}
theorem crd_or (h : Crd P a) (h2 : Crd Q b) (hd : ∀ x, P x → ¬ Q x) : Crd (fun x => P x ∨ Q x) (a + b) := by
  obtain ⟨l, d, m, rfl⟩ := h
  obtain ⟨l', d', m', rfl⟩ := h2
  refine ⟨l ++ l', List.nodup_append.2 ⟨d, d', fun x hx y hy e => hd x ((m x).1 hx) ((m' x).1 (e ▸ hy))⟩, fun p => ?_, by simp⟩
  rw [List.mem_append, m, m']
theorem crd_sub (h : Crd P a) (h2 : Crd Q b) (hs : ∀ x, P x → Q x) : a ≤ b := by
  obtain ⟨l, d, m, rfl⟩ := h
  obtain ⟨l', d', m', rfl⟩ := h2
  exact nd_subA d fun x hx => (m' x).2 (hs x ((m x).1 hx))
theorem crd_none (h : ∀ x, ¬ P x) : Crd P 0 := ⟨[], List.nodup_nil, fun p => ⟨fun hp => absurd hp List.not_mem_nil, fun hp => absurd hp (h p)⟩, rfl⟩
theorem crd_one (m : List Int) : Crd (fun q => q = m) 1 := ⟨[m], by simp, fun p => by simp, rfl⟩
theorem crd_fib {O : List Nat} {i c : Nat} (hO : O.Nodup) (h : ∀ v ∈ O, Crd (fun q => P q ∧ nx q i = v) c) : Crd (fun q => P q ∧ nx q i ∈ O) (O.length * c) := by
  have hf : ∃ f : Nat → List (List Int), ∀ v ∈ O, (f v).Nodup ∧ (∀ q, q ∈ f v ↔ P q ∧ nx q i = v) ∧ (f v).length = c := by
    refine ⟨fun v => if hv : v ∈ O then Classical.choose (h v hv) else [], fun v hv => ?_⟩
    simp only [hv, dif_pos]
    have := Classical.choose_spec (h v hv)
    exact ⟨this.1, this.2.1, this.2.2.symm⟩
  obtain ⟨f, hf⟩ := hf
  obtain ⟨i1, i2⟩ := flat_nd (f := f) (m := c) hO (fun v hv => (hf v hv).1) (fun v hv z hz hne p hp hp2 => hne (by rw [← (((hf v hv).2.1 p).1 hp).2, ← (((hf z hz).2.1 p).1 hp2).2])) (fun v hv => (hf v hv).2.2)
  refine ⟨_, i1, fun p => ?_, i2.symm⟩
  rw [List.mem_flatMap]
  constructor
  · rintro ⟨v, hv, hp⟩
    obtain ⟨a, b⟩ := ((hf v hv).2.1 p).1 hp
    exact ⟨a, b ▸ hv⟩
  · rintro ⟨a, b⟩
    exact ⟨_, b, ((hf _ b).2.1 p).2 ⟨a, rfl⟩⟩
end

/-! ### members that agree in the first entries -/
section
variable {N i : Nat} {gs : List (List Int)} {xs : List Int} {m p : List Int}
theorem gdx' {l : List Int} {j : Nat} (h : j < l.length) : l.getD j 0 = l[j] := by
  rw [List.getD_eq_getElem?_getD, List.getElem?_eq_getElem h]; rfl
theorem agree_card (h : IsOS N gs xs) (hg : ∀ g ∈ gs, Pn N g) (h1 : 1 ≤ N) (h2 : N ≤ 20) (hi : i ≤ N) (hm : Mb gs N m) : ∃ v, Crd (fun q => Mb gs N q ∧ Ag i q m) v ∧ pr xs i (N - i) = (v : Int) := by
  obtain ⟨v, hc, e⟩ := h.card hg h1 h2 (N - i) i (by omega)
  have hpn : ∀ p, Mb gs N p → Pn N p := fun p hp => hp.pn hg h1 h2
  have hmp := hpn m hm
  refine ⟨v, hc.map (fun q => compL q m) (fun a ha b hb e => ?_) (fun q => ?_), e⟩
  · have : compL (compL a m) (iv m) = compL (compL b m) (iv m) := congrArg (fun t => compL t (iv m)) e
    rwa [(hpn a ha.1).assoc hmp, (hpn b hb.1).assoc hmp, hmp.ci, (hpn a ha.1).idr, (hpn b hb.1).idr] at this
  · constructor
    · rintro ⟨a, b⟩
      have hq := hpn q a
      refine ⟨compL q (iv m), ⟨a.comp hg h1 h2 (hm.inv hg h1 h2), fun t ht => ?_⟩, ?_⟩
      · rw [hq.nxc (by omega), b t ht, hmp.nxi (by omega)]
      · rw [hq.assoc hmp.iv, hmp.ic, hq.idr]
    · rintro ⟨r, ⟨a, b⟩, rfl⟩
      refine ⟨a.comp hg h1 h2 hm, fun t ht => ?_⟩
      rw [(hpn r a).nxc (by omega), b t ht]
/-- The entries that members which agree with m before i have there, in ascending order. -/
def ChL (N : Nat) (gs : List (List Int)) (m : List Int) (i : Nat) (zs : List Int) : Prop :=
  zs.Pairwise (· < ·) ∧ ∀ v : Int, v ∈ zs ↔ ∃ q, Mb gs N q ∧ Ag i q m ∧ (nx q i : Int) = v
theorem ChL.nodup {zs : List Int} (h : ChL N gs m i zs) : zs.Nodup := h.1.imp fun hab e => by omega
theorem ChL.nonneg {zs : List Int} (h : ChL N gs m i zs) {v : Int} (hv : v ∈ zs) : 0 ≤ v := by
  obtain ⟨q, _, _, rfl⟩ := (h.2 v).1 hv; omega
theorem ChL.uniq {zs ys : List Int} (h : ChL N gs m i zs) (h' : ChL N gs m i ys) : zs = ys := by
  have hm : ∀ v, v ∈ zs ↔ v ∈ ys := fun v => (h.2 v).trans (h'.2 v).symm
  have hp : zs.Perm ys := (List.perm_ext_iff_of_nodup h.nodup h'.nodup).2 hm
  exact hp.eq_of_pairwise (le := (· ≤ ·)) (fun a b _ _ h1 h2 => by omega) (h.1.imp fun hab => by omega) (h'.1.imp fun hab => by omega)
theorem ChL.ag {m' : List Int} {zs : List Int} (h : ChL N gs m i zs) (ha : Ag i m m') : ChL N gs m' i zs :=
  ⟨h.1, fun v => (h.2 v).trans ⟨fun ⟨q, a, b, c⟩ => ⟨q, a, b.trans ha, c⟩, fun ⟨q, a, b, c⟩ => ⟨q, a, b.trans ha.symm, c⟩⟩⟩
theorem ChL.len {zs : List Int} (h : ChL N gs m i zs) (ho : IsOS N gs xs) (hg : ∀ g ∈ gs, Pn N g) (h1 : 1 ≤ N) (h2 : N ≤ 20) (hi : i < N) (hm : Mb gs N m) : (zs.length : Int) = xs.getD i 0 := by
  obtain ⟨l, d, hl, e⟩ := ho.2 i hi
  have hmp := hm.pn hg h1 h2
  have hd : (l.map fun y => (nx m y : Int)).Nodup := nd_mapA d fun x hx y hy e => hmp.inj ((hl x).1 hx).1 ((hl y).1 hy).1 (by omega)
  have hmem : ∀ v, v ∈ (l.map fun y => (nx m y : Int)) ↔ v ∈ zs := fun v => by
    rw [List.mem_map, h.2]
    constructor
    · rintro ⟨y, hy, rfl⟩
      obtain ⟨hyN, p, hp, hf, rfl⟩ := (hl y).1 hy
      have hpp := hp.pn hg h1 h2
      exact ⟨compL p m, hp.comp hg h1 h2 hm, fun t ht => by rw [hpp.nxc (by omega), hf t ht], by rw [hpp.nxc hi]⟩
    · rintro ⟨q, hq, ha, rfl⟩
      have hqp := hq.pn hg h1 h2
      have hlt := hmp.iv.lt (hqp.lt hi)
      refine ⟨nx (iv m) (nx q i), (hl _).2 ⟨hlt, compL q (iv m), hq.comp hg h1 h2 (hm.inv hg h1 h2), fun t ht => ?_, ?_⟩, ?_⟩
      · rw [hqp.nxc (by omega), ha t ht, hmp.nxi (by omega)]
      · rw [hqp.nxc hi]
      · rw [hmp.nxi' (hqp.lt hi)]
  have a := nd_subA hd fun v hv => (hmem v).1 hv
  have b := nd_subA h.nodup fun v hv => (hmem v).2 hv
  rw [List.length_map] at a b
  rw [e]; omega
/-- One entry more: so many members more precede p. -/
theorem rank_step {zs : List Int} {K T : Nat} (h : ChL N gs m i zs) (ho : IsOS N gs xs) (hg : ∀ g ∈ gs, Pn N g) (h1 : 1 ≤ N) (h2 : N ≤ 20) (hi : i < N) (hm : Mb gs N m) (ha : Ag i m p)
    (hK : K ≤ zs.length) (hlo : ∀ j, j < K → zs.getD j 0 < (nx p i : Int)) (hhi : K < zs.length → (nx p i : Int) ≤ zs.getD K 0) (hT : Crd (fun q => Mb gs N q ∧ LxI i q p) T) :
    ∃ c : Nat, pr xs (i + 1) (N - (i + 1)) = (c : Int) ∧ Crd (fun q => Mb gs N q ∧ LxI (i + 1) q p) (T + K * c) := by
  obtain ⟨c, _, hc⟩ := agree_card ho hg h1 h2 (i := i + 1) (by omega) hm
  refine ⟨c, hc, ?_⟩
  have hat : ∀ j, j < zs.length → zs.getD j 0 ∈ zs := fun j hj => by rw [gdx' hj]; exact List.getElem_mem hj
  have hin : ∀ v, v ∈ (zs.take K).map Int.toNat ↔ (v : Int) ∈ zs ∧ (v : Int) < (nx p i : Int) := fun v => by
    rw [List.mem_map]
    constructor
    · rintro ⟨x, hx, rfl⟩
      obtain ⟨j, hj, rfl⟩ := List.mem_iff_getElem.1 hx
      rw [List.length_take] at hj
      rw [List.getElem_take]
      have hz := List.getElem_mem (l := zs) (n := j) (by omega)
      have hl := hlo j (by omega)
      rw [gdx' (by omega)] at hl
      have := h.nonneg hz
      rw [Int.toNat_of_nonneg this]
      exact ⟨hz, hl⟩
    · rintro ⟨hv, hl⟩
      obtain ⟨j, hj, e⟩ := List.mem_iff_getElem.1 hv
      have hjK : j < K := by
        rcases Nat.lt_or_ge j K with h3 | h3
        · exact h3
        · have h4 := hhi (by omega)
          rw [gdx' (by omega)] at h4
          have h5 : zs[K]'(by omega) ≤ zs[j] := by
            rcases Nat.lt_or_ge K j with h6 | h6
            · have := List.pairwise_iff_getElem.1 h.1 K j (by omega) hj h6; omega
            · obtain rfl : K = j := by omega
              exact Int.le_refl _
          omega
      exact ⟨(v : Int), by rw [← e]; exact List.mem_iff_getElem.2 ⟨j, by rw [List.length_take]; omega, by rw [List.getElem_take]⟩, Int.toNat_natCast v⟩
  have hnd : ((zs.take K).map Int.toNat).Nodup := nd_mapA (h.nodup.sublist (List.take_sublist _ _)) fun x hx y hy e => by
    have := h.nonneg (List.mem_of_mem_take hx)
    have := h.nonneg (List.mem_of_mem_take hy)
    omega
  have hf := crd_fib (P := fun q => Mb gs N q ∧ Ag i q m) (i := i) (c := c) hnd fun v hv => by
    obtain ⟨hz, _⟩ := (hin v).1 hv
    obtain ⟨r, hr, hra, hrv⟩ := (h.2 _).1 hz
    obtain ⟨c', hc', e'⟩ := agree_card ho hg h1 h2 (i := i + 1) (by omega) hr
    obtain rfl : c' = c := by omega
    exact hc'.congr fun q => by
      rw [ag_succ, and_assoc]
      have e2 : nx r i = v := by omega
      rw [e2]
      exact ⟨fun ⟨a, b, d⟩ => ⟨a, b.trans hra, d⟩, fun ⟨a, b, d⟩ => ⟨a, b.trans hra.symm, d⟩⟩
  have hlen : ((zs.take K).map Int.toNat).length = K := by rw [List.length_map, List.length_take]; omega
  rw [hlen] at hf
  refine (crd_or hT hf fun q hq hq2 => lxi_not (hq2.1.2.trans ha) hq.2).congr fun q => ?_
  rw [lxi_succ, hin]
  constructor
  · rintro (⟨a, b⟩ | ⟨⟨a, b⟩, _, d⟩)
    · exact ⟨a, .inl b⟩
    · exact ⟨a, .inr ⟨b.trans ha, by omega⟩⟩
  · rintro ⟨a, b | ⟨b, d⟩⟩
    · exact .inl ⟨a, b⟩
    · exact .inr ⟨⟨a, b.trans ha.symm⟩, (h.2 _).2 ⟨q, a, b.trans ha.symm, rfl⟩, by omega⟩
/-- Where p's entry is none that they have, nothing is added behind it. -/
theorem rank_stop {zs : List Int} {T : Nat} (h : ChL N gs m i zs) (hi : i < N) (ha : Ag i m p) (hn : (nx p i : Int) ∉ zs) (hT : Crd (fun q => Mb gs N q ∧ LxI (i + 1) q p) T) : Crd (fun q => Mb gs N q ∧ LxI N q p) T := by
  refine hT.congr fun q => ⟨fun ⟨a, b⟩ => ⟨a, b.mono (by omega)⟩, fun ⟨a, t, ht, b, d⟩ => ⟨a, t, ?_, b, d⟩⟩
  rcases Nat.lt_or_ge t (i + 1) with hl | hl
  · exact hl
  · exact absurd ((h.2 _).2 ⟨q, a, (b.mono (by omega)).trans ha.symm, by rw [b i (by omega)]⟩) hn

/-! ### ranks -/
def Rk (N : Nat) (gs : List (List Int)) (p : List Int) (c : Nat) : Prop := Crd (fun q => Mb gs N q ∧ LxI N q p) c
theorem rk_lt {p q : List Int} {c d V : Nat} (hp : Rk N gs p c) (hq : Rk N gs q d) (hpm : Mb gs N p) (hl : LxI N p q) : c < d := by
  have h := crd_or hp (crd_one p) fun x hx e => LxI.irr (e ▸ hx.2)
  have := crd_sub h hq fun x hx => by
    rcases hx with ⟨a, b⟩ | rfl
    · exact ⟨a, b.trans hl⟩
    · exact ⟨hpm, hl⟩
  omega
theorem rk_inj {p q : List Int} {c : Nat} (hg : ∀ g ∈ gs, Pn N g) (h1 : 1 ≤ N) (h2 : N ≤ 20) (hp : Rk N gs p c) (hq : Rk N gs q c) (hpm : Mb gs N p) (hqm : Mb gs N q) : p = q := by
  rcases lx_tri (hpm.pn hg h1 h2) (hqm.pn hg h1 h2) with e | e | e
  · exact e
  · have := rk_lt (V := 0) hp hq hpm e; omega
  · have := rk_lt (V := 0) hq hp hqm e; omega
theorem rk_ord {p : List Int} {c V : Nat} (hp : Rk N gs p c) (hV : Crd (Mb gs N) V) (hpm : Mb gs N p) : c < V := by
  have h := crd_or hp (crd_one p) fun x hx e => LxI.irr (e ▸ hx.2)
  have := crd_sub h hV fun x hx => by
    rcases hx with ⟨a, _⟩ | rfl
    · exact a
    · exact hpm
  omega
end
end Go.Proofs.Ytbimhnifjnibjaa

/- What the functions of chapter 5 answer. No Go in it. No condition. -/
namespace Go.Proofs.Ytbimhnifjnibjaa
open Go.RowKit

/-- Generators, and a permutation of their degree. -/
def Vld (a : Int) (gs : List (List Int)) (p : List Int) : Prop := gB a gs = true ∧ (p.length : Int) = a ∧ isP p = true
def IsCmb (a : Int) (gs : List (List Int)) (p : List Int) (v : Int) : Prop := (Vld a gs p ∧ ∃ c : Nat, Rk a.toNat gs p c ∧ v = (c : Int)) ∨ (¬ Vld a gs p ∧ v = -1)
def IsRnk (a : Int) (gs : List (List Int)) (p : List Int) (v : Int) : Prop := (Memb a gs p ∧ ∃ c : Nat, Rk a.toNat gs p c ∧ v = (c : Int)) ∨ (¬ Memb a gs p ∧ v = -1)
def IsMat (a : Int) (gs : List (List Int)) (k : Int) (m : List Int) (ok : Bool) : Prop :=
  (gB a gs = true ∧ ok = true ∧ Mb gs a.toNat m ∧ ∃ c : Nat, Rk a.toNat gs m c ∧ k = (c : Int)) ∨ (ok = false ∧ m = [] ∧ (gB a gs = true → ∀ q, Mb gs a.toNat q → ∀ c : Nat, Rk a.toNat gs q c → k ≠ (c : Int)))
def IsNxt (a : Int) (gs : List (List Int)) (p m : List Int) (ok : Bool) : Prop :=
  (Vld a gs p ∧ ∃ (c : Nat) (b : Bool), Rk a.toNat gs p c ∧ (b = true ↔ Memb a gs p) ∧ IsMat a gs ((c : Int) + (if b = true then 1 else 0)) m ok) ∨ (¬ Vld a gs p ∧ m = [] ∧ ok = false)
def IsFst (a : Int) (gs : List (List Int)) (m : List Int) (ok : Bool) : Prop := IsMat a gs 1 m ok
/-- No more than 3000 members. -/
def Few (a : Int) (gs : List (List Int)) : Prop := gB a gs = true ∧ ∃ V : Nat, Crd (Mb gs a.toNat) V ∧ V ≤ 3000
def IsMbs (a : Int) (gs l : List (List Int)) : Prop := (Few a gs ∧ l.Pairwise (LxI a.toNat) ∧ ∀ p, p ∈ l ↔ Mb gs a.toNat p) ∨ (¬ Few a gs ∧ l = [])
/-- The states of the generator behind a seed. -/
def seed0 (s : Int) : Int := (s.tmod 999999937 + 999999937).tmod 999999937
def stt (s : Int) : Nat → Int
  | 0 => seed0 s
  | i + 1 => (stt s i * 48271 + 11).tmod 999999937
def IsRnd (a : Int) (gs : List (List Int)) (s : Int) (m : List Int) (ok : Bool) : Prop :=
  (gB a gs = true ∧ ok = true ∧ Mb gs a.toNat m ∧ ∀ i, i < a.toNat → ∀ zs, ChL a.toNat gs m i zs → (nx m i : Int) = zs.getD (((stt s (i + 1)).tmod (zs.length : Int)).toNat) 0) ∨ (gB a gs = false ∧ ok = false ∧ m = [])
theorem IsCmb.uniq {a v v' : Int} {gs : List (List Int)} {p : List Int} (h : IsCmb a gs p v) (h' : IsCmb a gs p v') : v = v' := by
  rcases h with ⟨e, c, h, rfl⟩ | ⟨e, rfl⟩ <;> rcases h' with ⟨e', c', h', rfl⟩ | ⟨e', rfl⟩
  · rw [Crd.uniq h h']
  · exact absurd e e'
  · exact absurd e' e
  · rfl
theorem IsRnk.uniq {a v v' : Int} {gs : List (List Int)} {p : List Int} (h : IsRnk a gs p v) (h' : IsRnk a gs p v') : v = v' := by
  rcases h with ⟨e, c, h, rfl⟩ | ⟨e, rfl⟩ <;> rcases h' with ⟨e', c', h', rfl⟩ | ⟨e', rfl⟩
  · rw [Crd.uniq h h']
  · exact absurd e e'
  · exact absurd e' e
  · rfl
theorem IsMat.uniq {a k : Int} {gs : List (List Int)} {m m' : List Int} {ok ok' : Bool} (h : IsMat a gs k m ok) (h' : IsMat a gs k m' ok') : m = m' ∧ ok = ok' := by
  rcases h with ⟨e, rfl, hm, c, hc, ek⟩ | ⟨rfl, rfl, hn⟩ <;> rcases h' with ⟨e', rfl, hm', c', hc', ek'⟩ | ⟨rfl, rfl, hn'⟩
  · obtain ⟨N, rfl, h1, h2, _, _, ok⟩ := gB_pm e
    rw [Int.toNat_natCast] at hm hm' hc hc'
    obtain rfl : c = c' := by omega
    exact ⟨rk_inj ok h1 h2 hc hc' hm hm', rfl⟩
  · exact absurd ek (hn' e m hm c hc)
  · exact absurd ek' (hn e' m' hm' c' hc')
  · exact ⟨rfl, rfl⟩
theorem IsMat.len {a k : Int} {gs : List (List Int)} {m : List Int} {ok : Bool} (h : IsMat a gs k m ok) : m.length ≤ 20 := by
  rcases h with ⟨e, _, hm, _⟩ | ⟨_, rfl, _⟩
  · obtain ⟨N, rfl, h1, h2, _, _, ok⟩ := gB_pm e
    rw [Int.toNat_natCast] at hm
    rw [(hm.pn ok h1 h2).2]; exact h2
  · simp
theorem IsNxt.uniq {a : Int} {gs : List (List Int)} {p m m' : List Int} {ok ok' : Bool} (h : IsNxt a gs p m ok) (h' : IsNxt a gs p m' ok') : m = m' ∧ ok = ok' := by
  rcases h with ⟨e, c, b, hc, hb, h⟩ | ⟨e, rfl, rfl⟩ <;> rcases h' with ⟨e', c', b', hc', hb', h'⟩ | ⟨e', rfl, rfl⟩
  · obtain rfl : c = c' := Crd.uniq hc hc'
    obtain rfl : b = b' := by rw [Bool.eq_iff_iff, hb, hb']
    exact h.uniq h'
  · exact absurd e e'
  · exact absurd e' e
  · exact ⟨rfl, rfl⟩
theorem IsNxt.len {a : Int} {gs : List (List Int)} {p m : List Int} {ok : Bool} (h : IsNxt a gs p m ok) : m.length ≤ 20 := by
  rcases h with ⟨_, c, b, _, _, h⟩ | ⟨_, rfl, _⟩
  · exact h.len
  · simp
theorem IsFst.uniq {a : Int} {gs : List (List Int)} {m m' : List Int} {ok ok' : Bool} (h : IsFst a gs m ok) (h' : IsFst a gs m' ok') : m = m' ∧ ok = ok' := IsMat.uniq h h'
theorem IsFst.len {a : Int} {gs : List (List Int)} {m : List Int} {ok : Bool} (h : IsFst a gs m ok) : m.length ≤ 20 := IsMat.len h
theorem lx_nodup {N : Nat} {l : List (List Int)} (h : l.Pairwise (LxI N)) : l.Nodup := List.Pairwise.imp (S := fun a b => a ≠ b) (fun {a b} hab e => by subst e; exact LxI.irr hab) h
theorem lx_sorted_uniq {N : Nat} {l l' : List (List Int)} (h : l.Pairwise (LxI N)) (h' : l'.Pairwise (LxI N)) (hm : ∀ p, p ∈ l ↔ p ∈ l') : l = l' := by
  have n1 := lx_nodup h
  have n2 := lx_nodup h'
  exact ((List.perm_ext_iff_of_nodup n1 n2).2 hm).eq_of_pairwise (le := LxI N) (fun a b _ _ h1 h2 => absurd (h1.trans h2) LxI.irr) h h'
theorem IsMbs.uniq {a : Int} {gs l l' : List (List Int)} (h : IsMbs a gs l) (h' : IsMbs a gs l') : l = l' := by
  rcases h with ⟨e, h, m⟩ | ⟨e, rfl⟩ <;> rcases h' with ⟨e', h', m'⟩ | ⟨e', rfl⟩
  · exact lx_sorted_uniq h h' fun p => (m p).trans (m' p).symm
  · exact absurd e e'
  · exact absurd e' e
  · rfl
theorem IsMbs.len {a : Int} {gs l : List (List Int)} (h : IsMbs a gs l) : l.length ≤ 3000 ∧ ∀ y ∈ l, y.length ≤ 20 := by
  rcases h with ⟨⟨e, V, hV, hle⟩, h, m⟩ | ⟨e, rfl⟩
  · obtain ⟨N, rfl, h1, h2, _, _, ok⟩ := gB_pm e
    rw [Int.toNat_natCast] at h m hV
    have n1 := lx_nodup h
    have : l.length ≤ V := crd_sub ⟨l, n1, fun _ => Iff.rfl, rfl⟩ hV fun x hx => (m x).1 hx
    exact ⟨by omega, fun y hy => by rw [(((m y).1 hy).pn ok h1 h2).2]; exact h2⟩
  · exact ⟨by simp, fun y hy => by cases hy⟩
theorem boundMbs {a : Int} {gs l : List (List Int)} (h : IsMbs a gs l) : l.length ≤ 1048576 ∧ (∀ i, i < l.length → (l.getD i []).length ≤ 1048576) ∧ sumL l ≤ 1048576 :=
  bound_all (m := 3000) (k := 20) h.len.1 h.len.2 (by omega)
/-- A list of the entries there is. -/
theorem ChL.ex {N i : Nat} {gs : List (List Int)} (hg : ∀ g ∈ gs, Pn N g) (h1 : 1 ≤ N) (h2 : N ≤ 20) (hi : i < N) (m : List Int) : ∃ zs, ChL N gs m i zs := by
  classical
  refine ⟨((List.range N).filter fun v => decide (∃ q, Mb gs N q ∧ Ag i q m ∧ nx q i = v)).map Int.ofNat, ?_, fun v => ?_⟩
  · rw [List.pairwise_map]
    exact (List.pairwise_lt_range.filter _).imp fun hab => by show (_ : Int) < _; exact Int.ofNat_lt.2 hab
  · rw [List.mem_map]
    constructor
    · rintro ⟨y, hy, rfl⟩
      obtain ⟨_, hq⟩ := List.mem_filter.1 hy
      obtain ⟨q, a, b, e⟩ := of_decide_eq_true hq
      exact ⟨q, a, b, by show _ = (y : Int); omega⟩
    · rintro ⟨q, a, b, rfl⟩
      exact ⟨nx q i, List.mem_filter.2 ⟨List.mem_range.2 ((a.pn hg h1 h2).lt hi), decide_eq_true ⟨q, a, b, rfl⟩⟩, rfl⟩
theorem IsRnd.uniq {a s : Int} {gs : List (List Int)} {m m' : List Int} {ok ok' : Bool} (h : IsRnd a gs s m ok) (h' : IsRnd a gs s m' ok') : m = m' ∧ ok = ok' := by
  rcases h with ⟨e, rfl, hm, h⟩ | ⟨e, rfl, rfl⟩ <;> rcases h' with ⟨e', rfl, hm', h'⟩ | ⟨e', rfl, rfl⟩
  · obtain ⟨N, rfl, h1, h2, _, _, ok⟩ := gB_pm e
    rw [Int.toNat_natCast] at hm hm' h h'
    have hp := hm.pn ok h1 h2
    have hp' := hm'.pn ok h1 h2
    have key : ∀ i, i ≤ N → Ag i m m' := fun i => by
      induction i with
      | zero => exact fun _ t ht => absurd ht (Nat.not_lt_zero _)
      | succ i ih =>
        intro hi
        have ha := ih (by omega)
        refine ag_succ.2 ⟨ha, ?_⟩
        obtain ⟨zs, hz⟩ := ChL.ex ok h1 h2 (show i < N by omega) m
        have e1 := h i (by omega) zs hz
        have e2 := h' i (by omega) zs (hz.ag ha)
        omega
    exact ⟨hp.ext hp' (key N (Nat.le_refl _)), rfl⟩
  · rw [e] at e'; cases e'
  · rw [e] at e'; cases e'
  · exact ⟨rfl, rfl⟩
theorem IsRnd.len {a s : Int} {gs : List (List Int)} {m : List Int} {ok : Bool} (h : IsRnd a gs s m ok) : m.length ≤ 20 := by
  rcases h with ⟨e, _, hm, _⟩ | ⟨_, _, rfl⟩
  · obtain ⟨N, rfl, h1, h2, _, _, ok⟩ := gB_pm e
    rw [Int.toNat_natCast] at hm
    rw [(hm.pn ok h1 h2).2]; exact h2
  · simp
end Go.Proofs.Ytbimhnifjnibjaa

/- How many members each choice of the model's chain has; the entries there are, of the model. Conditions: at most 20 points, 8 generators. -/
namespace Go.Proofs.Ytbimhnifjnibjaa
open Go.RowKit

/-- What choicesAt answers, in the words of ranks. -/
theorem chL_ok {N i : Nat} {gs : List (List Int)} {c : Ch} {m : List Int} {zs : List Int} (hw : Whole N gs c) (h1 : 1 ≤ N) (h2 : N ≤ 20) (hg : ∀ g ∈ gs, Pn N g) (hi : i < N) (hm : Mb gs N m) (hp : zs.Perm (chL c i m N)) (ho : zs.Pairwise (· ≤ ·)) : ChL N gs m i zs := by
  have hmp := hm.pn hg h1 h2
  have hn : (chL c i m N).Nodup := nd_mapA (List.nodup_range.filter _) fun x hx y hy e => hmp.inj (List.mem_range.1 (List.mem_filter.1 hx).1) (List.mem_range.1 (List.mem_filter.1 hy).1) (by omega)
  have hz : zs.Nodup := hp.nodup_iff.2 hn
  refine ⟨List.Pairwise.imp (S := fun a b => a < b) (fun {a b} hab => by have := hab.1; have := hab.2; omega) (ho.and hz), fun v => ?_⟩
  rw [hp.mem_iff, hw.choice h1 h2 hg hi hm]
  exact Iff.rfl

end Go.Proofs.Ytbimhnifjnibjaa

/- countBelow of the model: how many members precede a permutation. Conditions: at most 20 points, 8 generators. -/
namespace Go.Proofs.Ytbimhnifjnibjaa
open Go.RowKit

theorem first_ge (zs : List Int) (v : Int) : ∃ K, K ≤ zs.length ∧ (∀ j, j < K → zs.getD j 0 < v) ∧ (K < zs.length → v ≤ zs.getD K 0) := by
  have h : ∀ n, n ≤ zs.length → (∀ j, j < n → zs.getD j 0 < v) ∨ ∃ K, K < n ∧ (∀ j, j < K → zs.getD j 0 < v) ∧ v ≤ zs.getD K 0 := fun n => by
    induction n with
    | zero => exact fun _ => .inl fun j h => absurd h (Nat.not_lt_zero _)
    | succ n ih =>
      intro hn
      rcases ih (by omega) with h | ⟨K, a, b, d⟩
      · by_cases e : zs.getD n 0 < v
        · exact .inl fun j hj => by
            by_cases e2 : j = n
            · subst e2; exact e
            · exact h j (by omega)
        · exact .inr ⟨n, by omega, h, by omega⟩
      · exact .inr ⟨K, by omega, b, d⟩
  rcases h zs.length (Nat.le_refl _) with h | ⟨K, a, b, d⟩
  · exact ⟨zs.length, Nat.le_refl _, h, fun h => absurd h (Nat.lt_irrefl _)⟩
  · exact ⟨K, by omega, b, fun _ => d⟩
/-- The order of a group of at most 20 points. -/
theorem IsOS.ordB {N : Nat} {gs : List (List Int)} {xs : List Int} (h : IsOS N gs xs) (hg : ∀ g ∈ gs, Pn N g) (h1 : 1 ≤ N) (h2 : N ≤ 20) : ∃ V, Crd (Mb gs N) V ∧ prodL xs = (V : Int) ∧ V ≤ 2432902008176640000 := by
  obtain ⟨V, hV, e⟩ := h.order hg h1 h2
  have := h.pr_le hg h1 h2 0 N (by omega)
  have hf := facts_le h2 (0 + N) (by omega)
  rw [prodL_pr, h.1] at e
  exact ⟨V, hV, by rw [prodL_pr, h.1]; exact e, by omega⟩

end Go.Proofs.Ytbimhnifjnibjaa

/- MemberAt, Rank, NextMember, CountMembersBelow and FirstNonIdentity of the model. Conditions: at most 1048576 lists of at most 1048576 numbers. -/
namespace Go.Proofs.Ytbimhnifjnibjaa
open Go.RowKit

theorem sorted_lo {zs : List Int} (h : zs.Pairwise (· < ·)) {i j : Nat} (hij : i < j) (hj : j < zs.length) : zs.getD i 0 < zs.getD j 0 := by
  have := List.pairwise_iff_getElem.1 h i j (by omega) hj hij
  rw [gdx' (by omega), gdx' hj]; exact this

end Go.Proofs.Ytbimhnifjnibjaa

/- All members, level by level, and Members of the model. Conditions: at most 1048576 lists of at most 1048576 numbers. -/
namespace Go.Proofs.Ytbimhnifjnibjaa
open Go.RowKit

/-! ### levels -/
/-- One member for each way to begin with i entries, in order. -/
structure Lv (N : Nat) (gs : List (List Int)) (i : Nat) (l : List (List Int)) : Prop where
  srt : l.Pairwise (LxI i)
  mem : ∀ m ∈ l, Mb gs N m
  all : ∀ q, Mb gs N q → ∃ m ∈ l, Ag i q m
/-- What is there of the next level behind the first k of this one and the first j entries zs that the next one of it allows. -/
structure Pj (N : Nat) (gs : List (List Int)) (i : Nat) (l : List (List Int)) (k : Nat) (zs : List Int) (j : Nat) (L : List (List Int)) : Prop where
  srt : L.Pairwise (LxI (i + 1))
  mem : ∀ x ∈ L, Mb gs N x ∧ ((∃ t, t < k ∧ Ag i x (l.getD t [])) ∨ (Ag i x (l.getD k []) ∧ ∃ u, u < j ∧ (nx x i : Int) = zs.getD u 0))
  all : ∀ t, t < k → ∀ q, Mb gs N q → Ag i q (l.getD t []) → ∃ x ∈ L, Ag (i + 1) q x
  now : ∀ u, u < j → ∀ q, Mb gs N q → Ag i q (l.getD k []) → (nx q i : Int) = zs.getD u 0 → ∃ x ∈ L, Ag (i + 1) q x
section
variable {N i k j : Nat} {gs l L : List (List Int)} {zs : List Int} {x : List Int}
theorem Lv.zero : Lv N gs 0 [idL N] := ⟨List.pairwise_singleton _ _, fun m hm => by rw [List.mem_singleton.1 hm]; exact .one, fun q _ => ⟨idL N, by simp, fun t ht => absurd ht (Nat.not_lt_zero _)⟩⟩
theorem Lv.lt (h : Lv N gs i l) {a b : Nat} (hab : a < b) (hb : b < l.length) : LxI i (l.getD a []) (l.getD b []) := by
  have := List.pairwise_iff_getElem.1 h.srt a b (by omega) hb hab
  rw [List.getD_eq_getElem?_getD, List.getD_eq_getElem?_getD, List.getElem?_eq_getElem hb, List.getElem?_eq_getElem (by omega)]; exact this
theorem Pj.zero : Pj N gs i l 0 zs 0 [] := ⟨.nil, fun x hx => (by cases hx), fun t ht => absurd ht (Nat.not_lt_zero _), fun u hu => absurd hu (Nat.not_lt_zero _)⟩
/-- The next entry's member. -/
theorem Pj.snoc (h : Pj N gs i l k zs j L) (hl : Lv N gs i l) (hk : k < l.length) (hz : zs.Pairwise (· < ·)) (hj : j < zs.length) (hx : Mb gs N x) (ha : Ag i x (l.getD k [])) (hv : (nx x i : Int) = zs.getD j 0) : Pj N gs i l k zs (j + 1) (L ++ [x]) := by
  refine ⟨List.pairwise_append.2 ⟨h.srt, List.pairwise_singleton _ _, fun y hy z hz' => ?_⟩, fun y hy => ?_, fun t ht q hq hqa => ?_, fun u hu q hq hqa hqv => ?_⟩
  · obtain rfl := List.mem_singleton.1 hz'
    rcases (h.mem y hy).2 with ⟨t, ht, ya⟩ | ⟨ya, u, hu, yv⟩
    · have h1 := hl.lt ht hk
      exact lxi_succ.2 (.inl ((lxi_ag ha).2 (by
        obtain ⟨s, hs, a, b⟩ := h1
        exact ⟨s, hs, (ya.mono (by omega)).trans a, by rw [ya s hs]; exact b⟩)))
    · refine lxi_succ.2 (.inr ⟨ya.trans ha.symm, ?_⟩)
      have := sorted_lo hz hu hj
      omega
  · rcases List.mem_append.1 hy with hy | hy
    · obtain ⟨a, b⟩ := h.mem y hy
      refine ⟨a, b.imp id fun ⟨c, u, hu, e⟩ => ⟨c, u, by omega, e⟩⟩
    · obtain rfl := List.mem_singleton.1 hy
      exact ⟨hx, .inr ⟨ha, j, by omega, hv⟩⟩
  · obtain ⟨y, hy, e⟩ := h.all t ht q hq hqa
    exact ⟨y, List.mem_append_left _ hy, e⟩
  · by_cases e : u = j
    · subst e
      exact ⟨x, by simp, ag_succ.2 ⟨hqa.trans ha.symm, by omega⟩⟩
    · obtain ⟨y, hy, e⟩ := h.now u (by omega) q hq hqa hqv
      exact ⟨y, List.mem_append_left _ hy, e⟩
/-- All entries of one more. -/
theorem Pj.next {ys : List Int} (h : Pj N gs i l k zs zs.length L) (hc : ChL N gs (l.getD k []) i zs) : Pj N gs i l (k + 1) ys 0 L := by
  refine ⟨h.srt, fun x hx => ?_, fun t ht q hq hqa => ?_, fun u hu => absurd hu (Nat.not_lt_zero _)⟩
  · obtain ⟨a, b⟩ := h.mem x hx
    refine ⟨a, .inl ?_⟩
    rcases b with ⟨t, ht, e⟩ | ⟨e, _⟩
    · exact ⟨t, by omega, e⟩
    · exact ⟨k, by omega, e⟩
  · by_cases e : t = k
    · subst e
      have hm := (hc.2 (nx q i : Int)).2 ⟨q, hq, hqa, rfl⟩
      obtain ⟨u, hu, eu⟩ := List.mem_iff_getElem.1 hm
      exact h.now u hu q hq hqa (by rw [gdx' hu]; exact eu.symm)
    · exact h.all t (by omega) q hq hqa
theorem Pj.lv (h : Pj N gs i l l.length zs 0 L) (hl : Lv N gs i l) : Lv N gs (i + 1) L := by
  refine ⟨h.srt, fun m hm => (h.mem m hm).1, fun q hq => ?_⟩
  obtain ⟨m, hm, ha⟩ := hl.all q hq
  obtain ⟨t, ht, e⟩ := List.mem_iff_getElem.1 hm
  exact h.all t ht q hq (by rw [List.getD_eq_getElem?_getD, List.getElem?_eq_getElem ht]; show Ag i q l[t]; rw [e]; exact ha)
/-- No more than there are members. -/
theorem Pj.len {V : Nat} (h : Pj N gs i l k zs j L) (hV : Crd (Mb gs N) V) : L.length ≤ V :=
  crd_sub ⟨L, lx_nodup h.srt, fun _ => Iff.rfl, rfl⟩ hV fun x hx => (h.mem x hx).1
theorem Lv.len {V : Nat} (h : Lv N gs i l) (hV : Crd (Mb gs N) V) : l.length ≤ V :=
  crd_sub ⟨l, lx_nodup h.srt, fun _ => Iff.rfl, rfl⟩ hV fun x hx => h.mem x hx
theorem Lv.top (h : Lv N gs N l) (hg : ∀ g ∈ gs, Pn N g) (h1 : 1 ≤ N) (h2 : N ≤ 20) (p : List Int) : p ∈ l ↔ Mb gs N p := by
  refine ⟨h.mem p, fun hp => ?_⟩
  obtain ⟨m, hm, ha⟩ := h.all p hp
  have : p = m := (hp.pn hg h1 h2).ext ((h.mem m hm).pn hg h1 h2) fun x hx => ha x hx
  exact this ▸ hm
end
/-- A slice literal of one slice. -/
theorem SS.litOne {w : World} {base bi : Nat} {A : Option Addr} {n c : Nat} {ys : List Int} (h : Slc w bi A n c ys) (hb : base ≤ w.heap.size) : SS (w.alloc (.cells #[.slice A n c] 28)) base bi (some ⟨w.heap.size, 0, none⟩) 1 1 [(A, n, c)] [ys] :=
  ⟨World.ownsRow_lit (size := 1) w #[.slice A n c] 1 hb (by unfold maxLen; omega) rfl, rfl, rfl, fun i hi => by
    obtain rfl : i = 0 := by omega
    exact h.alloc _, fun i j h1 h2 => by omega⟩
theorem getD_of {l : List (List Int)} {k : Nat} {y : List Int} (hk : k < l.length) (e : l.getD k [] = y) : y ∈ l := by
  rw [← e, List.getD_eq_getElem?_getD, List.getElem?_eq_getElem hk]; exact List.getElem_mem _

set_option maxHeartbeats 8000000 in
set_option maxRecDepth 100000 in
theorem specAllM (N n cc : Nat) (A : Option Addr) (vs : List SV) (gs : List (List Int)) (w : World) (hx : RR w w.heap.size A n vs gs) (hN1 : 1 ≤ N) (hN2 : N ≤ 20) (hn : n ≤ 8) (ok : Hid (∀ g ∈ gs, Pn N g)) (hgB : Hid (gB (N : Int) gs = true)) :
    Calls Try.prog 25 #[.int .i64 (N : Nat), .slice A n cc] w fun e w' => ∃ A' m c' us l, e = .returned (.slice A' m c') ∧ SS w' w.heap.size w.heap.size A' m c' us l ∧ IsMbs (N : Int) gs l ∧ Below w.heap.size w w' := by
  have HX := Lib.hid hx
  clear hx
  go_enter Try.func25, Try.ntmps25
  go_wp2_with fail
  refine (specBuild N n cc A vs gs w HX.out hN1 hN2 hn ok).mono ?_
  rintro e w2 ⟨g, L, ch, rfl, hc2, hw2, b2⟩
  have C2 := Lib.hid hc2
  have W2 := Lib.hid hw2
  have B2 := Lib.hid b2
  obtain ⟨V, hV, eV, hVb⟩ := (hw2.os hN1 hN2).ordB ok.out hN1 hN2
  have HV := Lib.hid hV
  clear hc2 hw2 b2 hV
  go_wp2_with fail
  refine (specOrder w.heap.size g N ch L gs w2 C2.out W2.out hN1 hN2).mono ?_
  rintro e w3 ⟨rfl, b3⟩
  have C3 := Lib.hid (C2.out.up b3)
  have B3 : Hid (Below w.heap.size w w3) := Lib.hid (btr B2.out b3)
  have hz3 := B3.out.size
  rw [eV]
  clear b3 eV C2 B2
  by_cases hV3 : V ≤ 3000
  · have d0 : decide ((3000 : Int) < (V : Int)) = false := by simp; omega
    have Few0 : Hid (Few (N : Int) gs) := Lib.hid ⟨hgB.out, V, by rw [Int.toNat_natCast]; exact HV.out, hV3⟩
    go_wp2_with fail
    refine (specIdent N w3 (by omega)).mono ?_
    rintro e w4 ⟨A4, c4, rfl, s4, b4⟩
    have C4 := Lib.hid (C3.out.up b4)
    have B4 : Hid (Below w.heap.size w w4) := Lib.hid (btr B3.out b4)
    have hz4 := B4.out.size
    have S4 : Hid (SS (w4.alloc (.cells #[.slice A4 N c4] 28)) w.heap.size w.heap.size (some ⟨w4.heap.size, 0, none⟩) 1 1 [(A4, N, c4)] [idL N]) := Lib.hid (SS.litOne (s4.mono hz3) hz4)
    clear s4 b4
    go_wp2_with fail
    go_loopw [6, 7] (fun v i wr => ∃ (i' m cc : Nat) (M : Option Addr) (us : List SV) (l : List (List Int)), i' ≤ N ∧ i = .int .i64 (i' : Nat) ∧ v = .slice M m cc ∧ SS wr w.heap.size w.heap.size M m cc us l ∧ Lv N gs i' l ∧ Below w4.heap.size w4 wr) (fun _ i _ => N - (intOf i).toNat)
    case atStart => exact ⟨0, _, _, _, _, _, Nat.zero_le _, rfl, rfl, S4.out, Lv.zero, (Below.refl _ _).alloc (Nat.le_refl _) _⟩
    case round =>
      clear S4
      obtain ⟨i, m, cc, M, us, l, hi, rfl, rfl, hs, hlv, bel⟩ := hrel
      have So := Lib.hid hs
      have Lv0 := Lib.hid hlv
      have Be := Lib.hid bel
      have C5 := Lib.hid (C4.out.up bel)
      have Lm : Hid (l.length = m) := Lib.hid hs.lx
      have hm3 : m ≤ 3000 := by rw [← hs.lx]; exact Nat.le_trans (hlv.len HV.out) hV3
      have Bw : Hid (Below w.heap.size w wr) := Lib.hid (btr B4.out bel)
      have hzw := Bw.out.size
      clear hs hlv bel
      by_cases hlt : i < N
      · have q1 : (0 : Int) ≤ i := by omega
        have q2 : (i : Int) < N := by omega
        obtain ⟨wL, rfl⟩ : ∃ wL, wL = wr := ⟨_, rfl⟩
        have P0 := Lib.hid (SS.lit0 wL wL.heap.size wL.heap.size (Nat.le_refl _))
        go_wp2_with fail
        go_loopg [8, 9] m (fun gg v j wr => ∃ (k m' c' : Nat) (A' : Option Addr) (us' : List SV) (L' : List (List Int)), k ≤ m ∧ m - k ≤ gg ∧ j = .int .i64 (k : Nat) ∧ v = .slice A' m' c' ∧ SS wr wL.heap.size wL.heap.size A' m' c' us' L' ∧ Pj N gs i l k [] 0 L' ∧ Below wL.heap.size wL wr)
        case atStart => exact ⟨0, _, _, _, _, _, Nat.zero_le _, by omega, rfl, rfl, P0.out, Pj.zero, (Below.refl _ _).alloc (Nat.le_refl _) _⟩
        case round =>
          clear P0
          obtain ⟨k, m', c', A', us', L', hk, hgk, rfl, rfl, hs', hpj, bel'⟩ := hrel
          have Ss := Lib.hid hs'
          have Pj0 := Lib.hid hpj
          have Be' := Lib.hid bel'
          have C6 := Lib.hid (C5.out.up bel')
          have hzL := bel'.size
          clear hs' hpj bel'
          by_cases hkm : k < m
          · obtain ⟨b, off, A5, lz, c5, y, rfl, hb, ev, ey, hc0, hr0, hy, hlc⟩ := So.out.rr.at_ hkm
            have hyl : y ∈ l := getD_of (by rw [Lm.out]; exact hkm) ey
            have hyM := Lv0.out.mem y hyl
            have hyP := hyM.pn ok.out hN1 hN2
            obtain rfl : lz = N := by have := hyP.2; omega
            have Yp := Lib.hid hyP
            have Ym := Lib.hid hyM
            have Ey := Lib.hid ey
            have Ry := Lib.hid hr0
            have R5 := Lib.hid (hr0.up Be'.out)
            have Hb := Lib.hid hb
            have Hc := Lib.hid hc0
            have x1 := (Be'.out.cell (p := ⟨b, off + k, none⟩) hb).trans hc0
            have z0 : (0 : Int) ≤ k := by omega
            have z1 : (k : Int) < m := by omega
            clear ev ey hr0 hy hyP hyM hyl hb hlc hc0
            go_wp2_with fail
            refine (specChoices w.heap.size g lz i c5 A5 ch L gs y wr C6.out W2.out R5.out Yp hlt).mono ?_
            rintro e w7 ⟨g2, m2, c2, zs, rfl, s7, p7, o7, b7⟩
            have Chl : Hid (ChL lz gs y i zs) := Lib.hid (chL_ok W2.out hN1 hN2 ok.out hlt Ym.out p7 o7)
            have Lz : Hid (zs.length = m2) := Lib.hid s7.1
            have hm2 : m2 ≤ 20 := by rw [← s7.1, p7.length_eq]; have := chL_len ch i y lz; omega
            have Z7 : Hid (Slc w7 wr.heap.size (some ⟨g2, 0, none⟩) m2 c2 zs) := Lib.hid s7
            have hg2 : wr.heap.size ≤ g2 ∧ g2 < w7.heap.size := s7.lt_ g2 rfl
            have Ss7 := Lib.hid (Ss.out.up b7)
            have Be7 : Hid (Below wL.heap.size wL w7) := Lib.hid (btr Be'.out b7)
            have Ne7 : Hid (∀ q, (Value.slice A' m' c').ownBlock = some q → q ≠ g2) := Lib.hid fun q hq => by have := (Ss.out.lt_ q hq).2; omega
            have Pj1 : Hid (Pj lz gs i l k zs 0 L') := Lib.hid ⟨Pj0.out.srt, fun x hx => by
              obtain ⟨a, b⟩ := Pj0.out.mem x hx
              rcases b with b | ⟨_, u, hu, _⟩
              · exact ⟨a, .inl b⟩
              · exact absurd hu (Nat.not_lt_zero _), Pj0.out.all, fun u hu => absurd hu (Nat.not_lt_zero _)⟩
            clear s7 p7 o7 b7 Pj0
            go_wp2_with fail
            obtain ⟨wM, rfl⟩ : ∃ wM, wM = wr := ⟨_, rfl⟩
            go_loopg [8, 11] m2 (fun gg v j wr => ∃ (jj m' c' : Nat) (A' : Option Addr) (us' : List SV) (L' : List (List Int)), jj ≤ m2 ∧ m2 - jj ≤ gg ∧ j = .int .i64 (jj : Nat) ∧ v = .slice A' m' c' ∧ SS wr wL.heap.size wL.heap.size A' m' c' us' L' ∧ Pj lz gs i l k zs jj L' ∧ Slc wr wM.heap.size (some ⟨g2, 0, none⟩) m2 c2 zs ∧ (∀ q, (Value.slice A' m' c').ownBlock = some q → q ≠ g2) ∧ Below wL.heap.size wL wr)
            case atStart => exact ⟨0, _, _, _, _, _, Nat.zero_le _, by omega, rfl, rfl, Ss7.out, Pj1.out, Z7.out, Ne7.out, Be7.out⟩
            case round =>
              clear Ss7 Pj1 Z7 Ne7 Be7
              obtain ⟨jj, m', c', A', us', L', hj, hgj, rfl, rfl, hs', hpj, hz', hne, bel'⟩ := hrel
              have Ss := Lib.hid hs'
              have Pj0 := Lib.hid hpj
              have Zs := Lib.hid hz'
              have Ne := Lib.hid hne
              have Be' := Lib.hid bel'
              have C8 := Lib.hid (C5.out.up bel')
              have hm' : m' ≤ 3000 := by rw [← hs'.lx]; exact Nat.le_trans (hpj.len HV.out) hV3
              have hzL := bel'.size
              clear hs' hpj hz' hne bel'
              by_cases hjm : jj < m2
              · obtain ⟨zb, zo, ez, hzb, hzc⟩ := Zs.out.ri_ (by rw [Zs.out.1]; omega)
                have x9 := hzc jj (by rw [Zs.out.1]; exact hjm)
                have ez2 : (some ⟨g2, 0, none⟩ : Option Addr) = some ⟨zb, zo, none⟩ := ez
                injection ez2 with ez2
                injection ez2 with f1 f2 _
                subst f1 f2
                rw [Nat.zero_add] at x9
                have hzm : zs.getD jj 0 ∈ zs := by rw [gdx' (by rw [Lz.out]; exact hjm)]; exact List.getElem_mem _
                obtain ⟨q, hq, hqa, hqv⟩ := (Chl.out.2 _).1 hzm
                obtain ⟨v, hv⟩ : ∃ v, nx q i = v := ⟨_, rfl⟩
                rw [hv] at hqv
                obtain ⟨yy, hyy, hry, hmy⟩ := chL_mem.1 ((W2.out.choice hN1 hN2 ok.out hlt Ym.out).2 ⟨q, hq, hqa, rfl⟩)
                have hmy2 : nx y yy = v := by omega
                obtain ⟨a1, a2, a3, _⟩ := W2.out.rep_mb hN1 hN2 hlt hry
                have Rp : Hid (Pn lz (ch.rep i yy)) := Lib.hid (a1.pn ok.out hN1 hN2)
                have Hmy := Lib.hid hmy2
                obtain ⟨nw, hnw⟩ : ∃ nw, compL (ch.rep i yy) y = nw := ⟨_, rfl⟩
                have Mb2 : Hid (Mb gs lz nw) := Lib.hid (by rw [← hnw]; exact a1.comp ok.out hN1 hN2 Ym.out)
                have hAg : Ag i nw y := fun t ht => by rw [← hnw, Rp.out.nxc (by omega), a2 t ht]
                have hnv : (nx nw i : Int) = zs.getD jj 0 := by rw [← hnw, Rp.out.nxc hlt, a3, Hmy.out, hqv]
                have Pj2 : Hid (Pj lz gs i l k zs (jj + 1) (L' ++ [nw])) := Lib.hid (Pj0.out.snoc Lv0.out (by rw [Lm.out]; exact hkm) Chl.out.1 (by rw [Lz.out]; exact hjm) Mb2.out (by rw [Ey.out]; exact hAg) hnv)
                have Nw := Lib.hid hnw
                rw [← hqv] at x9
                have x8 := (Be'.out.cell (p := ⟨b, off + k, none⟩) Hb.out).trans Hc.out
                have z2 : (0 : Int) ≤ jj := by omega
                have z3 : (jj : Int) < m2 := by omega
                have C8d : Hid (Cn wr.drew w.heap.size g lz ch L) := Lib.hid (C8.out.up ⟨rfl, rfl, rfl, Nat.le_refl _, fun _ _ => rfl⟩)
                have Ry8 : Hid (RI wr wr.heap.size A5 y) := Lib.hid (Ry.out.up Be'.out)
                clear ez hzb hzc hzm hq hqa hqv hv hry hmy hmy2 a1 a2 a3 hAg hnv hnw Pj0
                go_wp2_with fail
                go_region_law (first
                  | (refine step_appV rfl (.tmp 47) (.tmp 59) rfl wL.heap.size (.slice A' m' c') m' (us'.map sval) ?_ ((Ss9.out.alloc (.cells #[.slice A9 lz c9] 28)).own) w9.heap.size (A9, lz, c9) ?_ ((Blk.new w9 _ _).cell 0) ?_ ?_ ?_; (simp [Act.eval, Act.put]); (simp [Act.eval, Act.put]); (omega); (have hz := B9.out.size; simp; omega); (intro A10 c10 w10 o10 g10 h10))
                  | (go_simp; go_wp2_with (first
                    | (go_at_call 49; (first
                        | (refine (specWithEntry w.heap.size g lz i v yy c5 A5 ch L y wr C8.out Ry8.out Yp hlt hyy Hmy Rp).mono ?_; rintro e w9 ⟨A9, c9, rfl, s9, b9⟩)
                        | (refine (specWithEntry w.heap.size g lz i v yy c5 A5 ch L y wr.drew C8d.out Ry8.out Yp hlt hyy Hmy Rp).mono ?_; rintro e w9 ⟨A9, c9, rfl, s9, b90⟩; have b9 : Below wr.heap.size wr w9 := below_undrew b90; clear b90))
                       have B9 : Hid (Below wr.heap.size wr w9) := Lib.hid b9
                       have S9 : Hid (Slc w9 wr.heap.size A9 lz c9 nw) := Lib.hid (by rw [← Nw.out]; exact s9)
                       have Ss9 := Lib.hid (Ss.out.up b9)
                       have Zs9 := Lib.hid (Zs.out.up b9)
                       clear s9 b9))))
                all_goals
                  have D9 : ∀ t, t < m' → (sval (us'.getD t sd0)).ownBlock = none ∨ (sval (us'.getD t sd0)).ownBlock ≠ (sval (A9, lz, c9)).ownBlock := lies_dis (w := wr) Ss.out S9.out.lies (Nat.le_refl _)
                  have Ss10 : Hid (SS w10 wL.heap.size wL.heap.size A10 (m' + 1) c10 (us' ++ [(A9, lz, c9)]) (L' ++ [nw])) := Lib.hid ((Ss9.out.alloc _).snocV (d := (A9, lz, c9)) ((S9.out.mono hzL).alloc _) D9 o10 g10)
                  have B10 : Hid (Below wL.heap.size wL w10) := Lib.hid (((btr Be'.out B9.out).alloc (btr Be'.out B9.out).size _).grown g10 (by have := (btr Be'.out B9.out).size; simp; omega) (fun j hj => (Ss.out.lt_ j hj).1))
                  have Zs10 : Hid (Slc w10 wM.heap.size (some ⟨g2, 0, none⟩) m2 c2 zs) := Lib.hid ((Zs9.out.alloc _).kept g10 (.inr fun e => Ne.out g2 e.symm rfl))
                  have Ne10 : Hid (∀ q, (Value.slice A10 (m' + 1) c10).ownBlock = some q → q ≠ g2) := Lib.hid fun q hq => by
                    rcases h10 with e | e
                    · exact Ne.out q (e ▸ hq)
                    · have h1 := (Zs9.out.lt_ g2 rfl).2
                      rw [e] at hq
                      injection hq with hq
                      simp at hq; omega
                  clear o10 g10 h10 D9
                  go_wp2_with fail
                  go_roundg (m2 - (jj + 1))
                  case rel => exact ⟨jj + 1, _, _, A10, _, _, by omega, by omega, by go_num, rfl, Ss10.out, Pj2.out, Zs10.out, Ne10.out, B10.out⟩
                  case measure => omega
              · obtain rfl : jj = m2 := by omega
                have Pj2 : Hid (Pj lz gs i l (k + 1) [] 0 L') := Lib.hid (by
                  have := Pj0.out
                  rw [← Lz.out] at this
                  exact this.next (by rw [Ey.out]; exact Chl.out))
                go_wp2_with fail
                go_roundg (m - (k + 1))
                case rel => exact ⟨k + 1, _, _, _, _, _, by omega, by omega, by go_num, rfl, Ss.out, Pj2.out, Be'.out⟩
                case measure => omega
          · obtain rfl : k = m := by omega
            have Lv2 : Hid (Lv N gs (i + 1) L') := Lib.hid (by
              have := Pj0.out
              rw [← Lm.out] at this
              exact this.lv Lv0.out)
            have Ss2 : Hid (SS wr w.heap.size w.heap.size A' m' c' us' L') := Lib.hid (Ss.out.mono hzw hzw)
            have Be2 : Hid (Below w4.heap.size w4 wr) := Lib.hid (btr Be.out Be'.out)
            go_wp2_with fail
            go_roundw
            case rel => exact ⟨i + 1, _, _, _, _, _, by omega, by go_num, rfl, Ss2.out, Lv2.out, Be2.out⟩
            case measure => simp [intOf]; omega
      · obtain rfl : i = N := by omega
        have Fin : Hid (IsMbs (i : Int) gs l) := Lib.hid (.inl ⟨Few0.out, by rw [Int.toNat_natCast]; exact Lv0.out.srt, fun p => by rw [Int.toNat_natCast]; exact Lv0.out.top ok.out hN1 hN2 p⟩)
        go_wp2_with fail
        go_ret
        exact ⟨_, _, _, _, _, rfl, So.out, Fin.out, Bw.out⟩
  · have d0 : decide ((3000 : Int) < (V : Int)) = true := by simp; omega
    have Fin : Hid (IsMbs (N : Int) gs []) := Lib.hid (.inr ⟨fun ⟨_, V', h, h'⟩ => (by rw [Int.toNat_natCast] at h; have := h.uniq HV.out; omega), rfl⟩)
    have S0 := Lib.hid (SS.lit0 w3 w.heap.size w.heap.size hz3)
    go_wp2_with fail
    go_ret
    exact ⟨_, _, _, _, _, rfl, S0.out, Fin.out, B3.out.alloc hz3 _⟩
end Go.Proofs.Ytbimhnifjnibjaa

/- Members and CountMembersOfType of the model. Conditions: at most 1048576 lists of at most 1048576 numbers. -/
namespace Go.Proofs.Ytbimhnifjnibjaa
open Go.RowKit

/-- What CountMembersOfType answers. -/
def IsCty (a : Int) (gs : List (List Int)) (kd : List Int) (v : Int) : Prop := (Few a gs ∧ ∃ c : Nat, Crd (fun q => Mb gs a.toNat q ∧ ctypeL q = kd) c ∧ v = (c : Int)) ∨ (¬ Few a gs ∧ v = -1)
theorem IsCty.uniq {a v v' : Int} {gs : List (List Int)} {kd : List Int} (h : IsCty a gs kd v) (h' : IsCty a gs kd v') : v = v' := by
  rcases h with ⟨e, c, h, rfl⟩ | ⟨e, rfl⟩ <;> rcases h' with ⟨e', c', h', rfl⟩ | ⟨e', rfl⟩
  · rw [Crd.uniq h h']
  · exact absurd e e'
  · exact absurd e' e
  · rfl
/-- How many of the first k have the cycle type. -/
def cty (kd : List Int) (l : List (List Int)) (k : Nat) : Nat := (l.take k).countP fun q => decide (ctypeL q = kd)
theorem cty_succ {kd : List Int} {l : List (List Int)} {k : Nat} {y : List Int} (hk : k < l.length) (ey : l.getD k [] = y) : cty kd l (k + 1) = cty kd l k + if decide (ctypeL y = kd) = true then 1 else 0 := by
  rw [List.getD_eq_getElem?_getD, List.getElem?_eq_getElem hk] at ey
  have e' : l[k] = y := ey
  unfold cty
  rw [List.take_succ_eq_append_getElem hk, List.countP_append, e']
  simp [List.countP_cons]
theorem cty_le (kd : List Int) (l : List (List Int)) (k : Nat) : cty kd l k ≤ l.length := Nat.le_trans List.countP_le_length (by rw [List.length_take]; omega)
theorem IsMbs.cty {a : Int} {gs l : List (List Int)} {kd : List Int} (h : IsMbs a gs l) (hf : Few a gs) : IsCty a gs kd (cty kd l l.length : Nat) := by
  rcases h with ⟨_, hs, hm⟩ | ⟨hn, _⟩
  · refine .inl ⟨hf, _, ⟨l.filter fun q => decide (ctypeL q = kd), (lx_nodup hs).filter _, fun p => ?_, ?_⟩, rfl⟩
    · rw [List.mem_filter, hm, decide_eq_true_eq]
    · unfold Proofs.Ytbimhnifjnibjaa.cty; rw [List.take_length, List.countP_eq_length_filter]
  · exact absurd hf hn

set_option maxHeartbeats 1000000 in
set_option maxRecDepth 100000 in
theorem ctMbs : CtImM 12 IsMbs := by
  intro a A n c vs xss w hG ha
  have HG := Lib.hid hG
  have hlx : Hid (xss.length = n) := Lib.hid hG.rr.lx
  clear hG
  go_enter Try.func12, Try.ntmps12
  go_wp2_with fail
  refine (specGS a A n c vs xss w HG.out.rr HG.out.hn (Lib.hid HG.out.hl) ha).mono ?_
  rintro e w1 ⟨rfl, b1⟩
  have B1 := Lib.hid b1
  have G1 := Lib.hid (HG.out.up b1)
  have hz1 := b1.size
  clear b1
  rcases hs : gB a xss with _ | _
  · have Fin : Hid (IsMbs a xss []) := Lib.hid (.inr ⟨fun h => (by have := h.1; rw [hs] at this; cases this), rfl⟩)
    have S0 := Lib.hid (SS.lit0 w1 w.heap.size w.heap.size hz1)
    clear hs
    go_wp2_with fail
    go_ret
    exact ⟨_, _, _, _, _, rfl, S0.out, Fin.out, B1.out.alloc hz1 _⟩
  · obtain ⟨N, rfl, hN1, hN2, hg8, hpm, hok⟩ := gB_pm hs
    have Hs := Lib.hid hs
    have Ok : Hid (∀ g ∈ xss, Pn N g) := Lib.hid hok
    have hn8 : n ≤ 8 := by rw [← hlx.out]; exact hg8
    clear hs hpm hok hg8
    go_wp2_with fail
    refine (specAllM N n c A vs xss w1 G1.out.rr hN1 hN2 hn8 Ok Hs).mono ?_
    rintro e w2 ⟨A2, m2, c2, us, l, rfl, s2, r2, b2⟩
    have S2 := Lib.hid (s2.mono hz1 hz1)
    have R2 := Lib.hid r2
    have B2 : Hid (Below w.heap.size w w2) := Lib.hid (btr B1.out b2)
    clear s2 r2 b2
    go_wp2_with fail
    go_ret
    exact ⟨_, _, _, _, _, rfl, S2.out, R2.out, B2.out⟩

end Go.Proofs.Ytbimhnifjnibjaa

/- RandomMember of the model. Conditions: at most 1048576 lists of at most 1048576 numbers. -/
namespace Go.Proofs.Ytbimhnifjnibjaa
open Go.RowKit

theorem tmod_b (x : Int) : -999999937 < x.tmod 999999937 ∧ x.tmod 999999937 < 999999937 := ⟨Int.lt_tmod_of_pos _ (by decide), Int.tmod_lt_of_pos _ (by decide)⟩
theorem tmod_p {x : Int} (h : 0 ≤ x) : 0 ≤ x.tmod 999999937 ∧ x.tmod 999999937 < 999999937 := ⟨Int.tmod_nonneg _ h, (tmod_b x).2⟩
theorem stt_b (s : Int) : ∀ i, 0 ≤ stt s i ∧ stt s i < 999999937
  | 0 => tmod_p (by have := (tmod_b s).1; omega)
  | i + 1 => tmod_p (by have := (stt_b s i).1; omega)


/-- The first i entries are chosen by the states. -/
def Sel (N : Nat) (gs : List (List Int)) (s : Int) (m : List Int) (i : Nat) : Prop := ∀ t, t < i → ∀ zs, ChL N gs m t zs → (nx m t : Int) = zs.getD (((stt s (t + 1)).tmod (zs.length : Int)).toNat) 0

end Go.Proofs.Ytbimhnifjnibjaa

/- Plain facts for chapter 5's named laws: the only member of type 1, .., 1; ranks of members; seeds. No Go in it. No condition. -/
namespace Go.Proofs.Ytbimhnifjnibjaa
open Go.RowKit

section
variable {N : Nat} {q : List Int}
theorem lens_ones (hq : Pn N q) (h : ∀ l ∈ lens q, l = 1) : q = idL N := by
  refine hq.ext (pn_id hq.pos.1 hq.pos.2) fun x hx => ?_
  rw [nx_id hx]
  obtain ⟨c, j, hc, hst, hj, e⟩ := min_ex hq.1 (x := x) (by rw [hq.2]; exact hx)
  have hcm : c ∈ heads q q.length := List.mem_filter.2 ⟨List.mem_range.2 hc, hst⟩
  have h1 : per q c = 1 := h _ (by rw [lens_heads]; exact List.mem_map.2 ⟨c, hcm, rfl⟩)
  obtain rfl : j = 0 := by omega
  obtain rfl : c = x := e
  exact (it_eq_iff hq.1 hc 1).2 (by rw [h1])
theorem ctype_ones (hq : Pn N q) : ctypeL q = List.replicate N (1 : Int) ↔ q = idL N := by
  have e1 : ctypeL q = ctype q := if_pos (isP_iff.2 hq.1)
  rw [e1]
  constructor
  · intro h
    refine lens_ones hq fun l hl => ?_
    have hb := lens_mem hq.1 l hl
    have hm : (l : Int) ∈ ctype q := List.count_pos_iff.1 (by
      unfold ctype
      rw [desc_count, if_pos (by omega), Int.toNat_natCast]
      exact List.count_pos_iff.2 hl)
    rw [h, List.mem_replicate] at hm
    omega
  · rintro rfl
    have hp1 : ∀ x, x < N → per (idL N) x = 1 := fun x hx => by
      have hs := per_spec hq.1 (x := x) (by rw [hq.2]; exact hx)
      have h1 : it (idL N) 1 x = x := nx_id hx
      have h2 := (it_eq_iff hq.1 (by rw [hq.2]; exact hx) 1).1 h1
      rcases Nat.lt_or_ge 1 (per (idL N) x) with h3 | h3
      · rw [Nat.mod_eq_of_lt h3] at h2; omega
      · have := hs.1; omega
    have hh : heads (idL N) (idL N).length = List.range N := by
      rw [idL_length]
      refine List.filter_eq_self.2 fun x hx => ?_
      refine st_true fun j hj => ?_
      rw [hp1 x (List.mem_range.1 hx)] at hj
      obtain rfl : j = 0 := by omega
      exact Nat.le_refl _
    have hl : lens (idL N) = (List.range N).map (per (idL N)) := by rw [lens_heads, hh]
    rw [List.eq_replicate_iff]
    refine ⟨by rw [ctype_len hq.1, ← lens_len, hl]; simp, fun b hb => ?_⟩
    have hc := List.count_pos_iff.2 hb
    unfold ctype at hc
    rw [desc_count] at hc
    split at hc
    · rename_i hr
      have hm := List.count_pos_iff.1 hc
      rw [hl, List.mem_map] at hm
      obtain ⟨x, hx, e⟩ := hm
      rw [hp1 x (List.mem_range.1 hx)] at e
      omega
    · omega
end

/-- A seed and what it leaves begin alike. -/
theorem seed0_mod (s : Int) : seed0 (s.tmod 999999937) = seed0 s := by
  unfold seed0; rw [Int.tmod_tmod_of_dvd]
  exact Int.dvd_refl _
theorem stt_mod (s : Int) : ∀ i, stt (s.tmod 999999937) i = stt s i
  | 0 => seed0_mod s
  | i + 1 => by show (stt (s.tmod 999999937) i * 48271 + 11).tmod 999999937 = (stt s i * 48271 + 11).tmod 999999937; rw [stt_mod s i]
theorem IsRnd.mod {a s : Int} {gs : List (List Int)} {m : List Int} {ok : Bool} (h : IsRnd a gs s m ok) : IsRnd a gs (s.tmod 999999937) m ok := by
  rcases h with ⟨e, h1, h2, h3⟩ | h
  · exact .inl ⟨e, h1, h2, fun i hi zs hz => by rw [stt_mod]; exact h3 i hi zs hz⟩
  · exact .inr h

section
variable {a k : Int} {gs l : List (List Int)} {p m : List Int} {ok : Bool}
theorem memb_of (e : gB a gs = true) (hm : Mb gs a.toNat m) : Memb a gs m := by
  obtain ⟨N, rfl, h1, h2, _, _, hok⟩ := gB_pm e
  rw [Int.toNat_natCast] at hm
  have hp := hm.pn hok h1 h2
  exact ⟨e, by rw [hp.2], isP_iff.2 hp.1, by rw [Int.toNat_natCast]; exact hm⟩
theorem IsMat.memb (h : IsMat a gs k m true) : Memb a gs m := by
  rcases h with ⟨e, _, hm, _⟩ | ⟨e, _⟩
  · exact memb_of e hm
  · cases e
theorem Memb.vld (h : Memb a gs m) : Vld a gs m := ⟨h.1, h.2.1, h.2.2.1⟩
theorem IsMat.rk (h : IsMat a gs k m true) : ∃ c : Nat, Rk a.toNat gs m c ∧ k = (c : Int) := by
  rcases h with ⟨_, _, _, c, h1, h2⟩ | ⟨e, _⟩
  · exact ⟨c, h1, h2⟩
  · cases e
/-- The rank of the member of rank k is k. -/
theorem IsMat.rnk {v : Int} (h : IsMat a gs k m true) (hv : IsRnk a gs m v) : v = k := by
  obtain ⟨c, hc, rfl⟩ := h.rk
  exact hv.uniq (.inl ⟨h.memb, c, hc, rfl⟩)
theorem IsMat.cmb {v : Int} (h : IsMat a gs k m true) (hv : IsCmb a gs m v) : v = k := by
  obtain ⟨c, hc, rfl⟩ := h.rk
  exact hv.uniq (.inl ⟨h.memb.vld, c, hc, rfl⟩)
/-- What follows the member of rank k is that of rank k + 1. -/
theorem IsMat.nxt {m' m2 : List Int} {ok' ok2 : Bool} (h : IsMat a gs k m true) (hn : IsNxt a gs m m' ok') (h2 : IsMat a gs (k + 1) m2 ok2) : m' = m2 ∧ ok' = ok2 := by
  obtain ⟨c, hc, rfl⟩ := h.rk
  rcases hn with ⟨_, c', b, hc', hb, hm⟩ | ⟨hn, _⟩
  · obtain rfl : c' = c := Crd.uniq hc' hc
    rw [if_pos (hb.2 h.memb)] at hm
    exact hm.uniq h2
  · exact absurd h.memb.vld hn
/-- Each number below the order is the rank of a member. -/
theorem rk_some {N V k : Nat} {gs : List (List Int)} (hg : ∀ g ∈ gs, Pn N g) (h1 : 1 ≤ N) (h2 : N ≤ 20) (hV : Crd (Mb gs N) V) (hk : k < V) : ∃ q, Mb gs N q ∧ Rk N gs q k := by
  classical
  have hV0 := hV
  obtain ⟨l, hd, hm, hl⟩ := hV
  have hr : ∀ q, Rk N gs q (l.filter fun x => decide (LxI N x q)).length := fun q => ⟨l.filter fun x => decide (LxI N x q), hd.filter _, fun p => by rw [List.mem_filter, hm, decide_eq_true_eq], rfl⟩
  have hin : k ∈ l.map fun q => (l.filter fun x => decide (LxI N x q)).length := by
    rcases Classical.em (k ∈ l.map fun q => (l.filter fun x => decide (LxI N x q)).length) with h | h
    · exact h
    · exfalso
      have hnd : (l.map fun q => (l.filter fun x => decide (LxI N x q)).length).Nodup := nd_mapA hd fun x hx y hy e => rk_inj hg h1 h2 (hr x) (by rw [e]; exact hr y) ((hm x).1 hx) ((hm y).1 hy)
      have := ndlen V (k :: l.map fun q => (l.filter fun x => decide (LxI N x q)).length) (List.nodup_cons.2 ⟨h, hnd⟩) fun x hx => by
        rcases List.mem_cons.1 hx with rfl | hx
        · exact hk
        · obtain ⟨q, hq, rfl⟩ := List.mem_map.1 hx
          exact rk_ord (hr q) hV0 ((hm q).1 hq)
      rw [List.length_cons, List.length_map] at this
      omega
  obtain ⟨q, hq, rfl⟩ := List.mem_map.1 hin
  exact ⟨q, (hm q).1 hq, hr q⟩
/-- A member other than the identity exactly if there are more than one. -/
theorem first_ok {v : Int} (e : gB a gs = true) (h : IsFst a gs m ok) (hv : IsOrd a gs v) : ok = decide (1 < v) := by
  obtain ⟨N, rfl, h1, h2, _, _, hok⟩ := gB_pm e
  rcases hv with ⟨_, xs, hx, rfl⟩ | ⟨e2, _⟩
  · rw [Int.toNat_natCast] at hx
    obtain ⟨V, hV, eV, _⟩ := hx.ordB hok h1 h2
    rw [eV]
    rcases h with ⟨_, rfl, hm, c, hc, ec⟩ | ⟨rfl, _, hn⟩
    · rw [Int.toNat_natCast] at hm hc
      have := rk_ord hc hV hm
      exact (decide_eq_true (by omega)).symm
    · refine (decide_eq_false fun hlt => ?_).symm
      obtain ⟨q, hq, hr⟩ := rk_some hok h1 h2 hV (show 1 < V by omega)
      exact hn e q (by rw [Int.toNat_natCast]; exact hq) 1 (by rw [Int.toNat_natCast]; exact hr) rfl
  · rw [e] at e2; cases e2
end
end Go.Proofs.Ytbimhnifjnibjaa

/- PermutationLess, of the program (by slices.Compare) and of the model. Condition: at most 2097152 entries. -/
namespace Go.Proofs.Ytbimhnifjnibjaa
open Go.RowKit

/-- p comes first: at the first place where they differ p is smaller. -/
def lessI (p q : List Int) (n : Nat) : Bool := decide (∃ k, k < n ∧ (∀ j, j < k → p.getD j 0 = q.getD j 0) ∧ p.getD k 0 < q.getD k 0)
theorem lessI_at {p q : List Int} {n k : Nat} (hk : k < n) (he : ∀ j, j < k → p.getD j 0 = q.getD j 0) (hne : p.getD k 0 ≠ q.getD k 0) : lessI p q n = decide (p.getD k 0 < q.getD k 0) := by
  unfold lessI
  rw [Bool.eq_iff_iff, decide_eq_true_eq, decide_eq_true_eq]
  constructor
  · rintro ⟨i, hi, h1, h2⟩
    rcases Nat.lt_trichotomy i k with h | h | h
    · have := he i h; omega
    · subst h; exact h2
    · exact absurd (h1 k h) hne
  · intro h; exact ⟨k, hk, he, h⟩
theorem lessI_end {p q : List Int} {n : Nat} (he : ∀ j, j < n → p.getD j 0 = q.getD j 0) : lessI p q n = false := by
  unfold lessI
  rw [decide_eq_false_iff_not]
  rintro ⟨k, hk, _, h⟩
  have := he k hk; omega
def lessP (p q : List Int) : Bool := sameD p q && lessI p q p.length

set_option maxHeartbeats 400000 in
theorem specPrec (A B : Option Addr) (c d n : Nat) (p q : List Int) (w : World) (hp : RI w w.heap.size A p) (hq : RI w w.heap.size B q) (lp : Hid (p.length = n)) (lq : Hid (q.length = n)) (hn : n ≤ 20) :
    Calls Try.prog 27 #[.slice A n c, .slice B n d] w fun e w' => e = .returned (.bool (lessI p q n)) ∧ ∃ m, w' = w.drewN m := by
  go_enter Try.func27, Try.ntmps27
  go_wp2
  go_loopw [5] (fun i wr => ∃ k : Nat, k ≤ n ∧ i = .int .i64 k ∧ (∀ j, j < k → p.getD j 0 = q.getD j 0) ∧ ∃ m, wr = w.drewN m) (fun i _ => n - (intOf i).toNat)
  case atStart => exact ⟨0, Nat.zero_le _, rfl, fun j h => absurd h (by omega), 0, rfl⟩
  case round =>
    obtain ⟨k, hk, rfl, heq, m, rfl⟩ := hrel
    have Heq := Lib.hid heq
    clear heq
    by_cases hlt : k < n
    · obtain ⟨b, off, rfl, hb, hc⟩ := hp (by rw [lp.out]; omega)
      obtain ⟨b', off', rfl, hb', hc'⟩ := hq (by rw [lq.out]; omega)
      have c1 := hc k (by rw [lp.out]; omega)
      have c2 := hc' k (by rw [lq.out]; omega)
      obtain ⟨x, ex⟩ : ∃ x, p.getD k 0 = x := ⟨_, rfl⟩
      obtain ⟨y, ey⟩ : ∃ y, q.getD k 0 = y := ⟨_, rfl⟩
      rw [ex] at c1
      rw [ey] at c2
      have Ex := Lib.hid ex
      have Ey := Lib.hid ey
      clear ex ey hc hc' hp hq
      have p1 : (0 : Int) ≤ k := by omega
      have p2 : (k : Int) < n := by omega
      by_cases hxy : x = y
      · subst hxy
        go_wp2
        go_quiet (fail)
        go_wp2
        go_roundw
        case rel => exact ⟨k + 1, by omega, by go_num, fun j hj => by
          by_cases e : j = k
          · subst e; rw [Ex.out, Ey.out]
          · exact Heq.out j (by omega), _, rfl⟩
        case measure => simp [intOf]; omega
      · have hd : (x != y) = true := by simpa using hxy
        have hd' : (x == y) = false := by simpa using hxy
        have Fin : Hid (lessI p q n = decide (x < y)) := Lib.hid (by rw [lessI_at hlt Heq.out (by rw [Ex.out, Ey.out]; exact hxy), Ex.out, Ey.out])
        clear hxy
        go_wp2
        go_quiet (fail)
        go_wp2
        go_quiet (fail)
        go_wp2
        go_ret
        exact ⟨ret_bool Fin.out.symm, _, by simp only [World.drewN_drewN]; rfl⟩
    · have hkn : k = n := by omega
      subst hkn
      have Fin : Hid (lessI p q k = false) := Lib.hid (lessI_end Heq.out)
      go_wp2
      go_ret
      exact ⟨ret_bool Fin.out.symm, _, rfl⟩

set_option maxHeartbeats 400000 in
/-- The model's PermutationLess. -/
theorem specPermutationLess (A B : Option Addr) (c d n m : Nat) (p q : List Int) (w : World) (hp : RI w w.heap.size A p) (hq : RI w w.heap.size B q) (lp : Hid (p.length = n)) (lq : Hid (q.length = m)) (hn : n ≤ 2097152) (hm : m ≤ 2097152) (hc : n ≤ c) (hd : m ≤ d) :
    Calls Try.prog 13 #[.slice A n c, .slice B m d] w fun e w' => e = .returned (.bool (lessP p q)) ∧ Below w.heap.size w w' := by
  rcases hs : sameD p q with _ | _
  · have Fin : Hid (lessP p q = false) := Lib.hid (by unfold lessP; rw [hs]; rfl)
    go_enter Try.func13, Try.ntmps13
    go_wp2_with fail
    refine (specSame A B c d n m p q w hp hq lp lq hn hm hc hd).mono ?_
    rintro e w1 ⟨rfl, b1⟩
    have B1 := Lib.hid b1
    clear b1
    go_wp2_with fail
    go_ret
    exact ⟨ret_bool Fin.out.symm, B1.out⟩
  · have Fin : Hid (lessP p q = lessI p q n) := Lib.hid (by unfold lessP; rw [hs, lp.out]; rfl)
    obtain ⟨h1, h2, h3⟩ := sameD_iff.1 hs
    have hn20 : n ≤ 20 := by rw [← lp.out]; exact h2.le
    obtain rfl : n = m := by rw [← lp.out, ← lq.out, h1]
    clear h1 h2 h3
    go_enter Try.func13, Try.ntmps13
    go_wp2_with fail
    refine (specSame A B c d n n p q w hp hq lp lq hn hn hc hd).mono ?_
    rintro e w1 ⟨rfl, b1⟩
    have B1 := Lib.hid b1
    clear b1
    go_wp2_with fail
    refine (quiet_below (specPrec A B c d n p q w1 (hp.up B1.out) (hq.up B1.out) lp lq hn20)).mono ?_
    rintro e w2 ⟨rfl, b2⟩
    have B2 : Hid (Below w.heap.size w w2) := Lib.hid (btr B1.out b2)
    clear b2
    go_wp2_with fail
    go_ret
    exact ⟨ret_bool Fin.out.symm, B2.out⟩
end Go.Proofs.Ytbimhnifjnibjaa

/- The walk of the law FnChainOrder: it returns true at every input, and writes nothing that was there. No condition but the program's own contracts. -/
namespace Go.Proofs.Ytbimhnifjnibjaa
open Go.RowKit

theorem lx_less {N : Nat} {p q : List Int} (hp : Pn N p) (hq : Pn N q) (h : LxI N p q) : lessP p q = true := by
  unfold lessP
  rw [sameD_iff.2 ⟨by rw [hp.2, hq.2], hp.1, hq.1⟩, Bool.true_and, hp.2]
  obtain ⟨t, ht, a, b⟩ := h
  refine decide_eq_true ⟨t, ht, fun j hj => ?_, ?_⟩
  · rw [nx_val hp.1 (by rw [hp.2]; omega), nx_val hq.1 (by rw [hq.2]; omega), a j hj]
  · rw [nx_val hp.1 (by rw [hp.2]; omega), nx_val hq.1 (by rw [hq.2]; omega)]; omega

set_option maxHeartbeats 8000000 in
set_option maxRecDepth 100000 in
theorem lawChainOrder (IG : CtImI 6 IsOrd) (IO : CtImS 7 IsSiz) (IM : CtImM 8 IsMbs) (IE : CtImmB 14 IsSam) (A : Option Addr) (cap len : Nat) (w : World) (hb : SB w w.heap.size A len) :
    Calls Try.prog 3 #[.slice A len cap] w fun e w' => e = .returned (.bool true) ∧ Below w.heap.size w w' := by
  by_cases hl : len ≤ 4096
  · go_enter Try.func3, Try.ntmps3
    go_wp2_with fail
    refine (bigF4 A len cap w hl).mono ?_
    rintro e w0 ⟨rfl, rfl⟩
    go_wp2_with fail
    refine (drawMbs len cap A w hb hl).mono ?_
    rintro e w1 ⟨z, A1, m, c, vs, xss, rfl, hB, gi, b1⟩
    have G1 := Lib.hid gi
    have HB := Lib.hid hB
    have B1 := Lib.hid b1
    clear gi b1 hB hb
    go_wp2_with fail
    refine (IG z A1 m c vs xss w1 G1.out HB.out).mono ?_
    rintro e w2 ⟨v, rfl, rv, b2⟩
    have Rv := Lib.hid rv
    have G2 := Lib.hid (G1.out.up b2)
    have B2 : Hid (Below w.heap.size w w2) := Lib.hid (btr B1.out b2)
    clear rv b2
    go_wp2_with fail
    refine (IO z A1 m c vs xss w2 G2.out HB.out).mono ?_
    rintro e w3 ⟨A3, n3, c3, xs, rfl, s3, r3, b3⟩
    have R3 := Lib.hid r3
    have X3 : Hid (RI w3 w3.heap.size A3 xs) := Lib.hid s3.ri_
    have L3 : Hid (xs.length = n3) := Lib.hid s3.1
    have hn3 : n3 ≤ 20 := by rw [← s3.1]; exact r3.len
    have G3 := Lib.hid (G2.out.up b3)
    have B3 : Hid (Below w.heap.size w w3) := Lib.hid (btr B2.out b3)
    clear r3 s3 b3
    go_wp2_with fail
    refine (IM z A1 m c vs xss w3 G3.out HB.out).mono ?_
    rintro e w4 ⟨A4, m4, c4, us4, l4, rfl, s4, r4, b4⟩
    have R4 := Lib.hid r4
    have O4 : Hid (RR w4 w4.heap.size A4 m4 us4 l4) := Lib.hid s4.rr
    have L4 : Hid (l4.length = m4) := Lib.hid s4.lx
    have hm4 : m4 ≤ 3000 := by rw [← s4.lx]; exact r4.len.1
    have X4 := Lib.hid (X3.out.up b4)
    have G4 := Lib.hid (G3.out.up b4)
    have B4 : Hid (Below w.heap.size w w4) := Lib.hid (btr B3.out b4)
    clear r4 s4 b4
    go_wp2_with fail
    refine (ctOrd z A1 m c vs xss w4 G4.out HB.out).mono ?_
    rintro e w5 ⟨v', rfl, rv', b5⟩
    obtain rfl : v' = v := rv'.uniq Rv.out
    have X5 := Lib.hid (X4.out.up b5)
    have O5 := Lib.hid (O4.out.up b5)
    have G5 := Lib.hid (G4.out.up b5)
    have B5 : Hid (Below w.heap.size w w5) := Lib.hid (btr B4.out b5)
    have ne1 : (v' != v') = false := by simp
    clear rv' b5
    go_wp2_with fail
    refine (ctSiz z A1 m c vs xss w5 G5.out HB.out).mono ?_
    rintro e w6 ⟨A6, n6, c6, ys, rfl, s6, r6, b6⟩
    obtain rfl : ys = xs := r6.uniq R3.out
    obtain rfl : n6 = n3 := by rw [← s6.1]; exact L3.out
    have Y6 : Hid (RI w6 w6.heap.size A6 ys) := Lib.hid s6.ri_
    have X6 := Lib.hid (X5.out.up b6)
    have O6 := Lib.hid (O5.out.up b6)
    have G6 := Lib.hid (G5.out.up b6)
    have B6 : Hid (Below w.heap.size w w6) := Lib.hid (btr B5.out b6)
    clear r6 s6 b6
    go_wp2_with fail
    refine (likeI_eq A3 A6 c3 c6 n6 n6 ys w6 X6.out Y6.out L3 L3 (by omega)).mono ?_
    rintro e w7 ⟨rfl, b7⟩
    have X7 := Lib.hid (X6.out.up b7)
    have O7 := Lib.hid (O6.out.up b7)
    have G7 := Lib.hid (G6.out.up b7)
    have B7 : Hid (Below w.heap.size w w7) := Lib.hid (btr B6.out b7)
    clear b7 Y6
    go_wp2_with fail
    refine (ctMbs z A1 m c vs xss w7 G7.out HB.out).mono ?_
    rintro e w8 ⟨A8, m8, c8, us8, l8, rfl, s8, r8, b8⟩
    obtain rfl : l8 = l4 := r8.uniq R4.out
    obtain rfl : m8 = m4 := by rw [← s8.lx]; exact L4.out
    have X8 := Lib.hid (X7.out.up b8)
    have O8 := Lib.hid (O7.out.up b8)
    have G8 := Lib.hid (G7.out.up b8)
    have B8 : Hid (Below w.heap.size w w8) := Lib.hid (btr B7.out b8)
    have ne2 : ((m8 : Int) != (m8 : Int)) = false := by simp
    clear r8 s8 b8
    rcases hq : gB z xss with _ | _
    · obtain rfl : v' = 0 := by
        rcases Rv.out with ⟨e, _⟩ | ⟨_, e⟩
        · rw [hq] at e; cases e
        · exact e
      have e3 : ys = [] := by
        rcases R3.out with ⟨e, _⟩ | ⟨_, e⟩
        · rw [hq] at e; cases e
        · exact e
      have e4 : l8 = [] := by
        rcases R4.out with ⟨⟨e, _⟩, _⟩ | ⟨_, e⟩
        · rw [hq] at e; cases e
        · exact e
      obtain rfl : n6 = 0 := by rw [← L3.out, e3]; rfl
      obtain rfl : m8 = 0 := by rw [← L4.out, e4]; rfl
      clear hq e3 e4
      go_wp2_with fail
      go_ret
      exact ⟨rfl, B8.out⟩
    · obtain ⟨N, rfl, hN1, hN2, hg8, hpm, hok⟩ := gB_pm hq
      have Ok : Hid (∀ g ∈ xss, Pn N g) := Lib.hid hok
      have Hq := Lib.hid hq
      have os : IsOS N xss ys := by
        rcases R3.out with ⟨_, h⟩ | ⟨e, _⟩
        · rw [Int.toNat_natCast] at h; exact h
        · rw [hq] at e; cases e
      have Os := Lib.hid os
      obtain rfl : n6 = N := by rw [← L3.out]; exact os.1
      obtain ⟨V, hV, eV, hVb⟩ := os.ordB hok hN1 hN2
      have hV1 : 1 ≤ V := crd_sub (crd_one (idL n6)) hV fun x hx => by subst hx; exact .one
      obtain rfl : v' = (V : Int) := by
        rcases Rv.out with ⟨_, xs', h, e⟩ | ⟨e, _⟩
        · rw [Int.toNat_natCast] at h; rw [e, h.uniq os, eV]
        · rw [hq] at e; cases e
      have eP : pr ys 0 n6 = (V : Int) := by rw [← eV, prodL_pr, os.1]
      have EP := Lib.hid eP
      have HV := Lib.hid hV
      have LV : Hid (V ≤ 3000 → m8 = V ∧ l8.Pairwise (LxI n6) ∧ ∀ p, p ∈ l8 ↔ Mb xss n6 p) := Lib.hid fun h3 => by
        rcases R4.out with ⟨_, a, b⟩ | ⟨e, _⟩
        · rw [Int.toNat_natCast] at a b
          refine ⟨?_, a, b⟩
          rw [← L4.out]
          exact (hV.uniq ⟨l8, lx_nodup a, b, rfl⟩).symm
        · exact absurd ⟨hq, V, by rw [Int.toNat_natCast]; exact hV, h3⟩ e
      have LN : Hid (¬ V ≤ 3000 → m8 = 0) := Lib.hid fun h3 => by
        rcases R4.out with ⟨⟨_, V', h, h'⟩, _⟩ | ⟨_, e⟩
        · rw [Int.toNat_natCast] at h
          have := h.uniq HV.out; omega
        · rw [← L4.out, e]; rfl
      have z0 : ((V : Int) == 0) = false := by rw [beq_eq_false_iff_ne]; omega
      clear hq hpm hok os hV eV eP
      go_wp2_with fail
      go_loopw [8, 9] (fun o i wr => ∃ k : Nat, k ≤ n6 ∧ i = .int .i64 (k : Nat) ∧ o = .int .i64 (pr ys 0 k) ∧ wr = w8) (fun _ i _ => n6 - (intOf i).toNat)
      case atStart => exact ⟨0, Nat.zero_le _, rfl, rfl, rfl⟩
      case round =>
        obtain ⟨k, hk, rfl, rfl, rfl⟩ := hrel
        by_cases hlt : k < n6
        · obtain ⟨b, off, rfl, hbb, hcc⟩ := X8.out (by rw [L3.out]; omega)
          have x1 := hcc k (by rw [L3.out]; exact hlt)
          have e1 : pr ys 0 (k + 1) = pr ys 0 k * ys.getD k 0 := by show pr ys 0 k * ys.getD (0 + k) 0 = _; rw [Nat.zero_add]
          have hpb := Os.out.pr_le Ok.out hN1 hN2 0 (k + 1) (by omega)
          have hfb := facts_le hN2 (0 + (k + 1)) (by omega)
          obtain ⟨y, hy⟩ : ∃ y, ys.getD k 0 = y := ⟨_, rfl⟩
          obtain ⟨q, hqq⟩ : ∃ q, pr ys 0 k = q := ⟨_, rfl⟩
          obtain ⟨r, hr⟩ : ∃ r, pr ys 0 (k + 1) = r := ⟨_, rfl⟩
          rw [hy] at x1 e1
          rw [hqq] at e1 ⊢
          rw [hr] at e1 hpb
          have Hr := Lib.hid hr
          have wq : IntKind.i64.wrap (q * y) = r := by rw [← e1, IntKind.wrap_i64]; omega
          have p0 : (0 : Int) ≤ k := by omega
          have p1 : (k : Int) < n6 := by omega
          clear hbb hcc hpb hfb hy hqq hr e1
          go_wp2_with fail
          go_roundw
          case rel => exact ⟨k + 1, by omega, by go_num, by rw [Hr.out], trivial⟩
          case measure => simp [intOf]; omega
        · obtain rfl : k = n6 := by omega
          rw [EP.out]
          have ne3 : ((V : Int) != (V : Int)) = false := by simp
          have Sam : Hid (SameG (k : Int) xss xss) := Lib.hid ⟨Hq.out, Hq.out, fun g hg => by rw [Int.toNat_natCast]; exact .of (Ok.out g hg) hg, fun g hg => by rw [Int.toNat_natCast]; exact .of (Ok.out g hg) hg⟩
          by_cases hV3 : V ≤ 3000
          · obtain ⟨hmv, hsr, hmm⟩ := LV.out hV3
            subst hmv
            have Sr := Lib.hid hsr
            have Mm := Lib.hid hmm
            have d3 : decide ((m8 : Int) ≤ 3000) = true := by simp; omega
            clear hsr hmm LV LN HV X8
            go_wp2_with fail
            obtain ⟨wl, rfl⟩ : ∃ wl, wl = wr := ⟨_, rfl⟩
            go_loopg [10] m8 (fun gg i wr => ∃ j : Nat, j < m8 ∧ m8 - j ≤ gg ∧ i = .int .i64 (j : Nat) ∧ Below wl.heap.size wl wr)
            case atStart => exact ⟨0, by omega, by omega, rfl, Below.refl _ _⟩
            case round =>
              obtain ⟨j, hj, hgj, rfl, bel⟩ := hrel
              have Bj := Lib.hid bel
              have O9 := Lib.hid (O8.out.up bel)
              have G9 := Lib.hid (G8.out.up bel)
              clear bel
              by_cases hjm : j + 1 < m8
              · obtain ⟨b, off, A5, k5, c5, p, rfl, hb5, e51, e52, x1, ri1, n1, cc1⟩ := O9.out.at_ (k := j) (by omega)
                obtain ⟨b', off', A6, k6, c6, q, e0, hb6, e61, e62, x2, ri2, n2, cc2⟩ := O9.out.at_ (k := j + 1) hjm
                injection e0 with e0
                injection e0 with f1 f2 _
                subst f1 f2
                have hp := (Mm.out p).1 (getD_of (by rw [L4.out]; omega) e52)
                have hq := (Mm.out q).1 (getD_of (by rw [L4.out]; exact hjm) e62)
                have hpp := hp.pn Ok.out hN1 hN2
                have hqp := hq.pn Ok.out hN1 hN2
                have hlx : LxI k p q := by
                  have := List.pairwise_iff_getElem.1 Sr.out j (j + 1) (by rw [L4.out]; omega) (by rw [L4.out]; exact hjm) (Nat.lt_succ_self j)
                  rw [List.getD_eq_getElem?_getD, List.getElem?_eq_getElem (by rw [L4.out]; omega)] at e52
                  rw [List.getD_eq_getElem?_getD, List.getElem?_eq_getElem (by rw [L4.out]; exact hjm)] at e62
                  have e52 : l8[j]'(by rw [L4.out]; omega) = p := e52
                  have e62 : l8[j + 1]'(by rw [L4.out]; exact hjm) = q := e62
                  rw [e52, e62] at this; exact this
                have Fin : Hid (lessP p q = true) := Lib.hid (lx_less hpp hqp hlx)
                have hk5 : k5 ≤ 20 := by rw [← n1, hpp.2]; exact hN2
                have hk6 : k6 ≤ 20 := by rw [← n2, hqp.2]; exact hN2
                have R1 := Lib.hid ri1
                have R2 := Lib.hid ri2
                have N1 := Lib.hid n1
                have N2 := Lib.hid n2
                have d1 : decide ((j : Int) + 1 < (m8 : Int)) = true := by simp; omega
                have w1' : IntKind.i64.wrap ((j : Int) + 1) = (j : Int) + 1 := by rw [IntKind.wrap_i64]; omega
                have p0 : (0 : Int) ≤ j := by omega
                have p1 : (j : Int) < m8 := by omega
                have p2 : (0 : Int) ≤ (j : Int) + 1 := by omega
                have p3 : (j : Int) + 1 < m8 := by omega
                have hbw : b < wr.heap.size := hb5
                clear e51 e52 e61 e62 hp hq hpp hqp hlx ri1 ri2 n1 n2 hb5 hb6
                go_wp2_with fail
                go_region_held3 (fun w' => w'.cell? ⟨b, off + j, none⟩ = some (.slice A5 k5 c5) ∧ w'.cell? ⟨b, off + (j + 1), none⟩ = some (.slice A6 k6 c6))
                  (first | exact ⟨x1, x2⟩ | exact hS1 | go_keep)
                  (first
                    | (go_at_call 13; refine (specPermutationLess A5 A6 c5 c6 k5 k6 p q _ ?_ ?_ N1 N2 (by omega) (by omega) cc1 cc2).mono ?_; (exact R1.out); (exact R2.out); rintro e w9 ⟨rfl, b9'⟩; rw [Fin.out]
                       have b9 : Below wr.heap.size wr w9 := ⟨b9'.os, b9'.tape, b9'.output, b9'.size, b9'.block⟩
                       have hS1 := And.intro ((b9.cell (p := ⟨b, off + j, none⟩) hbw).trans x1) ((b9.cell (p := ⟨b, off + (j + 1), none⟩) hbw).trans x2)))
                have B9 : Hid (Below wl.heap.size wl w9) := Lib.hid (btr Bj.out b9)
                clear b9 hS1 x1 x2
                go_wp2_with fail
                go_roundg (m8 - (j + 1))
                case rel => exact ⟨j + 1, hjm, by omega, by go_num, B9.out⟩
                case measure => omega
              · have d1 : decide ((j : Int) + 1 < (m8 : Int)) = false := by simp; omega
                have Bw : Hid (Below w.heap.size w wr) := Lib.hid (btr B8.out Bj.out)
                go_wp2_with fail
                refine (IE k A1 m c vs xss A1 m c vs xss wr G9.out G9.out HB.out).mono ?_
                rintro e w10 ⟨b10, rfl, r10, bb10⟩
                obtain rfl : b10 = true := r10.2 Sam.out
                have B10 : Hid (Below w.heap.size w w10) := Lib.hid (btr Bw.out bb10)
                clear r10 bb10
                go_wp2_with fail
                go_ret
                exact ⟨rfl, B10.out⟩
          · obtain rfl : m8 = 0 := LN.out hV3
            have d3 : decide ((V : Int) ≤ 3000) = false := by simp; omega
            clear LV LN HV X8
            go_wp2_with fail
            obtain ⟨wl, rfl⟩ : ∃ wl, wl = wr := ⟨_, rfl⟩
            go_loopg [10] 1 (fun gg i wr => i = .int .i64 0 ∧ wr = wl)
            case atStart => exact ⟨rfl, rfl⟩
            case round =>
              obtain ⟨rfl, rfl⟩ := hrel
              go_wp2_with fail
              refine (IE k A1 m c vs xss A1 m c vs xss _ G8.out G8.out HB.out).mono ?_
              rintro e w10 ⟨b10, rfl, r10, bb10⟩
              obtain rfl : b10 = true := r10.2 Sam.out
              have B10 : Hid (Below w.heap.size w w10) := Lib.hid (btr B8.out bb10)
              clear r10 bb10
              go_wp2_with fail
              go_ret
              exact ⟨rfl, B10.out⟩
  · clear hb
    go_enter Try.func3, Try.ntmps3
    go_wp2_with fail
    refine (bigT4 A len cap w (by omega)).mono ?_
    rintro e w0 ⟨rfl, rfl⟩
    go_wp2_with fail
    go_ret
    exact ⟨rfl, Below.refl _ _⟩
end Go.Proofs.Ytbimhnifjnibjaa

/- The program's chain: what including one product leaves; the loop over an orbit; members with given entries found link by link. No Go in it. No condition. -/
namespace Go.Proofs.Ytbimhnifjnibjaa
open Go.RowKit

theorem nd_subP {l' : List Nat} : ∀ {l : List Nat}, l'.Nodup → (∀ x ∈ l', x ∈ l) → l'.length ≤ l.length := by
  induction l' with
  | nil => intro l _ _; simp
  | cons a t ih =>
    intro l hd h
    rw [List.nodup_cons] at hd
    have ha : a ∈ l := h a (by simp)
    have := ih (l := l.erase a) hd.2 fun x hx => by
      have hne : x ≠ a := fun e => hd.1 (e ▸ hx)
      exact (List.mem_erase_of_ne hne).2 (h x (by simp [hx]))
    rw [List.length_erase_of_mem ha] at this
    have h0 : 0 < l.length := List.length_pos_of_mem ha
    simp; omega
section
variable {N k : Nat} {c c' cj : Ch} {p q m : List Int} {O O' : List Nat}

/-- What including one product leaves. -/
structure Ic (N k : Nat) (c c' : Ch) (q : List Int) : Prop where
  low : Low N c' k
  grw : Grw k c c'
  gen : c'.gen k = c.gen k
  sv : Sv N c' k q
  mono : ∀ p, Sv N c k p → Sv N c' k p
theorem Ic.old (h : Low N c k) (hk : k < N) (h1 : 1 ≤ N) (h2 : N ≤ 20) (hq : Mb (c.gen k) N q) (hr : c.rep k (nx q k) ≠ []) (ha : Ap N (k + 1) c c' (compL q (iv (c.rep k (nx q k))))) : Ic N k c c' q :=
  have b := Bp.old h hk h1 h2 hq hr ha
  ⟨b.low, b.grw, b.gen, b.sv, b.mono⟩
theorem Ic.put (h : Low N c k) (hk : k < N) (h1 : 1 ≤ N) (h2 : N ≤ 20) (hq : Mb (c.gen k) N q) (hr : c.rep k (nx q k) = []) : Ic N k c (c.set k (nx q k) q) q := by
  obtain ⟨l1, g1⟩ := h.put hk h1 h2 hq hr
  have hp := hq.pn h.pn h1 h2
  have hne : q ≠ [] := by intro e; have := hp.2; rw [e] at this; simp at this; omega
  refine ⟨l1, g1, rfl, ?_, fun p hs => h.mono_sv l1 g1 hk (fun _ h => h) hs⟩
  have := l1.rep_sv hk (y := nx q k) (by rw [set_at]; exact hne)
  rw [set_at] at this; exact this

/-- The orbit lists the points that have a representative, each once. -/
def Orb (c : Ch) (k : Nat) (O : List Nat) : Prop := O.Nodup ∧ ∀ y, y ∈ O ↔ c.rep k y ≠ []
theorem Orb.congr (h : Orb c k O) (e : ∀ y, c'.rep k y = c.rep k y) : Orb c' k O := ⟨h.1, fun y => by rw [h.2, e]⟩
theorem Orb.put (h : Orb c k O) {y : Nat} (hr : c.rep k y = []) (hq : q ≠ []) : Orb (c.set k y q) k (O ++ [y]) := by
  refine ⟨List.nodup_append.2 ⟨h.1, by simp, fun a ha b hb e => ?_⟩, fun z => ?_⟩
  · rw [List.mem_singleton] at hb
    subst hb; subst e
    exact (h.2 a).1 ha hr
  · rw [List.mem_append, List.mem_singleton, h.2]
    by_cases e : z = y
    · subst e; rw [set_at]; exact ⟨fun _ => hq, fun _ => .inr rfl⟩
    · rw [set_ne (.inr e)]; exact ⟨fun h => h.resolve_right e, fun h => .inl h⟩
theorem Orb.lt (h : Orb c k O) (hr : RepOK N c k) {y : Nat} (hy : y ∈ O) : y < N := (hr.at_ y ((h.2 y).1 hy)).1
theorem Orb.len (h : Orb c k O) (hr : RepOK N c k) : O.length ≤ N := by
  have : O.length ≤ (List.range N).length := nd_subP h.1 fun y hy => List.mem_range.2 (h.lt hr hy)
  simpa using this

/-- Which generators the products of the t-th orbit point are formed with. -/
def gsA (kn : Nat) (gs : List (List Int)) (p : List Int) (t : Nat) : List (List Int) := if t < kn then [p] else gs
/-- The loop over the orbit: i points are done, of the next one j products. -/
structure Bf (N k : Nat) (c1 cj : Ch) (O : List Nat) (p : List Int) (kn i j : Nat) : Prop where
  low : Low N cj k
  grw : Grw k c1 cj
  gen : cj.gen k = c1.gen k
  mono : ∀ q, Sv N c1 k q → Sv N cj k q
  old : ∀ t, t < kn → c1.rep k (O.getD t 0) ≠ []
  len : kn ≤ O.length
  done : ∀ t, t < i → ∀ g ∈ gsA kn (c1.gen k) p t, Sv N cj k (compL (cj.rep k (O.getD t 0)) g)
  part : ∀ s, s < j → Sv N cj k (compL (cj.rep k (O.getD i 0)) ((gsA kn (c1.gen k) p i).getD s []))
theorem Bf.start {c1 : Ch} (h : Low N c1 k) (hO : Orb c1 k O) : Bf N k c1 c1 O p O.length 0 0 :=
  ⟨h, .refl _ _, rfl, fun _ h => h, fun t ht => (hO.2 _).1 (by rw [List.getD_eq_getElem?_getD, List.getElem?_eq_getElem ht]; exact List.getElem_mem _), Nat.le_refl _, fun t ht => absurd ht (by omega), fun t ht => absurd ht (by omega)⟩
theorem getD_pre {O O' : List Nat} (h : O <+: O') {t : Nat} (ht : t < O.length) : O'.getD t 0 = O.getD t 0 := by
  obtain ⟨l, rfl⟩ := h
  rw [List.getD_eq_getElem?_getD, List.getD_eq_getElem?_getD, List.getElem?_append_left ht]
theorem Bf.next {c1 : Ch} {kn i j : Nat} (h : Bf N k c1 cj O p kn i j) (hO : Orb cj k O) (hi : i < O.length) (hpre : O <+: O') (hc : Ic N k cj c' (compL (cj.rep k (O.getD i 0)) ((gsA kn (c1.gen k) p i).getD j []))) : Bf N k c1 c' O' p kn i (j + 1) := by
  have hrep : ∀ t, t < O.length → c'.rep k (O'.getD t 0) = cj.rep k (O.getD t 0) := fun t ht => by
    rw [getD_pre hpre ht]
    exact hc.grw.keep _ _ ((hO.2 _).1 (by rw [List.getD_eq_getElem?_getD, List.getElem?_eq_getElem ht]; exact List.getElem_mem _))
  refine ⟨hc.low, h.grw.trans hc.grw, by rw [hc.gen, h.gen], fun p hs => hc.mono _ (h.mono _ hs), fun t ht => by rw [getD_pre hpre (by have := h.len; omega)]; exact h.old t ht, Nat.le_trans h.len hpre.length_le, fun t ht g hg => ?_, fun s hs => ?_⟩
  · rw [hrep t (by omega)]; exact hc.mono _ (h.done t ht g hg)
  · rw [hrep i hi]
    rcases Nat.lt_or_ge s j with hl | hl
    · exact hc.mono _ (h.part s hl)
    · obtain rfl : s = j := by omega
      exact hc.sv
theorem Bf.round {c1 : Ch} {kn i : Nat} (h : Bf N k c1 cj O p kn i (gsA kn (c1.gen k) p i).length) : Bf N k c1 cj O p kn (i + 1) 0 := by
  refine ⟨h.low, h.grw, h.gen, h.mono, h.old, h.len, fun t ht g hg => ?_, fun s hs => absurd hs (by omega)⟩
  rcases Nat.lt_or_ge t i with hl | hl
  · exact h.done t hl g hg
  · obtain rfl : t = i := by omega
    obtain ⟨s, hs, rfl⟩ := mem_at hg
    exact h.part s hs
/-- The product that is formed next lies in the group of the level. -/
theorem Bf.mb {kn i j : Nat} (h : Bf N k (c.push k p) cj O p kn i j) (hO : Orb cj k O) (hi : i < O.length) (hj : j < (gsA kn ((c.push k p).gen k) p i).length) :
    Mb (cj.gen k) N (compL (cj.rep k (O.getD i 0)) ((gsA kn ((c.push k p).gen k) p i).getD j [])) ∧ Pn N (cj.rep k (O.getD i 0)) ∧ (gsA kn ((c.push k p).gen k) p i).getD j [] ∈ cj.gen k := by
  have hr : cj.rep k (O.getD i 0) ≠ [] := (hO.2 _).1 (by rw [List.getD_eq_getElem?_getD, List.getElem?_eq_getElem hi]; exact List.getElem_mem _)
  have hm : (gsA kn ((c.push k p).gen k) p i).getD j [] ∈ gsA kn ((c.push k p).gen k) p i := by
    rw [List.getD_eq_getElem?_getD, List.getElem?_eq_getElem hj]; exact List.getElem_mem _
  have hg : (gsA kn ((c.push k p).gen k) p i).getD j [] ∈ cj.gen k := by
    rw [h.gen]
    unfold gsA at hm ⊢
    by_cases e : i < kn
    · simp only [if_pos e] at hm ⊢
      rw [List.mem_singleton] at hm
      rw [hm, push_at]; simp
    · simp only [if_neg e] at hm ⊢; exact hm
  exact ⟨.mul (h.low.inn _ hr) hg, (h.low.rep.at_ _ hr).2.1, hg⟩
theorem Bf.all {kn : Nat} (h : UpTo N c k) (hk : k < N) (h1 : 1 ≤ N) (h2 : N ≤ 20) (hp : Pn N p) (hf : Fx k p) (hs : ¬ Sv N c k p) (hb : Bf N k (c.push k p) cj O p kn O.length 0) (hO : Orb cj k O) : Ap N k c cj p := by
  have hl := h.low hk h1 h2
  have hg1 : cj.gen k = c.gen k ++ [p] := by rw [hb.gen, push_at]
  have g0 : Grw k c (c.push k p) := ⟨fun _ _ _ => rfl, fun _ _ _ => rfl, fun i hi => push_ne (by omega)⟩
  have hG := g0.trans hb.grw
  have hat : ∀ y, cj.rep k y ≠ [] → ∃ t, t < O.length ∧ O.getD t 0 = y := fun y hy => by
    obtain ⟨t, ht, e⟩ := List.mem_iff_getElem.1 ((hO.2 y).2 hy)
    exact ⟨t, ht, by rw [List.getD_eq_getElem?_getD, List.getElem?_eq_getElem ht, ← e]; rfl⟩
  have hclose : ∀ y, cj.rep k y ≠ [] → ∀ g ∈ cj.gen k, Sv N cj k (compL (cj.rep k y) g) := fun y hy g hg => by
    obtain ⟨t, ht, et⟩ := hat y hy
    by_cases e : t < kn
    · have hc1 := hb.old t e
      rw [et] at hc1
      rw [hg1] at hg
      rcases List.mem_append.1 hg with hg | hg
      · rw [hG.keep _ _ hc1]
        refine hb.mono _ (Sv.congr (c := c) ?_ fun _ _ _ => rfl)
        exact (h.sv k (Nat.le_refl _) (by omega) _).2 (.mul (hl.inn y hc1) hg)
      · have := hb.done t ht g (by unfold gsA; rw [if_pos e]; exact hg)
        rw [et] at this; exact this
    · have := hb.done t ht g (by unfold gsA; rw [if_neg e, ← hb.gen]; exact hg)
      rw [et] at this; exact this
  have hid : c.rep k k ≠ [] := by rw [hl.rep.one]; intro e; have := idL_length N; rw [e] at this; simp at this; omega
  have hsv : Sv N cj k p := by
    have h3 := hclose k (by rw [hG.keep _ _ hid]; exact hid) p (by rw [hg1]; simp)
    rw [hG.keep _ _ hid, hl.rep.one, hp.idl] at h3
    exact h3
  have hcnt : cnt N c k < cnt N cj k := by
    have hle := cnt_mono (N := N) hG k
    rcases Nat.lt_or_ge (cnt N c k) (cnt N cj k) with hlt | hge
    · exact hlt
    · exfalso
      refine hs (sv_back hsv (Nat.le_refl _) fun j y hj hjN hy => (cnt_same hG hge hj hjN hy).symm)
  refine ⟨hb.low.whole hk h1 h2 hclose ?_, hG, fun q => by rw [hg1]⟩
  rw [hg1, List.length_append]
  have := h.len k (Nat.le_refl _) hk
  simp; omega
/-- At the last link everything that fixes the points before is known. -/
theorem sv_last (h : UpTo N c k) (hk : k + 1 = N) (h1 : 1 ≤ N) (h2 : N ≤ 20) (hp : Pn N p) (hf : Fx k p) : Sv N c k p := by
  have e : nx p k = k := by
    have a := hf.ge hp (by omega)
    have b := hp.lt (x := k) (by omega)
    omega
  have hid := (hf.succ e)
  rw [hk] at hid
  rw [hid.all hp]
  exact (sv_down (h.rep k (Nat.le_refl _) (by omega)) (by omega) (pn_id h1 h2) (fx_id (by omega)) (nx_id (by omega))).2 ((h.sv (k + 1) (by omega) (by omega) _).2 .one)

/-! ### members with given entries -/
theorem UpTo.stab (h : UpTo N c k) (h1 : 1 ≤ N) (h2 : N ≤ 20) {j : Nat} (hj : k ≤ j) (hjN : j ≤ N) (hp : Pn N p) (hf : Fx j p) : Sv N c k p ↔ Sv N c j p := by
  induction j with
  | zero => obtain rfl : k = 0 := by omega
            exact Iff.rfl
  | succ j ih =>
    by_cases e : k = j + 1
    · subst e; exact Iff.rfl
    · rw [ih (by omega) (by omega) (hf.mono (by omega))]
      exact sv_down (h.rep j (by omega) (by omega)) (by omega) hp (hf.mono (by omega)) (hf j (by omega))
theorem UpTo.gpn (h : UpTo N c k) (hk : k ≤ N) : ∀ g ∈ c.gen k, Pn N g := h.pn (Nat.le_refl _) hk
theorem UpTo.mfx (h : UpTo N c k) (h1 : 1 ≤ N) (h2 : N ≤ 20) (hk : k ≤ N) (hm : Mb (c.gen k) N p) : Fx k p := by
  rcases Nat.lt_or_ge k N with hl | hl
  · exact hm.fx (h.gp k (Nat.le_refl _) hl) h1 h2 hk
  · obtain rfl : k = N := by omega
    rw [h.top] at hm
    rw [hm.none_]; exact fx_id (Nat.le_refl _)
/-- A representative of a later link is a member of this one. -/
theorem UpTo.rep_mb (h : UpTo N c k) (h1 : 1 ≤ N) (h2 : N ≤ 20) {j y : Nat} (hj : k ≤ j) (hjN : j < N) (hy : c.rep j y ≠ []) : Mb (c.gen k) N (c.rep j y) := by
  obtain ⟨a1, a2, a3, a4⟩ := (h.rep j hj hjN).at_ y hy
  refine (h.sv k (Nat.le_refl _) (by omega) _).1 ((h.stab h1 h2 hj (by omega) a2 a3).2 ?_)
  exact ((h.mono hj).low hjN h1 h2).rep_sv hjN hy
/-- A member that has the given entries from k on, as far as j. -/
structure Mt (N : Nat) (c : Ch) (k : Nat) (vals : List Int) (m : List Int) (j : Nat) : Prop where
  kj : k ≤ j
  jN : j ≤ N
  pn : Pn N m
  mb : Mb (c.gen k) N m
  ag : ∀ i, k ≤ i → i < j → (nx m i : Int) = vals.getD i 0
  jl : j = k ∨ j ≤ vals.length
/-- No member has one entry more. -/
def NoM (N : Nat) (c : Ch) (k : Nat) (vals : List Int) (j : Nat) : Prop := j < N → j < vals.length → ∀ q, Mb (c.gen k) N q → ¬ ∀ i, k ≤ i → i ≤ j → (nx q i : Int) = vals.getD i 0
theorem Mt.start {vals : List Int} (h1 : 1 ≤ N) (h2 : N ≤ 20) (hk : k ≤ N) : Mt N c k vals (idL N) k :=
  ⟨Nat.le_refl _, hk, pn_id h1 h2, .one, fun i a b => absurd b (by omega), .inl rfl⟩
theorem Mt.step {vals : List Int} {j y : Nat} (h : Mt N c k vals m j) (hu : UpTo N c k) (h1 : 1 ≤ N) (h2 : N ≤ 20) (hj : j < N) (hl : j < vals.length) (hy : c.rep j y ≠ []) (hv : (nx m y : Int) = vals.getD j 0) : Mt N c k vals (compL (c.rep j y) m) (j + 1) := by
  obtain ⟨a1, a2, a3, a4⟩ := (hu.rep j h.kj hj).at_ y hy
  have hkj := h.kj
  refine ⟨by omega, by omega, a2.comp h.pn, (hu.rep_mb h1 h2 h.kj hj hy).comp (hu.gpn (by omega)) h1 h2 h.mb, fun i hi hij => ?_, .inr (by omega)⟩
  rcases Nat.lt_or_ge i j with hlt | hge
  · rw [a2.nxc (by omega), a3 i hlt]; exact h.ag i hi hlt
  · obtain rfl : i = j := by omega
    rw [a2.nxc hj, a4]; exact hv
theorem Mt.stop {vals : List Int} {j : Nat} (h : Mt N c k vals m j) (hu : UpTo N c k) (h1 : 1 ≤ N) (h2 : N ≤ 20) (hn : ∀ y, y < N → (nx m y : Int) = vals.getD j 0 → c.rep j y = []) : NoM N c k vals j := fun hj hl q hq hag => by
  have hkj := h.kj
  have hqp := hq.pn (hu.gpn (by omega)) h1 h2
  have hqf := hu.mfx h1 h2 (by omega) hq
  have hmf := hu.mfx h1 h2 (by omega) h.mb
  have hr := hqp.comp h.pn.iv
  have hfx : Fx j (compL q (iv m)) := fun i hi => by
    rw [hqp.nxc (by omega)]
    have e : nx q i = nx m i := by
      rcases Nat.lt_or_ge i k with hlt | hge
      · rw [hqf i hlt, hmf i hlt]
      · have a := hag i hge (by omega)
        have b := h.ag i hge hi
        omega
    rw [e, h.pn.nxi (by omega)]
  have hmb : Mb (c.gen k) N (compL q (iv m)) := hq.comp (hu.gpn (by omega)) h1 h2 (h.mb.inv (hu.gpn (by omega)) h1 h2)
  have hs := (hu.stab h1 h2 h.kj h.jN hr hfx).1 ((hu.sv k (Nat.le_refl _) (by omega) _).2 hmb)
  have h3 := (hs.inv_low hj).2.2.1
  rw [hqp.nxc hj] at h3
  have hlt := hqp.lt hj
  refine h3 (hn _ (h.pn.iv.lt hlt) ?_)
  rw [h.pn.nxi' hlt]
  exact hag j h.kj (Nat.le_refl _)
/-- Membership: all entries are found. -/
theorem Mt.mem {j : Nat} (h : Mt N c k p m j) (hn : NoM N c k p j) (hu : UpTo N c k) (h1 : 1 ≤ N) (h2 : N ≤ 20) (hk : k ≤ N) (hp : Pn N p) (hf : Fx k p) : j = N ↔ Mb (c.gen k) N p := by
  constructor
  · rintro rfl
    have hmf := hu.mfx h1 h2 hk h.mb
    have : m = p := h.pn.ext hp fun x hx => by
      rcases Nat.lt_or_ge x k with hlt | hge
      · rw [hmf x hlt, hf x hlt]
      · have a := h.ag x hge hx
        rw [nx_val hp.1 (by rw [hp.2]; exact hx)] at a
        omega
    rw [← this]; exact h.mb
  · intro hm
    rcases Nat.lt_or_ge j N with hl | hl
    · exfalso
      refine hn hl (by rw [hp.2]; exact hl) p hm fun i _ hi => ?_
      rw [nx_val hp.1 (by rw [hp.2]; omega)]
    · have := h.jN; omega
end
end Go.Proofs.Ytbimhnifjnibjaa
