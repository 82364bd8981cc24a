/- StabilizerOrder of the model. Conditions: at most 1048576 lists of at most 1048576 numbers. -/
import Derived.Test.YtooafmifbplbhaaStb
namespace Go.Proofs.Ytooafmifbplbhaa
open Go.RowKit

theorem Whole.pr_le {N : Nat} {gs : List (List Int)} {c : Ch} (h : Whole N gs c) (h1 : 1 ≤ N) (k : Nat) : ∀ m, k + m ≤ N → 1 ≤ pr (osL N c N) k m ∧ pr (osL N c N) k m ≤ (facts N (k + m) : Int)
  | 0, hm => by
    have := facts_pos (N := N) (m := k) (by omega)
    exact ⟨Int.le_refl _, by show (1 : Int) ≤ (facts N (k + 0) : Int); rw [Nat.add_zero]; omega⟩
  | m + 1, hm => by
    obtain ⟨a, b⟩ := h.pr_le h1 k m (by omega)
    obtain ⟨d, e⟩ := h.nr_pos h1 (i := k + m) (by omega)
    have ex : pr (osL N c N) k (m + 1) = pr (osL N c N) k m * (nr N c (k + m) N : Int) := by
      show _ * (osL N c N).getD (k + m) 0 = _
      rw [osL_at (by omega)]
    rw [ex]
    refine ⟨?_, ?_⟩
    · have := Int.mul_le_mul a (show (1 : Int) ≤ (nr N c (k + m) N : Int) by omega) (by omega) (by omega)
      simpa using this
    · have := Int.mul_le_mul b (show (nr N c (k + m) N : Int) ≤ ((N - (k + m) : Nat) : Int) by omega) (by omega) (by omega)
      show _ ≤ ((facts N (k + m) * (N - (k + m)) : Nat) : Int)
      rw [Int.natCast_mul]; exact this
theorem take_cj {gs : List (List Int)} {o : List Int} {k : Nat} {y : List Int} (hk : k < gs.length) (ey : gs.getD k [] = y) : (gs.take (k + 1)).map (cj o) = (gs.take k).map (cj o) ++ [cj o y] := by
  rw [List.getD_eq_getElem?_getD, List.getElem?_eq_getElem hk] at ey
  have e' : gs[k] = y := ey
  rw [List.take_succ_eq_append_getElem hk, List.map_append, e']; rfl

/-- One slice more on a slice of slices of the call's own. -/
theorem SS.snocV {w w' : World} {base bi n c : Nat} {A : Option Addr} {vs : List SV} {xss : List (List Int)} {A' : Option Addr} {c' : Nat} {d : SV} {ys : List Int} (hss : SS w base bi A n c vs xss) (hys : Slc w bi d.1 d.2.1 d.2.2 ys)
    (hdis : ∀ i, i < n → (sval (vs.getD i sd0)).ownBlock = none ∨ (sval (vs.getD i sd0)).ownBlock ≠ (sval d).ownBlock) (hown : w'.ownsRow base 25 1 (.slice A' (n + 1) c') (n + 1) (vs.map sval ++ [sval d])) (hg : w.grownBy w' (Value.slice A n c).ownBlock) :
    SS w' base bi A' (n + 1) c' (vs ++ [d]) (xss ++ [ys]) := by
  refine ⟨?_, by simp [hss.lv], by simp [hss.lx], fun i hi' => ?_, fun i j hij hj => ?_⟩
  · rw [List.map_append]; exact hown
  · by_cases e : i < n
    · rw [getD_app _ _ _ _ (by rw [hss.lv]; exact e), getD_app _ _ _ _ (by rw [hss.lx]; exact e)]
      exact (hss.row i e).kept hg (apart_types (hss.row i e) hss.own)
    · obtain rfl : i = n := by omega
      rw [getD_snoc _ _ _ _ hss.lv.symm, getD_snoc _ _ _ _ hss.lx.symm]
      exact hys.kept hg (apart_types hys hss.own)
  · rw [getD_app _ _ _ i (by rw [hss.lv]; omega)]
    by_cases e : j < n
    · rw [getD_app _ _ _ j (by rw [hss.lv]; exact e)]; exact hss.dis i j hij e
    · obtain rfl : j = n := by omega
      rw [getD_snoc _ _ _ _ hss.lv.symm]
      exact hdis i hij
set_option maxHeartbeats 4000000 in
set_option maxRecDepth 100000 in
theorem specStabilizerOrder (a : Int) (A : Option Addr) (n c : Nat) (vs : List SV) (xss : List (List Int)) (w : World) (P : Option Addr) (np cp : Nat) (pts : List Int) (hx : RR w w.heap.size A n vs xss) (hn : n ≤ 1048576) (hl : Hid (∀ i, i < n → (vs.getD i sd0).2.1 ≤ 1048576)) (hp : RI w w.heap.size P pts) (lp : Hid (pts.length = np)) (hnp : np ≤ 1048576) (ha : -9223372036854775808 ≤ a ∧ a ≤ 9223372036854775807) :
    Calls Try.prog 43 #[.int .i64 a, .slice A n c, .slice P np cp] w fun e w' => ∃ v, e = .returned (.int .i64 v) ∧ IsStb a xss pts v ∧ Below w.heap.size w w' := by
  have HX := Lib.hid hx
  have HP := Lib.hid hp
  have hlx : Hid (xss.length = n) := Lib.hid hx.lx
  clear hx hp
  go_enter Try.func43, Try.ntmps43
  go_wp2_with fail
  refine (specGS a A n c vs xss w HX.out hn hl ha).mono ?_
  rintro e w1 ⟨rfl, b1⟩
  have B1 := Lib.hid b1
  have X1 := Lib.hid (HX.out.up b1)
  have P1 := Lib.hid (HP.out.up b1)
  clear b1
  rcases hs : gB a xss with _ | _
  · have Fin : Hid (IsStb a xss pts 0) := Lib.hid (.inr ⟨fun h => by rw [hs] at h; exact absurd h.1 (by decide), rfl⟩)
    clear hs
    go_wp2_with fail
    go_ret
    exact ⟨0, rfl, Fin.out, B1.out⟩
  · obtain ⟨N, rfl, hN1, hN2, hg8, hpm, hok⟩ := gB_pm hs
    have Hs := Lib.hid hs
    have Ok := Lib.hid hok
    have hn8 : n ≤ 8 := by rw [← hlx.out]; exact hg8
    clear hs hpm hok hg8
    go_wp2_with fail
    refine (specIsPS N np cp P pts w1 P1.out lp hN1 hN2 hnp).mono ?_
    rintro e w2 ⟨ans, rfl, hans, m, hw2⟩
    have b2 : Below w1.heap.size w1 w2 := by rw [hw2]; exact drewN_below _ _
    have X2 := Lib.hid (X1.out.up b2)
    have P2 := Lib.hid (P1.out.up b2)
    have B2 : Hid (Below w.heap.size w w2) := Lib.hid (btr B1.out b2)
    clear b2 hw2
    rcases ans with _ | _
    · have Fin : Hid (IsStb (N : Int) xss pts 0) := Lib.hid (.inr ⟨fun h => (by have := hans.2 (by have := h.2; rw [Int.toNat_natCast] at this; exact this); cases this), rfl⟩)
      clear hans
      go_wp2_with fail
      go_ret
      exact ⟨0, rfl, Fin.out, B2.out⟩
    · have hPt := hans.1 rfl
      have Pt := Lib.hid hPt
      have hnN : np ≤ N := by rw [← lp.out]; exact hPt.1
      have hM : Hid (Pn N (mtf pts N)) := Lib.hid (hPt.mtf_pn hN1 hN2)
      clear hans hPt
      go_wp2_with fail
      refine (specMtf N np cp P pts w2 P2.out lp hN2 (by omega)).mono ?_
      rintro e w3 ⟨A3, m3, c3, rfl, s3, b3⟩
      obtain rfl : m3 = N := by rw [← s3.1]; exact hM.out.2
      have S3 := Lib.hid s3
      have X3 := Lib.hid (X2.out.up b3)
      have P3 := Lib.hid (P2.out.up b3)
      have B3 : Hid (Below w.heap.size w w3) := Lib.hid (btr B2.out b3)
      clear s3 b3
      go_wp2_with fail
      refine (specInv A3 c3 m3 (mtf pts m3) w3 S3.out.ri_ (Lib.hid hM.out.2) (Lib.hid hM.out.1) hN2).mono ?_
      rintro e w4 ⟨A4, c4, rfl, s4, b4⟩
      obtain ⟨o, ho⟩ : ∃ o, iv (mtf pts m3) = o := ⟨_, rfl⟩
      have HO := Lib.hid ho
      have OP : Hid (Pn m3 o) := Lib.hid (by rw [← ho]; exact hM.out.iv)
      have S4 : Hid (Slc w4 w3.heap.size A4 m3 c4 o) := Lib.hid (by rw [← ho]; unfold iv; rw [hM.out.2]; exact s4)
      have X4 := Lib.hid (X3.out.up b4)
      have B4 : Hid (Below w.heap.size w w4) := Lib.hid (btr B3.out b4)
      clear s4 b4 ho
      go_wp2_with fail
      go_loopw [8, 9] (fun v i wr => ∃ k A' c' us, k ≤ n ∧ i = .int .i64 (k : Nat) ∧ v = .slice A' k c' ∧ SS wr w4.heap.size w4.heap.size A' k c' us ((xss.take k).map (cj o)) ∧ Below w4.heap.size w4 wr) (fun _ i _ => n - (intOf i).toNat)
      case atStart => exact ⟨0, _, _, [], Nat.zero_le _, rfl, rfl, by rw [List.take_zero]; exact SS.lit0 w4 _ _ (Nat.le_refl _), (Below.refl _ _).alloc (Nat.le_refl _) _⟩
      case round =>
        obtain ⟨k, A', c', us, hk, rfl, rfl, ss, bel⟩ := hrel
        have Ss := Lib.hid ss
        have Be := Lib.hid bel
        have S5 := Lib.hid (S4.out.up bel)
        have X5 := Lib.hid (X4.out.up bel)
        have hz4 := bel.size
        clear ss bel
        by_cases hlt : k < n
        · obtain ⟨b, off, A5, l, c5, y, rfl, hb, ev, ey, hc0, hr0, hy, hlc⟩ := X5.out.at_ hlt
          have hyP := Ok.out y (by rw [← ey]; exact getD_memL (by rw [hlx.out]; exact hlt))
          obtain rfl : l = m3 := by omega
          have R5 := Lib.hid hr0
          have Yp : Hid (Pn l y) := Lib.hid hyP
          have Tk := Lib.hid (take_cj (o := o) (k := k) (by rw [hlx.out]; exact hlt) ey)
          have Hb := Lib.hid hb
          have Hc := Lib.hid hc0
          have q0 : (0 : Int) ≤ k := by omega
          have q1 : (k : Int) < n := by omega
          clear ev ey hr0 hy hyP hb
          go_wp2_with fail
          have S5d : Hid (RI wr.drew wr.drew.heap.size A4 o) := Lib.hid S5.out.ri_
          go_region_law (first
            | (refine step_appV rfl (.tmp 34) (.tmp 44) rfl w4.heap.size (.slice A' k c') k (us.map sval) ?_ ((Ss9.out.alloc (.cells #[.slice A9 l c9] 25)).own) w9.heap.size (A9, l, c9) ?_ ((Blk.new w9 _ _).cell 0) ?_ ?_ ?_; (simp [Act.eval, Act.put]); (simp [Act.eval, Act.put]); (omega); (have hz := B9.out.size; simp; omega); (intro A10 c10 w10 o10 g10 h10))
            | (go_simp; go_wp2_with (first
              | (go_at_call 73; refine (specInv A4 c4 l o wr.drew S5d.out (Lib.hid OP.out.2) (Lib.hid OP.out.1) hN2).mono ?_; rintro e w7 ⟨A7, c7, rfl, s7, b70⟩
                 have b7 : Below wr.heap.size wr w7 := below_undrew b70
                 have S7 : Hid (Slc w7 wr.heap.size A7 l c7 (iv o)) := Lib.hid (by unfold iv; rw [OP.out.2]; exact s7)
                 have cc7 : w7.cell? ⟨b, off + k, none⟩ = some (.slice A5 l c5) := (b7.cell (p := ⟨b, off + k, none⟩) Hb.out).trans Hc.out
                 have R7 : Hid (RI w7 w7.heap.size A5 y) := Lib.hid ((R5.out.below b7 (Nat.le_refl _)).more b7.size)
                 have B7 := Lib.hid b7
                 clear s7 b7 b70)
              | (go_at_call 62; (first
                 | (refine (specComp A8 A4 c8 c4 l (compL (iv o) y) o w8 S8.out O8.out (Lib.hid (OP.out.iv.comp Yp.out).2) (Lib.hid OP.out.2) (Lib.hid (OP.out.iv.comp Yp.out).1) hN2).mono ?_; rintro e w9 ⟨A9, c9, rfl, s9, b9⟩)
                 | (refine (specComp A8 A4 c8 c4 l (compL (iv o) y) o w8.drew S8.out O8.out (Lib.hid (OP.out.iv.comp Yp.out).2) (Lib.hid OP.out.2) (Lib.hid (OP.out.iv.comp Yp.out).1) hN2).mono ?_; rintro e w9 ⟨A9, c9, rfl, s9, b90⟩; have b9 : Below w8.heap.size w8 w9 := below_undrew b90; clear b90))
                 have B9 : Hid (Below wr.heap.size wr w9) := Lib.hid (btr B8.out b9)
                 have S9 : Hid (Slc w9 wr.heap.size A9 l c9 (cj o y)) := Lib.hid (s9.mono B8.out.size)
                 have Ss9 := Lib.hid (Ss.out.up B9.out)
                 clear s9 b9)
              | (go_at_call 62; (first
                 | (refine (specComp A7 A5 c7 c5 l (iv o) y w7 S7.out.ri_ R7.out (Lib.hid OP.out.iv.2) (Lib.hid Yp.out.2) (Lib.hid OP.out.iv.1) hN2).mono ?_; rintro e w8 ⟨A8, c8, rfl, s8, b8⟩)
                 | (refine (specComp A7 A5 c7 c5 l (iv o) y w7.drew S7.out.ri_ R7.out (Lib.hid OP.out.iv.2) (Lib.hid Yp.out.2) (Lib.hid OP.out.iv.1) hN2).mono ?_; rintro e w8 ⟨A8, c8, rfl, s8, b80⟩; have b8 : Below w7.heap.size w7 w8 := below_undrew b80; clear b80))
                 have S8 : Hid (RI w8 w8.heap.size A8 (compL (iv o) y)) := Lib.hid s8.ri_
                 have B8 : Hid (Below wr.heap.size wr w8) := Lib.hid (btr B7.out b8)
                 have O8 : Hid (RI w8 w8.heap.size A4 o) := Lib.hid (S5.out.up B8.out).ri_
                 clear s8 b8))))
          all_goals
            have D9 : ∀ i, i < k → (sval (us.getD i sd0)).ownBlock = none ∨ (sval (us.getD i sd0)).ownBlock ≠ (sval (A9, l, c9)).ownBlock := lies_dis (w := wr) Ss.out S9.out.lies (Nat.le_refl _)
            have Ss10 : Hid (SS w10 w4.heap.size w4.heap.size A10 (k + 1) c10 (us ++ [(A9, l, c9)]) ((xss.take (k + 1)).map (cj o))) := Lib.hid (by rw [Tk.out]; exact (Ss9.out.alloc _).snocV (d := (A9, l, c9)) ((S9.out.mono hz4).alloc _) D9 o10 g10)
            have B10 : Hid (Below w4.heap.size w4 w10) := Lib.hid (((btr Be.out B9.out).alloc (btr Be.out B9.out).size _).grown g10 (by have := (btr Be.out B9.out).size; simp; omega) (fun j hj => (Ss.out.lt_ j hj).1))
            clear o10 g10 h10 D9
            go_wp2_with fail
            go_roundw
            case rel => exact ⟨k + 1, A10, c10, _, by omega, by go_num, rfl, Ss10.out, B10.out⟩
            case measure => simp [intOf]; omega
        · obtain rfl : k = n := by omega
          have OkM : Hid (∀ g ∈ xss.map (cj o), IsP g ∧ g.length = m3) := Lib.hid fun g hg => by
            obtain ⟨p, hp, rfl⟩ := List.mem_map.1 hg
            exact cj_pn OP.out (Ok.out p hp)
          have Sm : Hid (SS wr w4.heap.size w4.heap.size A' k c' us (xss.map (cj o))) := Lib.hid (by have := Ss.out; rwa [List.take_of_length_le (by rw [hlx.out]; exact Nat.le_refl _)] at this)
          have B5 : Hid (Below w.heap.size w wr) := Lib.hid (btr B4.out Be.out)
          clear Ss
          go_wp2_with fail
          refine (specBuild m3 k c' A' us (xss.map (cj o)) wr Sm.out.rr hN1 hN2 hn8 OkM).mono ?_
          rintro e w6 ⟨g, L, ch, rfl, hc6, hw6, b6⟩
          have C6 := Lib.hid hc6
          have W6 := Lib.hid hw6
          have B6 : Hid (Below w.heap.size w w6) := Lib.hid (btr B5.out b6)
          clear hc6 hw6 b6
          go_wp2_with fail
          refine (specSizes wr.heap.size g m3 ch L _ w6 C6.out W6.out hN1 hN2).mono ?_
          rintro e w7 ⟨A7, c7, rfl, s7, b7⟩
          have S7 := Lib.hid s7
          have B7 : Hid (Below w.heap.size w w7) := Lib.hid (btr B6.out b7)
          clear s7 b7
          have Fin : Hid (IsStb (m3 : Int) xss pts (pr (osL m3 ch m3) np (m3 - np))) := Lib.hid (by
            have h1 := W6.out.os hN1 hN2
            rw [← HO.out] at h1
            obtain ⟨v, hc, e⟩ := cj_card (pts := pts) hM.out Ok.out h1 (by rw [lp.out]; exact hnN) (fun j hj => mtf_pre m3 hj)
            rw [lp.out] at e
            exact .inl ⟨Hs.out, by rw [Int.toNat_natCast]; exact Pt.out, v, by rw [Int.toNat_natCast]; exact hc, e⟩)
          go_wp2_with fail
          go_loop [11, 12] (fun o i => ∃ k : Nat, np ≤ k ∧ k ≤ m3 ∧ i = .int .i64 (k : Nat) ∧ o = .int .i64 (pr (osL m3 ch m3) np (k - np))) (fun _ i => m3 - (intOf i).toNat)
          case atStart => exact ⟨np, Nat.le_refl _, hnN, rfl, by rw [Nat.sub_self]; rfl⟩
          case round =>
            obtain ⟨k, hk0, hk, rfl, rfl⟩ := hrel
            by_cases hlt : k < m3
            · obtain ⟨b, off, rfl, hb, hcell⟩ := S7.out.ri_ (by rw [S7.out.1]; omega)
              have x1 := hcell k (by rw [S7.out.1]; exact hlt)
              rw [osL_at hlt] at x1
              have pl := W6.out.pr_le hN1 np (k - np + 1) (by omega)
              have pf := facts_le hN2 (np + (k - np + 1)) (by omega)
              have e1 : pr (osL m3 ch m3) np (k - np + 1) = pr (osL m3 ch m3) np (k - np) * (nr m3 ch k m3 : Int) := by
                show _ * (osL m3 ch m3).getD (np + (k - np)) 0 = _
                rw [show np + (k - np) = k by omega, osL_at hlt]
              rw [e1] at pl
              have wr1 : IntKind.i64.wrap (pr (osL m3 ch m3) np (k - np) * (nr m3 ch k m3 : Int)) = pr (osL m3 ch m3) np (k - np) * (nr m3 ch k m3 : Int) := by rw [IntKind.wrap_i64]; omega
              have E1 := Lib.hid e1
              have q0 : (0 : Int) ≤ k := by omega
              have q1 : (k : Int) < m3 := by omega
              clear hb hcell pl pf e1
              go_wp2_with fail
              go_round
              case rel => exact ⟨k + 1, by omega, by omega, by go_num, by rw [show k + 1 - np = k - np + 1 by omega, E1.out]⟩
              case measure => simp [intOf]; omega
            · obtain rfl : k = m3 := by omega
              go_wp2_with fail
              go_ret
              exact ⟨_, rfl, Fin.out, B7.out⟩
end Go.Proofs.Ytooafmifbplbhaa
