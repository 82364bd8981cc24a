/- Part 4 of the texts: PbA, SpA, Rnk, Cos, Der, RkS, SbS, BlS, SpD, Shelf, Row, OrF, OrS, Orb1, ItG. No condition of its own: each text tells its own. -/
import Derived.Test.YtedfcljikgmpgaaGreatMg3
import Derived.Test.YtedfcljikgmpgaaGreatMg2
import Derived.Test.YtedfcljikgmpgaaGreatMg1
import Derived.BigQuiet
import Derived.StillTailTactics
import Derived.Shelf.SortM.Plain
import Derived.Shelf.SlicesE.Equal
import Derived.Shelf.SlicesE.IndexFunc
import Derived.Shelf.SlSortCmp.Whole1
import Derived.Test.YtedfcljikgmpgaaGreatProg
import Derived.Sort.Grow
import Derived.Deep.LoopGhost
import Derived.RangeFuncNested
import Derived.RangeFuncBound
import Derived.RangeFuncCalls
import Derived.RangeFuncLeaves
import Derived.OwnWalkIn
import Derived.TacticsInMore
import Derived.LoopNIn
import Derived.LoopIn
set_option linter.unusedVariables false
set_option linter.unusedSimpArgs false

/- The program's isPartition. Conditions: at most 1048576 lists of at most 1048576 numbers. -/
namespace Go.Proofs.YtedfcljikgmpgaaGreat
open Go.RowKit

section
variable {N : Nat} {bl : List (List Int)}
theorem okB_hd (h : ∀ i, i < bl.length → OkB N bl i) : ∀ j, j < bl.length → (j : Int) ≤ (bl.getD j []).getD 0 0 ∧ (bl.getD j []).getD 0 0 < N := by
  intro j
  have hin : ∀ j, j < bl.length → 0 ≤ (bl.getD j []).getD 0 0 ∧ (bl.getD j []).getD 0 0 < N := fun j hj => by
    have ho := h j hj
    have := ho.2.1.2 0 (List.length_pos_iff.2 ho.1)
    exact ⟨this.1, this.2.1⟩
  induction j with
  | zero => intro hj; have := hin 0 hj; omega
  | succ j ih =>
    intro hj
    have h1 := ih (by omega)
    have h2 := (h (j + 1) hj).2.2 (by omega)
    rw [Nat.add_sub_cancel] at h2
    have := hin (j + 1) hj
    omega
theorem okB_len (h : ∀ i, i < bl.length → OkB N bl i) : bl.length ≤ N := by
  rcases Nat.eq_zero_or_pos bl.length with e | e
  · omega
  · have := okB_hd h (bl.length - 1) (by omega)
    omega
theorem okB_mem (h : ∀ i, i < bl.length → OkB N bl i) {x : Int} (hx : x ∈ bl.flatten) : 0 ≤ x ∧ x < N := by
  obtain ⟨b, hb, hx⟩ := List.mem_flatten.1 hx
  obtain ⟨i, hi, rfl⟩ := List.mem_iff_getElem.1 hb
  have := (h i hi).2.1
  rw [getD_L hi] at this
  exact this.mem hx
theorem prt_isP (h : ∀ i, i < bl.length → OkB N bl i) (h1 : 1 ≤ N) (h2 : N ≤ 20) : Prt N bl ↔ (bl.flatten.length = N ∧ isP bl.flatten = true) := by
  constructor
  · rintro ⟨_, hd, hl⟩
    refine ⟨hl, isP_iff.2 ⟨by omega, by omega, fun i hi => ?_, fun i hi => ?_, fun i j hi hj e => ?_⟩⟩
    · rw [getD_eq hi]; exact (okB_mem h (List.getElem_mem hi)).1
    · rw [getD_eq hi, hl]; exact (okB_mem h (List.getElem_mem hi)).2
    · rw [getD_eq hi, getD_eq hj] at e
      rcases Nat.lt_trichotomy i j with hlt | hlt | hlt
      · exact absurd e ((List.pairwise_iff_getElem.1 hd) i j hi hj hlt)
      · exact hlt
      · exact absurd e.symm ((List.pairwise_iff_getElem.1 hd) j i hj hi hlt)
  · rintro ⟨hl, hp⟩
    have hp := isP_iff.1 hp
    refine ⟨h, List.pairwise_iff_getElem.2 fun i j hi hj hij e => ?_, hl⟩
    have := hp.inj i j hi hj (by rw [getD_eq hi, getD_eq hj, e])
    omega
end
theorem flat_take {bl : List (List Int)} {k : Nat} (h : k < bl.length) : (bl.take (k + 1)).flatten = (bl.take k).flatten ++ bl.getD k [] := by
  rw [List.take_succ_eq_append_getElem h, List.flatten_append, getD_L h]; simp
theorem flat_tot {w : World} {B n : Nat} {A : Option Addr} {vs : List SV} {bl : List (List Int)} (h : RR w B A n vs bl) : ∀ k, k ≤ n → tot vs k = (bl.take k).flatten.length := by
  intro k
  induction k with
  | zero => intro _; rfl
  | succ k ih =>
    intro hk
    rw [tot_succ, ih (by omega), flat_take (by rw [h.lx]; omega), List.length_append, h.lens k (by omega)]

set_option maxHeartbeats 1000000 in
theorem growNone (w : World) : Calls Tryz.prog 74 #[.slice none 0 0, .int .i64 (0 : Nat)] w fun e w' => e = .returned (.slice none 0 0) ∧ w = w' := by
  go_enter Tryz.func74, Tryz.ntmps74
  go_wp2
  go_ret
  exact ⟨rfl, rfl⟩
theorem growAny (T : Nat) (w : World) (h2 : T ≤ 1048576) :
    Calls Tryz.prog 74 #[.slice none 0 0, .int .i64 (T : Nat)] w fun e w' => ∃ A' c', e = .returned (.slice A' 0 c') ∧ Slc w' w.heap.size A' 0 c' [] ∧ Below w.heap.size w w' := by
  rcases Nat.eq_zero_or_pos T with rfl | h1
  · refine (growNone w).mono ?_
    rintro e w1 ⟨rfl, rfl⟩
    exact ⟨_, _, rfl, Slc.nil_, Below.refl _ _⟩
  · refine (growNil T w h1 h2).mono ?_
    rintro e w1 ⟨g, c', rfl, s, b⟩
    exact ⟨_, _, rfl, s, b⟩
set_option maxHeartbeats 4000000 in
set_option maxRecDepth 100000 in
/-- slices.Concat of short lists. -/
theorem implConcatR (A : Option Addr) (n c : Nat) (vs : List SV) (bl : List (List Int)) (w : World) (hx : RR w w.heap.size A n vs bl) (hn : n ≤ 20) (hl : Hid (∀ i, i < n → (vs.getD i sd0).2.1 ≤ 20)) :
    Calls Tryz.prog 65 #[.slice A n c] w fun e w' => ∃ A' c', e = .returned (.slice A' bl.flatten.length c') ∧ Slc w' w.heap.size A' bl.flatten.length c' bl.flatten ∧ bl.flatten.length ≤ 400 ∧ Below w.heap.size w w' := by
  have HX := Lib.hid hx
  have hT : ∀ k, k ≤ n → tot vs k ≤ 400 := fun k hk => by
    have h1 := tot_mono (vs := vs) hk
    have h2 := tot_le_mul (vs := vs) (n := n) (m := 20) hl.out
    have h3 : n * 20 ≤ 400 := by omega
    omega
  have HT := Lib.hid hT
  have Fl := Lib.hid (flat_tot hx)
  have Ln : Hid (bl.length = n) := Lib.hid hx.lx
  have Fn : Hid (tot vs n = bl.flatten.length) := Lib.hid (by
    rw [Fl.out n (Nat.le_refl _), List.take_of_length_le (by rw [Ln.out]; exact Nat.le_refl _)])
  clear hx hT
  go_enter Tryz.func65, Tryz.ntmps65
  go_wp2_with fail
  go_loopw [3, 5, 11] (fun s _ i wr => (∃ (k T : Nat), k ≤ n ∧ i = .int .i64 (k : Nat) ∧ Hid (tot vs k = T) ∧ s = .int .i64 (T : Nat)) ∧ w = wr) (fun _ _ i _ => n - (intOf i).toNat)
  case atStart => exact ⟨⟨0, 0, Nat.zero_le _, rfl, Lib.hid rfl, rfl⟩, rfl⟩
  case round =>
    obtain ⟨⟨k, T, hk, rfl, hT, rfl⟩, rfl⟩ := hrel
    have hT4 : T ≤ 400 := by rw [← hT.out]; exact HT.out k hk
    by_cases hlt : k < n
    · obtain ⟨b5, o5, A5, l, c5, y, rfl, hb5, ev, ey, x1, ri, ly, hlc⟩ := HX.out.at_ hlt
      have hl20 := hl.out k hlt
      rw [ev] at hl20
      have hl21 : l ≤ 20 := hl20
      have hT2 : Hid (tot vs (k + 1) = T + l) := Lib.hid (by rw [tot_succ, hT.out, ev])
      have hw : IntKind.i64.wrap ((T : Int) + (l : Int)) = ((T + l : Nat) : Int) := by rw [IntKind.wrap_i64]; omega
      have d0 : decide (((T + l : Nat) : Int) < 0) = false := by simp; omega
      clear ev ey ri ly hl20 hb5
      go_wp2_with fail
      go_roundw
      case rel => exact ⟨⟨k + 1, T + l, by omega, by go_num, hT2, rfl⟩, trivial⟩
      case measure => simp [intOf]; omega
    · obtain rfl : k = n := by omega
      go_wp2_with fail
      refine (growAny T w (by omega)).mono ?_
      rintro e w1 ⟨A1, c1, rfl, s1, b1⟩
      have S1 := Lib.hid s1
      have B1 := Lib.hid b1
      clear s1 b1
      go_wp2_with fail
      go_loopw [6, 8, 27] (fun v _ i wr => ∃ (j L : Nat) (A1 : Option Addr) (c1 : Nat) (xs : List Int), j ≤ k ∧ i = .int .i64 (j : Nat) ∧ v = .slice A1 L c1 ∧ Hid (tot vs j = L ∧ xs = (bl.take j).flatten) ∧ Slc wr w.heap.size A1 L c1 xs ∧ Below w.heap.size w wr) (fun _ _ i _ => k - (intOf i).toNat)
      case atStart => exact ⟨0, 0, _, _, [], Nat.zero_le _, rfl, rfl, Lib.hid ⟨rfl, rfl⟩, S1.out, B1.out⟩
      case round =>
        clear S1 B1
        obtain ⟨j, L, A1, c2, xs, hj, rfl, rfl, hxs, hs, bel⟩ := hrel
        have Ss := Lib.hid hs
        have Be := Lib.hid bel
        have hz := bel.size
        have hL4 : L ≤ 400 := by rw [← hxs.out.1]; exact HT.out j hj
        clear hs bel
        by_cases hlt : j < k
        · obtain ⟨b5, o5, A5, l, c5, y, rfl, hb5, ev, ey, x1, ri, ly, hlc⟩ := (HX.out.up Be.out).at_ hlt
          have hl20 := hl.out j hlt
          rw [ev] at hl20
          have hl21 : l ≤ 20 := hl20
          have Hx2 : Hid (tot vs (j + 1) = L + l ∧ xs ++ y = (bl.take (j + 1)).flatten) := Lib.hid ⟨by rw [tot_succ, hxs.out.1, ev], by rw [flat_take (by rw [Ln.out]; exact hlt), ey, hxs.out.2]⟩
          have Ri := Lib.hid ri
          have Ly := Lib.hid ly
          clear ev ey ri ly hl20 hb5
          go_wp2_with (first | (at_builtin; refine wpList_appA rfl _ _ rfl w.heap.size A1 L c2 xs rfl Ss.out A5 l c5 y rfl Ri.out Ly.out (by omega) hz ?_; intro A3 c3 w3 s3 g3))
          have S3 := Lib.hid s3
          have B3 : Hid (Below w.heap.size w w3) := Lib.hid (Be.out.grown g3 hz (fun j hj => (Ss.out.lt_ j hj).1))
          clear s3 g3
          go_wp2_with fail
          go_roundw
          case rel => exact ⟨j + 1, L + l, A3, c3, _, by omega, by go_num, rfl, Hx2, S3.out, B3.out⟩
          case measure => simp [intOf]; omega
        · obtain rfl : j = k := by omega
          have ex : Hid (xs = bl.flatten ∧ L = bl.flatten.length) := Lib.hid ⟨by rw [hxs.out.2, List.take_of_length_le (by rw [Ln.out]; exact Nat.le_refl _)], by rw [← hxs.out.1]; exact Fn.out⟩
          go_wp2_with fail
          go_ret
          refine ⟨A1, c2, ?_, ?_, ?_, Be.out⟩
          · rw [← ex.out.2]; rfl
          · rw [← ex.out.2, ← ex.out.1]; exact Ss.out
          · rw [← ex.out.2]; exact hL4

/-- What isPartition answers. -/
def IsPrt (a : Int) (bl : List (List Int)) (b : Bool) : Prop := b = true ↔ (1 ≤ a ∧ a ≤ 20) ∧ Prt a.toNat bl
set_option maxHeartbeats 4000000 in
set_option maxRecDepth 100000 in
/-- isPartition. -/
theorem implPart (a : Int) (A : Option Addr) (n c : Nat) (vs : List SV) (bl : List (List Int)) (w : World) (g : GIn w A n vs bl) :
    Calls Tryz.prog 49 #[.int .i64 a, .slice A n c] w fun e w' => ∃ ans, e = .returned (.bool ans) ∧ IsPrt a bl ans ∧ Below w.heap.size w w' := by
  have HX := Lib.hid g.rr
  have hlx : Hid (bl.length = n) := Lib.hid g.rr.lx
  have hn := g.hn
  have hl := Lib.hid g.hl
  clear g
  by_cases ha1 : a < 1
  · have d1 : decide (a < 1) = true := by simp; omega
    go_enter Tryz.func49, Tryz.ntmps49
    go_wp2_with fail
    go_ret
    have Fin : IsPrt a bl false := ⟨fun h => (by cases h), fun h => absurd h.1.1 (by omega)⟩
    first | exact ⟨false, rfl, Fin, Below.refl _ _⟩ | exact .inl ⟨rfl, Fin, Below.refl _ _⟩
  · have d1 : decide (a < 1) = false := by simp; omega
    by_cases ha2 : 20 < a
    · have d2 : decide (20 < a) = true := by simp; omega
      go_enter Tryz.func49, Tryz.ntmps49
      go_wp2_with fail
      go_ret
      have Fin : IsPrt a bl false := ⟨fun h => (by cases h), fun h => absurd h.1.2 (by omega)⟩
      first | exact ⟨false, rfl, Fin, Below.refl _ _⟩ | exact .inl ⟨rfl, Fin, Below.refl _ _⟩
    · have d2 : decide (20 < a) = false := by simp; omega
      obtain ⟨N, rfl⟩ : ∃ N : Nat, a = (N : Int) := ⟨a.toNat, by omega⟩
      have hN1 : 1 ≤ N := by omega
      have hN2 : N ≤ 20 := by omega
      go_enter Tryz.func49, Tryz.ntmps49
      go_wp2_with fail
      go_loopw [5, 16] (fun l i wr => ∃ (k : Nat) (la : Int), k ≤ n ∧ i = .int .i64 (k : Nat) ∧ l = .int .i64 la ∧ -1 ≤ la ∧ Hid ((k = 0 → la = -1) ∧ (0 < k → la = (bl.getD (k - 1) []).getD 0 0)) ∧ Hid (∀ j, j < k → OkB N bl j) ∧ Below w.heap.size w wr) (fun _ i _ => n - (intOf i).toNat)
      case atStart => exact ⟨0, -1, Nat.zero_le _, rfl, rfl, by omega, Lib.hid ⟨fun _ => rfl, fun h => absurd h (Nat.lt_irrefl _)⟩, Lib.hid fun j h => absurd h (Nat.not_lt_zero _), Below.refl _ _⟩
      case round =>
        obtain ⟨k, la, hk, rfl, rfl, hla, hpr, hok, bel⟩ := hrel
        have Be := Lib.hid bel
        clear bel
        by_cases hlt : k < n
        · obtain ⟨b5, o5, A5, l, c5, y, rfl, hb5, ev, ey, x1, ri, ly, hlc⟩ := (HX.out.up Be.out).at_ hlt
          have hl1 := hl.out k hlt
          rw [ev] at hl1
          have hl2 : l ≤ 1048576 := hl1
          have Ey := Lib.hid ey
          have Ly : Hid (y.length = l) := Lib.hid ly
          have Ri := Lib.hid ri
          clear ev ey ri ly hl1 hb5
          by_cases hl0 : l = 0
          · subst hl0
            have Fin : Hid (¬ ((1 ≤ (N : Int) ∧ (N : Int) ≤ 20) ∧ Prt (N : Int).toNat bl)) := Lib.hid fun h => by
              have := (h.2.1 k (by rw [hlx.out]; exact hlt)).1
              rw [Ey.out] at this
              exact this (List.eq_nil_of_length_eq_zero Ly.out)
            go_wp2_with fail
            go_ret
            exact ⟨false, rfl, ⟨fun h => (by cases h), fun h => absurd h Fin.out⟩, Be.out⟩
          · have hl3 : 0 < l := by omega
            obtain ⟨bz, oz, rfl, hbz, hc⟩ := Ri.out (by rw [Ly.out]; exact hl3)
            have z0 := hc 0 (by rw [Ly.out]; exact hl3)
            obtain ⟨x, ex⟩ : ∃ x, y.getD 0 0 = x := ⟨_, rfl⟩
            rw [ex, Nat.add_zero] at z0
            have Ex := Lib.hid ex
            have e0 : ((l : Int) == 0) = false := by rw [beq_eq_false_iff_ne]; omega
            have q0 : (0 : Int) < l := by omega
            clear hc ex hbz
            by_cases hx : x ≤ la
            · have d3 : decide (x ≤ la) = true := decide_eq_true hx
              have Fin : Hid (¬ ((1 ≤ (N : Int) ∧ (N : Int) ≤ 20) ∧ Prt (N : Int).toNat bl)) := Lib.hid fun h => by
                have hok2 := h.2.1 k (by rw [hlx.out]; exact hlt)
                have h3 := hok2.2.1.2 0 (by rw [Ey.out, Ly.out]; exact hl3)
                rw [Ey.out, Ex.out] at h3
                rcases Nat.eq_zero_or_pos k with e | e
                · have := hpr.out.1 e; omega
                · have h4 := hok2.2.2 e
                  rw [Ey.out, Ex.out, ← hpr.out.2 e] at h4; omega
              clear hx
              go_wp2_with fail
              go_ret
              exact ⟨false, rfl, ⟨fun h => (by cases h), fun h => absurd h Fin.out⟩, Be.out⟩
            · have d3 : decide (x ≤ la) = false := decide_eq_false hx
              have hx2 : la < x := by omega
              clear hx
              go_wp2_with (go_at_call 63; fail)
              refine (implAsc N l c5 _ y wr Ri.out Ly hN1 hN2 hl2).mono ?_
              rintro e w2 ⟨ans, rfl, hans, b2⟩
              have B2 : Hid (Below w.heap.size w w2) := Lib.hid (btr Be.out b2)
              have z2 := (b2.cell (p := ⟨bz, oz, none⟩) (by obtain ⟨b', o', e', hb', _⟩ := Ri.out (by rw [Ly.out]; exact hl3); injection e' with e'; injection e' with e1 _; subst e1; exact hb')).trans z0
              clear b2 z0
              rcases ans with _ | _
              · have Fin : Hid (¬ ((1 ≤ (N : Int) ∧ (N : Int) ≤ 20) ∧ Prt (N : Int).toNat bl)) := Lib.hid fun h => by
                  have hok2 := (h.2.1 k (by rw [hlx.out]; exact hlt)).2.1
                  rw [Ey.out] at hok2
                  have := hans.2 hok2
                  cases this
                clear hans
                go_wp2_with fail
                go_ret
                exact ⟨false, rfl, ⟨fun h => (by cases h), fun h => absurd h Fin.out⟩, B2.out⟩
              · have hpt := hans.1 rfl
                have Ok2 : Hid (∀ j, j < k + 1 → OkB N bl j) := Lib.hid fun j hj => by
                  by_cases e : j = k
                  · subst e
                    refine ⟨fun e => ?_, by rw [Ey.out]; exact hpt, fun h0 => ?_⟩
                    · have h5 := Ly.out; rw [← Ey.out, e] at h5; simp at h5; omega
                    · rw [Ey.out, Ex.out, ← hpr.out.2 h0]; exact hx2
                  · exact hok.out j (by omega)
                have Pr2 : Hid ((k + 1 = 0 → x = -1) ∧ (0 < k + 1 → x = (bl.getD (k + 1 - 1) []).getD 0 0)) := Lib.hid ⟨fun h => by omega, fun _ => by rw [Nat.add_sub_cancel, Ey.out, Ex.out]⟩
                clear hpt hans
                go_wp2_with fail
                go_roundw
                case rel => exact ⟨k + 1, x, by omega, by go_num, rfl, by omega, Pr2, Ok2, B2.out⟩
                case measure => simp [intOf]; omega
        · obtain rfl : k = n := by omega
          have Ok3 : Hid (∀ j, j < bl.length → OkB N bl j) := Lib.hid fun j hj => hok.out j (by rw [← hlx.out]; exact hj)
          have hk20 : k ≤ 20 := by have := okB_len Ok3.out; rw [hlx.out] at this; omega
          have hl20 : Hid (∀ i, i < k → (vs.getD i sd0).2.1 ≤ 20) := Lib.hid fun i hi => by
            rw [← HX.out.lens i hi]
            exact Nat.le_trans (hok.out i hi).2.1.1 hN2
          go_wp2_with (go_at_call 65; fail)
          refine (implConcatR A k c vs bl wr (HX.out.up Be.out) hk20 hl20).mono ?_
          rintro e w2 ⟨A2, c2, rfl, s2, h400, b2⟩
          obtain ⟨L, eL⟩ : ∃ L, bl.flatten.length = L := ⟨_, rfl⟩
          rw [eL] at s2 h400 ⊢
          have S2 := Lib.hid s2
          have EL := Lib.hid eL
          have B2 : Hid (Below w.heap.size w w2) := Lib.hid (btr Be.out b2)
          obtain ⟨ans, eans⟩ : ∃ ans, (decide ((L : Int) = (N : Int)) && isP bl.flatten) = ans := ⟨_, rfl⟩
          have Ea := Lib.hid eans
          have Fin : Hid (IsPrt N bl ans) := Lib.hid (by
            unfold IsPrt
            rw [← Ea.out, Bool.and_eq_true, decide_eq_true_eq, Int.toNat_natCast, prt_isP Ok3.out hN1 hN2, EL.out]
            constructor
            · rintro ⟨h1, h2⟩; exact ⟨by omega, by omega, h2⟩
            · rintro ⟨_, h1, h2⟩; exact ⟨by omega, h2⟩)
          clear s2 b2 eL eans
          go_wp2_with (go_at_call 64; fail)
          refine (implIsPOf N A2 L c2 bl.flatten ans w2 S2.out.ri_ (Lib.hid EL.out) (by omega) Ea).mono ?_
          rintro e w3 ⟨rfl, b3⟩
          have B3 : Hid (Below w.heap.size w w3) := Lib.hid (btr B2.out b3)
          clear b3
          go_wp2_with fail
          go_ret
          exact ⟨ans, rfl, Fin.out, B3.out⟩
end Go.Proofs.YtedfcljikgmpgaaGreat

/- isPartition, blockIndexes and respects of the model. Conditions: at most 20 points; at most 1048576 lists of at most 1048576 numbers. -/
namespace Go.Proofs.YtedfcljikgmpgaaGreat
open Go.RowKit

theorem bool_ofP (p : Prop) : ∃ b : Bool, b = true ↔ p := by
  by_cases h : p
  · exact ⟨true, fun _ => h, fun _ => rfl⟩
  · exact ⟨false, fun e => (by cases e), fun e => absurd e h⟩
theorem take_snocI {l : List Int} {k : Nat} (h : k < l.length) : l.take (k + 1) = l.take k ++ [l.getD k 0] := by
  rw [List.take_succ_eq_append_getElem h, getD_eq h]

end Go.Proofs.YtedfcljikgmpgaaGreat

/- The members of a group in lexicographic order: how many precede, how one entry adds to it. No Go in it. No condition. -/
namespace Go.Proofs.YtedfcljikgmpgaaGreat
open Go.RowKit

/-- They agree in the first i entries. -/
def Ag (i : Nat) (q p : List Int) : Prop := ∀ t, t < i → nx q t = nx p t
/-- q precedes p, by one of the first i entries. -/
def LxI (i : Nat) (q p : List Int) : Prop := ∃ t, t < i ∧ Ag t q p ∧ nx q t < nx p t
section
variable {N i : Nat} {p q r m : List Int}
theorem Ag.symm (h : Ag i q p) : Ag i p q := fun t ht => (h t ht).symm
theorem Ag.trans (h : Ag i q p) (h2 : Ag i p r) : Ag i q r := fun t ht => (h t ht).trans (h2 t ht)
theorem Ag.mono {j : Nat} (h : Ag i q p) (hj : j ≤ i) : Ag j q p := fun t ht => h t (by omega)
theorem Ag.refl (i : Nat) (p : List Int) : Ag i p p := fun _ _ => rfl
theorem ag_succ : Ag (i + 1) q p ↔ Ag i q p ∧ nx q i = nx p i :=
  ⟨fun h => ⟨h.mono (by omega), h i (by omega)⟩, fun ⟨a, b⟩ t ht => by
    by_cases e : t = i
    · subst e; exact b
    · exact a t (by omega)⟩
theorem lxi_succ : LxI (i + 1) q p ↔ LxI i q p ∨ (Ag i q p ∧ nx q i < nx p i) := by
  constructor
  · rintro ⟨t, ht, a, b⟩
    by_cases e : t = i
    · subst e; exact .inr ⟨a, b⟩
    · exact .inl ⟨t, by omega, a, b⟩
  · rintro (⟨t, ht, a, b⟩ | ⟨a, b⟩)
    · exact ⟨t, by omega, a, b⟩
    · exact ⟨i, by omega, a, b⟩
theorem lxi_ag (h : Ag i p r) : LxI i q p ↔ LxI i q r := by
  constructor
  · rintro ⟨t, ht, a, b⟩
    exact ⟨t, ht, a.trans (h.mono (by omega)), by rw [← h t ht]; exact b⟩
  · rintro ⟨t, ht, a, b⟩
    exact ⟨t, ht, a.trans (h.mono (by omega)).symm, by rw [h t ht]; exact b⟩
theorem lxi_not (h : Ag i q p) : ¬ LxI i q p := fun ⟨t, ht, _, b⟩ => by rw [h t ht] at b; omega
theorem lxi_tri (p q : List Int) : ∀ i, Ag i p q ∨ LxI i p q ∨ LxI i q p
  | 0 => .inl fun _ h => absurd h (Nat.not_lt_zero _)
  | i + 1 => by
    rcases lxi_tri p q i with h | h | h
    · rcases Nat.lt_trichotomy (nx p i) (nx q i) with e | e | e
      · exact .inr (.inl (lxi_succ.2 (.inr ⟨h, e⟩)))
      · exact .inl (ag_succ.2 ⟨h, e⟩)
      · exact .inr (.inr (lxi_succ.2 (.inr ⟨h.symm, e⟩)))
    · exact .inr (.inl (lxi_succ.2 (.inl h)))
    · exact .inr (.inr (lxi_succ.2 (.inl h)))
theorem lx_tri (hp : Pn N p) (hq : Pn N q) : p = q ∨ LxI N p q ∨ LxI N q p := by
  rcases lxi_tri p q N with h | h | h
  · exact .inl (hp.ext hq h)
  · exact .inr (.inl h)
  · exact .inr (.inr h)
theorem LxI.trans (h : LxI N p q) (h2 : LxI N q r) : LxI N p r := by
  obtain ⟨t, ht, a, b⟩ := h
  obtain ⟨s, hs, a', b'⟩ := h2
  rcases Nat.lt_trichotomy t s with e | e | e
  · exact ⟨t, ht, a.trans (a'.mono (by omega)), by rw [← a' t e]; exact b⟩
  · subst e; exact ⟨t, ht, a.trans a', by omega⟩
  · exact ⟨s, hs, (a.mono (by omega)).trans a', by rw [a s e]; exact b'⟩
theorem LxI.irr : ¬ LxI N p p := lxi_not (Ag.refl _ _)
theorem LxI.mono {j : Nat} (h : LxI i q p) (hj : i ≤ j) : LxI j q p := by
  obtain ⟨t, ht, a, b⟩ := h
  exact ⟨t, by omega, a, b⟩
end

/-! ### counting -/
section
variable {P Q : List Int → Prop} {a b : Nat}
theorem crd_or (h : Crd P a) (h2 : Crd Q b) (hd : ∀ x, P x → ¬ Q x) : Crd (fun x => P x ∨ Q x) (a + b) := by
  obtain ⟨l, d, m, rfl⟩ := h
  obtain ⟨l', d', m', rfl⟩ := h2
  refine ⟨l ++ l', List.nodup_append.2 ⟨d, d', fun x hx y hy e => hd x ((m x).1 hx) ((m' x).1 (e ▸ hy))⟩, fun p => ?_, by simp⟩
  rw [List.mem_append, m, m']
theorem crd_sub (h : Crd P a) (h2 : Crd Q b) (hs : ∀ x, P x → Q x) : a ≤ b := by
  obtain ⟨l, d, m, rfl⟩ := h
  obtain ⟨l', d', m', rfl⟩ := h2
  exact nd_subA d fun x hx => (m' x).2 (hs x ((m x).1 hx))
theorem crd_none (h : ∀ x, ¬ P x) : Crd P 0 := ⟨[], List.nodup_nil, fun p => ⟨fun hp => absurd hp List.not_mem_nil, fun hp => absurd hp (h p)⟩, rfl⟩
theorem crd_one (m : List Int) : Crd (fun q => q = m) 1 := ⟨[m], by simp, fun p => by simp, rfl⟩
theorem crd_fib {O : List Nat} {i c : Nat} (hO : O.Nodup) (h : ∀ v ∈ O, Crd (fun q => P q ∧ nx q i = v) c) : Crd (fun q => P q ∧ nx q i ∈ O) (O.length * c) := by
  have hf : ∃ f : Nat → List (List Int), ∀ v ∈ O, (f v).Nodup ∧ (∀ q, q ∈ f v ↔ P q ∧ nx q i = v) ∧ (f v).length = c := by
    refine ⟨fun v => if hv : v ∈ O then Classical.choose (h v hv) else [], fun v hv => ?_⟩
    simp only [hv, dif_pos]
    have := Classical.choose_spec (h v hv)
    exact ⟨this.1, this.2.1, this.2.2.symm⟩
  obtain ⟨f, hf⟩ := hf
  obtain ⟨i1, i2⟩ := flat_nd (f := f) (m := c) hO (fun v hv => (hf v hv).1) (fun v hv z hz hne p hp hp2 => hne (by rw [← (((hf v hv).2.1 p).1 hp).2, ← (((hf z hz).2.1 p).1 hp2).2])) (fun v hv => (hf v hv).2.2)
  refine ⟨_, i1, fun p => ?_, i2.symm⟩
  rw [List.mem_flatMap]
  constructor
  · rintro ⟨v, hv, hp⟩
    obtain ⟨a, b⟩ := ((hf v hv).2.1 p).1 hp
    exact ⟨a, b ▸ hv⟩
  · rintro ⟨a, b⟩
    exact ⟨_, b, ((hf _ b).2.1 p).2 ⟨a, rfl⟩⟩
end

/-! ### members that agree in the first entries -/
section
variable {N i : Nat} {gs : List (List Int)} {xs : List Int} {m p : List Int}
theorem gdx' {l : List Int} {j : Nat} (h : j < l.length) : l.getD j 0 = l[j] := by
  rw [List.getD_eq_getElem?_getD, List.getElem?_eq_getElem h]; rfl
theorem agree_card (h : IsOS N gs xs) (hg : ∀ g ∈ gs, Pn N g) (h1 : 1 ≤ N) (h2 : N ≤ 20) (hi : i ≤ N) (hm : Mb gs N m) : ∃ v, Crd (fun q => Mb gs N q ∧ Ag i q m) v ∧ pr xs i (N - i) = (v : Int) := by
  obtain ⟨v, hc, e⟩ := h.card hg h1 h2 (N - i) i (by omega)
  have hpn : ∀ p, Mb gs N p → Pn N p := fun p hp => hp.pn hg h1 h2
  have hmp := hpn m hm
  refine ⟨v, hc.map (fun q => compL q m) (fun a ha b hb e => ?_) (fun q => ?_), e⟩
  · have : compL (compL a m) (iv m) = compL (compL b m) (iv m) := congrArg (fun t => compL t (iv m)) e
    rwa [(hpn a ha.1).assoc hmp, (hpn b hb.1).assoc hmp, hmp.ci, (hpn a ha.1).idr, (hpn b hb.1).idr] at this
  · constructor
    · rintro ⟨a, b⟩
      have hq := hpn q a
      refine ⟨compL q (iv m), ⟨a.comp hg h1 h2 (hm.inv hg h1 h2), fun t ht => ?_⟩, ?_⟩
      · rw [hq.nxc (by omega), b t ht, hmp.nxi (by omega)]
      · rw [hq.assoc hmp.iv, hmp.ic, hq.idr]
    · rintro ⟨r, ⟨a, b⟩, rfl⟩
      refine ⟨a.comp hg h1 h2 hm, fun t ht => ?_⟩
      rw [(hpn r a).nxc (by omega), b t ht]
/-- The entries that members which agree with m before i have there, in ascending order. -/
def ChL (N : Nat) (gs : List (List Int)) (m : List Int) (i : Nat) (zs : List Int) : Prop :=
  zs.Pairwise (· < ·) ∧ ∀ v : Int, v ∈ zs ↔ ∃ q, Mb gs N q ∧ Ag i q m ∧ (nx q i : Int) = v
theorem ChL.nodup {zs : List Int} (h : ChL N gs m i zs) : zs.Nodup := h.1.imp fun hab e => by omega
theorem ChL.nonneg {zs : List Int} (h : ChL N gs m i zs) {v : Int} (hv : v ∈ zs) : 0 ≤ v := by
  obtain ⟨q, _, _, rfl⟩ := (h.2 v).1 hv; omega
theorem ChL.uniq {zs ys : List Int} (h : ChL N gs m i zs) (h' : ChL N gs m i ys) : zs = ys := by
  have hm : ∀ v, v ∈ zs ↔ v ∈ ys := fun v => (h.2 v).trans (h'.2 v).symm
  have hp : zs.Perm ys := (List.perm_ext_iff_of_nodup h.nodup h'.nodup).2 hm
  exact hp.eq_of_pairwise (le := (· ≤ ·)) (fun a b _ _ h1 h2 => by omega) (h.1.imp fun hab => by omega) (h'.1.imp fun hab => by omega)
theorem ChL.ag {m' : List Int} {zs : List Int} (h : ChL N gs m i zs) (ha : Ag i m m') : ChL N gs m' i zs :=
  ⟨h.1, fun v => (h.2 v).trans ⟨fun ⟨q, a, b, c⟩ => ⟨q, a, b.trans ha, c⟩, fun ⟨q, a, b, c⟩ => ⟨q, a, b.trans ha.symm, c⟩⟩⟩
theorem ChL.len {zs : List Int} (h : ChL N gs m i zs) (ho : IsOS N gs xs) (hg : ∀ g ∈ gs, Pn N g) (h1 : 1 ≤ N) (h2 : N ≤ 20) (hi : i < N) (hm : Mb gs N m) : (zs.length : Int) = xs.getD i 0 := by
  obtain ⟨l, d, hl, e⟩ := ho.2 i hi
  have hmp := hm.pn hg h1 h2
  have hd : (l.map fun y => (nx m y : Int)).Nodup := nd_mapA d fun x hx y hy e => hmp.inj ((hl x).1 hx).1 ((hl y).1 hy).1 (by omega)
  have hmem : ∀ v, v ∈ (l.map fun y => (nx m y : Int)) ↔ v ∈ zs := fun v => by
    rw [List.mem_map, h.2]
    constructor
    · rintro ⟨y, hy, rfl⟩
      obtain ⟨hyN, p, hp, hf, rfl⟩ := (hl y).1 hy
      have hpp := hp.pn hg h1 h2
      exact ⟨compL p m, hp.comp hg h1 h2 hm, fun t ht => by rw [hpp.nxc (by omega), hf t ht], by rw [hpp.nxc hi]⟩
    · rintro ⟨q, hq, ha, rfl⟩
      have hqp := hq.pn hg h1 h2
      have hlt := hmp.iv.lt (hqp.lt hi)
      refine ⟨nx (iv m) (nx q i), (hl _).2 ⟨hlt, compL q (iv m), hq.comp hg h1 h2 (hm.inv hg h1 h2), fun t ht => ?_, ?_⟩, ?_⟩
      · rw [hqp.nxc (by omega), ha t ht, hmp.nxi (by omega)]
      · rw [hqp.nxc hi]
      · rw [hmp.nxi' (hqp.lt hi)]
  have a := nd_subA hd fun v hv => (hmem v).1 hv
  have b := nd_subA h.nodup fun v hv => (hmem v).2 hv
  rw [List.length_map] at a b
  rw [e]; omega
/-- One entry more: so many members more precede p. -/
theorem rank_step {zs : List Int} {K T : Nat} (h : ChL N gs m i zs) (ho : IsOS N gs xs) (hg : ∀ g ∈ gs, Pn N g) (h1 : 1 ≤ N) (h2 : N ≤ 20) (hi : i < N) (hm : Mb gs N m) (ha : Ag i m p)
    (hK : K ≤ zs.length) (hlo : ∀ j, j < K → zs.getD j 0 < (nx p i : Int)) (hhi : K < zs.length → (nx p i : Int) ≤ zs.getD K 0) (hT : Crd (fun q => Mb gs N q ∧ LxI i q p) T) :
    ∃ c : Nat, pr xs (i + 1) (N - (i + 1)) = (c : Int) ∧ Crd (fun q => Mb gs N q ∧ LxI (i + 1) q p) (T + K * c) := by
  obtain ⟨c, _, hc⟩ := agree_card ho hg h1 h2 (i := i + 1) (by omega) hm
  refine ⟨c, hc, ?_⟩
  have hat : ∀ j, j < zs.length → zs.getD j 0 ∈ zs := fun j hj => by rw [gdx' hj]; exact List.getElem_mem hj
  have hin : ∀ v, v ∈ (zs.take K).map Int.toNat ↔ (v : Int) ∈ zs ∧ (v : Int) < (nx p i : Int) := fun v => by
    rw [List.mem_map]
    constructor
    · rintro ⟨x, hx, rfl⟩
      obtain ⟨j, hj, rfl⟩ := List.mem_iff_getElem.1 hx
      rw [List.length_take] at hj
      rw [List.getElem_take]
      have hz := List.getElem_mem (l := zs) (n := j) (by omega)
      have hl := hlo j (by omega)
      rw [gdx' (by omega)] at hl
      have := h.nonneg hz
      rw [Int.toNat_of_nonneg this]
      exact ⟨hz, hl⟩
    · rintro ⟨hv, hl⟩
      obtain ⟨j, hj, e⟩ := List.mem_iff_getElem.1 hv
      have hjK : j < K := by
        rcases Nat.lt_or_ge j K with h3 | h3
        · exact h3
        · have h4 := hhi (by omega)
          rw [gdx' (by omega)] at h4
          have h5 : zs[K]'(by omega) ≤ zs[j] := by
            rcases Nat.lt_or_ge K j with h6 | h6
            · have := List.pairwise_iff_getElem.1 h.1 K j (by omega) hj h6; omega
            · obtain rfl : K = j := by omega
              exact Int.le_refl _
          omega
      exact ⟨(v : Int), by rw [← e]; exact List.mem_iff_getElem.2 ⟨j, by rw [List.length_take]; omega, by rw [List.getElem_take]⟩, Int.toNat_natCast v⟩
  have hnd : ((zs.take K).map Int.toNat).Nodup := nd_mapA (h.nodup.sublist (List.take_sublist _ _)) fun x hx y hy e => by
    have := h.nonneg (List.mem_of_mem_take hx)
    have := h.nonneg (List.mem_of_mem_take hy)
    omega
  have hf := crd_fib (P := fun q => Mb gs N q ∧ Ag i q m) (i := i) (c := c) hnd fun v hv => by
    obtain ⟨hz, _⟩ := (hin v).1 hv
    obtain ⟨r, hr, hra, hrv⟩ := (h.2 _).1 hz
    obtain ⟨c', hc', e'⟩ := agree_card ho hg h1 h2 (i := i + 1) (by omega) hr
    obtain rfl : c' = c := by omega
    exact hc'.congr fun q => by
      rw [ag_succ, and_assoc]
      have e2 : nx r i = v := by omega
      rw [e2]
      exact ⟨fun ⟨a, b, d⟩ => ⟨a, b.trans hra, d⟩, fun ⟨a, b, d⟩ => ⟨a, b.trans hra.symm, d⟩⟩
  have hlen : ((zs.take K).map Int.toNat).length = K := by rw [List.length_map, List.length_take]; omega
  rw [hlen] at hf
  refine (crd_or hT hf fun q hq hq2 => lxi_not (hq2.1.2.trans ha) hq.2).congr fun q => ?_
  rw [lxi_succ, hin]
  constructor
  · rintro (⟨a, b⟩ | ⟨⟨a, b⟩, _, d⟩)
    · exact ⟨a, .inl b⟩
    · exact ⟨a, .inr ⟨b.trans ha, by omega⟩⟩
  · rintro ⟨a, b | ⟨b, d⟩⟩
    · exact .inl ⟨a, b⟩
    · exact .inr ⟨⟨a, b.trans ha.symm⟩, (h.2 _).2 ⟨q, a, b.trans ha.symm, rfl⟩, by omega⟩
/-- Where p's entry is none that they have, nothing is added behind it. -/
theorem rank_stop {zs : List Int} {T : Nat} (h : ChL N gs m i zs) (hi : i < N) (ha : Ag i m p) (hn : (nx p i : Int) ∉ zs) (hT : Crd (fun q => Mb gs N q ∧ LxI (i + 1) q p) T) : Crd (fun q => Mb gs N q ∧ LxI N q p) T := by
  refine hT.congr fun q => ⟨fun ⟨a, b⟩ => ⟨a, b.mono (by omega)⟩, fun ⟨a, t, ht, b, d⟩ => ⟨a, t, ?_, b, d⟩⟩
  rcases Nat.lt_or_ge t (i + 1) with hl | hl
  · exact hl
  · exact absurd ((h.2 _).2 ⟨q, a, (b.mono (by omega)).trans ha.symm, by rw [b i (by omega)]⟩) hn

/-! ### ranks -/
def Rk (N : Nat) (gs : List (List Int)) (p : List Int) (c : Nat) : Prop := Crd (fun q => Mb gs N q ∧ LxI N q p) c
theorem rk_lt {p q : List Int} {c d V : Nat} (hp : Rk N gs p c) (hq : Rk N gs q d) (hpm : Mb gs N p) (hl : LxI N p q) : c < d := by
  have h := crd_or hp (crd_one p) fun x hx e => LxI.irr (e ▸ hx.2)
  have := crd_sub h hq fun x hx => by
    rcases hx with ⟨a, b⟩ | rfl
    · exact ⟨a, b.trans hl⟩
    · exact ⟨hpm, hl⟩
  omega
theorem rk_inj {p q : List Int} {c : Nat} (hg : ∀ g ∈ gs, Pn N g) (h1 : 1 ≤ N) (h2 : N ≤ 20) (hp : Rk N gs p c) (hq : Rk N gs q c) (hpm : Mb gs N p) (hqm : Mb gs N q) : p = q := by
  rcases lx_tri (hpm.pn hg h1 h2) (hqm.pn hg h1 h2) with e | e | e
  · exact e
  · have := rk_lt (V := 0) hp hq hpm e; omega
  · have := rk_lt (V := 0) hq hp hqm e; omega
theorem rk_ord {p : List Int} {c V : Nat} (hp : Rk N gs p c) (hV : Crd (Mb gs N) V) (hpm : Mb gs N p) : c < V := by
  have h := crd_or hp (crd_one p) fun x hx e => LxI.irr (e ▸ hx.2)
  have := crd_sub h hV fun x hx => by
    rcases hx with ⟨a, _⟩ | rfl
    · exact a
    · exact hpm
  omega
end
end Go.Proofs.YtedfcljikgmpgaaGreat

/- Sets of permutations that are closed under products and inverses: cosets, their smallest members, Lagrange, index two, the center. No Go in it. No condition. -/
namespace Go.Proofs.YtedfcljikgmpgaaGreat
open Go.RowKit

/-- A group of permutations of N points. -/
structure Sgp (N : Nat) (H : List Int → Prop) : Prop where
  pn : ∀ p, H p → Pn N p
  one : H (idL N)
  mul : ∀ p q, H p → H q → H (compL p q)
  inv : ∀ p, H p → H (iv p)
/-- q lies in the coset of p. -/
def Cos (H : List Int → Prop) (p q : List Int) : Prop := ∃ h, H h ∧ q = compL h p
/-- m is the smallest of p's coset. -/
def CMin (N : Nat) (H : List Int → Prop) (p m : List Int) : Prop := Cos H p m ∧ ∀ q, Cos H p q → ¬ LxI N q m
section
variable {N h g : Nat} {H G : List Int → Prop} {p q r m m' : List Int} {gs : List (List Int)}
theorem sgp_mb (hg : ∀ g ∈ gs, Pn N g) (h1 : 1 ≤ N) (h2 : N ≤ 20) : Sgp N (Mb gs N) := ⟨fun _ h => h.pn hg h1 h2, .one, fun _ _ a b => a.comp hg h1 h2 b, fun _ a => a.inv hg h1 h2⟩
theorem Cos.pn (hH : Sgp N H) (hp : Pn N p) (h : Cos H p q) : Pn N q := by
  obtain ⟨x, hx, rfl⟩ := h
  exact (hH.pn x hx).comp hp
theorem cos_refl (hH : Sgp N H) (hp : Pn N p) : Cos H p p := ⟨idL N, hH.one, hp.idl.symm⟩
theorem Cos.symm (hH : Sgp N H) (hp : Pn N p) (h : Cos H p q) : Cos H q p := by
  obtain ⟨x, hx, rfl⟩ := h
  have hxp := hH.pn x hx
  exact ⟨iv x, hH.inv x hx, by rw [← hxp.iv.assoc hxp, hxp.ic, hp.idl]⟩
theorem Cos.trans (hH : Sgp N H) (h : Cos H p q) (h' : Cos H q r) : Cos H p r := by
  obtain ⟨x, hx, rfl⟩ := h
  obtain ⟨y, hy, rfl⟩ := h'
  exact ⟨compL y x, hH.mul y x hy hx, ((hH.pn y hy).assoc (hH.pn x hx)).symm⟩
theorem cos_iff (hH : Sgp N H) (hp : Pn N p) (hq : Pn N q) : Cos H p q ↔ H (compL q (iv p)) := by
  constructor
  · rintro ⟨x, hx, rfl⟩
    have hxp := hH.pn x hx
    rw [hxp.assoc hp, hp.ci, hxp.idr]; exact hx
  · exact fun h => ⟨_, h, by rw [hq.assoc hp.iv, hp.ic, hq.idr]⟩
theorem cancel_r (hp : Pn N p) (hq : Pn N q) (hr : Pn N r) (e : compL p r = compL q r) : p = q := by
  have : compL (compL p r) (iv r) = compL (compL q r) (iv r) := congrArg (fun t => compL t (iv r)) e
  rwa [hp.assoc hr, hq.assoc hr, hr.ci, hp.idr, hq.idr] at this
/-- A list that isn't empty has a smallest. -/
theorem lx_min : ∀ l : List (List Int), l ≠ [] → (∀ x ∈ l, Pn N x) → ∃ m ∈ l, ∀ q ∈ l, ¬ LxI N q m
  | [], h, _ => absurd rfl h
  | [a], _, _ => ⟨a, by simp, fun q hq => by rw [List.mem_singleton.1 hq]; exact LxI.irr⟩
  | a :: b :: t, _, hp => by
    obtain ⟨m, hm, hmin⟩ := lx_min (b :: t) (by simp) fun x hx => hp x (List.mem_cons_of_mem _ hx)
    rcases Classical.em (LxI N a m) with hl | hl
    · refine ⟨a, by simp, fun q hq hqa => ?_⟩
      rcases List.mem_cons.1 hq with rfl | hq
      · exact LxI.irr hqa
      · exact hmin q hq (hqa.trans hl)
    · refine ⟨m, List.mem_cons_of_mem _ hm, fun q hq hqm => ?_⟩
      rcases List.mem_cons.1 hq with rfl | hq
      · exact hl hqm
      · exact hmin q hq hqm
theorem CMin.ex (hH : Sgp N H) (cH : Crd H h) (hp : Pn N p) : ∃ m, CMin N H p m := by
  obtain ⟨l, hd, hm, _⟩ := cH
  obtain ⟨m, hmm, hmin⟩ := lx_min (N := N) (l.map fun x => compL x p) (by
    intro e
    have := (hm (idL N)).2 hH.one
    rw [List.map_eq_nil_iff] at e
    rw [e] at this; cases this) fun x hx => by
      obtain ⟨y, hy, rfl⟩ := List.mem_map.1 hx
      exact (hH.pn y ((hm y).1 hy)).comp hp
  obtain ⟨y, hy, rfl⟩ := List.mem_map.1 hmm
  refine ⟨_, ⟨y, (hm y).1 hy, rfl⟩, fun q hq => ?_⟩
  obtain ⟨x, hx, rfl⟩ := hq
  exact hmin _ (List.mem_map.2 ⟨x, (hm x).2 hx, rfl⟩)
theorem CMin.uniq (hH : Sgp N H) (hp : Pn N p) (a : CMin N H p m) (b : CMin N H p m') : m = m' := by
  rcases lx_tri (a.1.pn hH hp) (b.1.pn hH hp) with e | e | e
  · exact e
  · exact absurd e (b.2 m a.1)
  · exact absurd e (a.2 m' b.1)
theorem CMin.cos (hH : Sgp N H) (hp : Pn N p) (c : Cos H p q) (a : CMin N H p m) : CMin N H q m :=
  ⟨(c.symm hH hp).trans hH a.1, fun x hx => a.2 x (c.trans hH hx)⟩
/-- Two permutations have one coset exactly if the smallest of their cosets is the same. -/
theorem CMin.same (hH : Sgp N H) (hp : Pn N p) (hq : Pn N q) (a : CMin N H p m) (b : CMin N H q m') : Cos H p q ↔ m = m' := by
  constructor
  · exact fun c => (a.cos hH hp c).uniq hH hq b
  · rintro rfl
    exact a.1.trans hH (b.1.symm hH hq)
theorem flat_ndL {β : Type} {f : List Int → List β} {m : Nat} : ∀ {O : List (List Int)}, O.Nodup → (∀ y ∈ O, (f y).Nodup) → (∀ y ∈ O, ∀ z ∈ O, y ≠ z → ∀ p, p ∈ f y → p ∉ f z) → (∀ y ∈ O, (f y).length = m) →
    (O.flatMap f).Nodup ∧ (O.flatMap f).length = O.length * m
  | [], _, _, _, _ => by simp
  | a :: t, hd, h1, h2, h3 => by
    rw [List.nodup_cons] at hd
    obtain ⟨i1, i2⟩ := flat_ndL (O := t) hd.2 (fun y hy => h1 y (by simp [hy])) (fun y hy z hz => h2 y (by simp [hy]) z (by simp [hz])) (fun y hy => h3 y (by simp [hy]))
    rw [List.flatMap_cons]
    refine ⟨List.nodup_append.2 ⟨h1 a (by simp), i1, fun p hp q hq e => ?_⟩, ?_⟩
    · subst e
      obtain ⟨z, hz, hq⟩ := List.mem_flatMap.1 hq
      exact h2 a (by simp) z (by simp [hz]) (fun e => hd.1 (e ▸ hz)) p hp hq
    · rw [List.length_append, i2, h3 a (by simp), List.length_cons, Nat.succ_mul]; omega
/-- Lagrange: so many smallest members of cosets, times the order of the subgroup. -/
theorem lagr (hG : Sgp N G) (hH : Sgp N H) (hs : ∀ p, H p → G p) (cG : Crd G g) (cH : Crd H h) : ∃ k, Crd (fun p => G p ∧ CMin N H p p) k ∧ g = k * h := by
  classical
  have cG0 := cG
  have cH0 := cH
  obtain ⟨lG, dG, mG, _⟩ := cG
  obtain ⟨lH, dH, mH, eH⟩ := cH
  have hR : ∀ p, p ∈ lG.filter (fun p => decide (CMin N H p p)) ↔ G p ∧ CMin N H p p := fun p => by rw [List.mem_filter, mG, decide_eq_true_eq]
  refine ⟨_, ⟨lG.filter fun p => decide (CMin N H p p), dG.filter _, hR, rfl⟩, ?_⟩
  obtain ⟨i1, i2⟩ := flat_ndL (O := lG.filter fun p => decide (CMin N H p p)) (f := fun r => lH.map fun x => compL x r) (m := h) (dG.filter _)
    (fun r hr => nd_mapA dH fun x hx y hy e => cancel_r (hH.pn x ((mH x).1 hx)) (hH.pn y ((mH y).1 hy)) (hG.pn r ((hR r).1 hr).1) e)
    (fun r hr s hs' hne p hp hp2 => by
      obtain ⟨x, hx, rfl⟩ := List.mem_map.1 hp
      obtain ⟨y, hy, e⟩ := List.mem_map.1 hp2
      obtain ⟨gr, cr⟩ := (hR r).1 hr
      obtain ⟨gs', cs⟩ := (hR s).1 hs'
      have c1 : Cos H r (compL x r) := ⟨x, (mH x).1 hx, rfl⟩
      have c2 : Cos H s (compL x r) := ⟨y, (mH y).1 hy, e.symm⟩
      have c3 : Cos H r s := c1.trans hH (c2.symm hH (hG.pn s gs'))
      exact hne ((cr.cos hH (hG.pn r gr) c3).uniq hH (hG.pn s gs') cs))
    (fun r _ => by rw [List.length_map]; exact eH.symm)
  refine cG0.uniq ⟨_, i1, fun p => ?_, i2.symm⟩
  rw [List.mem_flatMap]
  constructor
  · rintro ⟨r, hr, hp⟩
    obtain ⟨x, hx, rfl⟩ := List.mem_map.1 hp
    exact hG.mul _ _ (hs x ((mH x).1 hx)) ((hR r).1 hr).1
  · intro gp
    obtain ⟨m, hm⟩ := CMin.ex hH cH0 (hG.pn p gp)
    obtain ⟨y, hy, e⟩ := hm.1.symm hH (hG.pn p gp)
    have hgm : G m := by
      obtain ⟨x, hx, rfl⟩ := hm.1
      exact hG.mul _ _ (hs x hx) gp
    exact ⟨m, (hR m).2 ⟨hgm, hm.cos hH (hG.pn p gp) hm.1⟩, List.mem_map.2 ⟨y, (mH y).2 hy, e.symm⟩⟩
/-- The identity precedes all. -/
theorem lx_id (hp : Pn N p) : ¬ LxI N p (idL N) := by
  rintro ⟨t, ht, a, b⟩
  rw [nx_id ht] at b
  have : Fx t p := fun i hi => by rw [a i hi, nx_id (by omega)]
  have := this.ge hp ht
  omega
theorem CMin.one (hH : Sgp N H) : CMin N H (idL N) (idL N) := ⟨cos_refl hH (hH.pn _ hH.one), fun _ hq => lx_id (hq.pn hH (hH.pn _ hH.one))⟩
theorem cos_one (hH : Sgp N H) : Cos H (idL N) p ↔ H p := by
  constructor
  · rintro ⟨x, hx, rfl⟩
    rw [(hH.pn x hx).idr]; exact hx
  · exact fun h => ⟨p, h, (hH.pn p h).idr.symm⟩
/-- In a group of twice as many, those outside have one coset. -/
theorem two_cos (hG : Sgp N G) (hH : Sgp N H) (hs : ∀ p, H p → G p) (cG : Crd G g) (cH : Crd H h) (e : g = 2 * h) (hh : 1 ≤ h) (gp : G p) (gq : G q) (np : ¬ H p) (nq : ¬ H q) : Cos H p q := by
  obtain ⟨k, ck, ek⟩ := lagr hG hH hs cG cH
  obtain rfl : k = 2 := by
    rw [e] at ek
    exact (Nat.eq_of_mul_eq_mul_right hh ek).symm
  obtain ⟨l, d, m, el⟩ := ck
  obtain ⟨mp, hmp⟩ := CMin.ex hH cH (hG.pn p gp)
  obtain ⟨mq, hmq⟩ := CMin.ex hH cH (hG.pn q gq)
  have hin : ∀ {x y : List Int}, G x → CMin N H x y → y ∈ l := fun gx hy => (m _).2 ⟨by
    obtain ⟨z, hz, rfl⟩ := hy.1
    exact hG.mul _ _ (hs z hz) gx, hy.cos hH (hG.pn _ gx) hy.1⟩
  have h1 := hin (hs _ hH.one) (CMin.one hH)
  have h2 := hin gp hmp
  have h3 := hin gq hmq
  have ne : ∀ {x y : List Int}, G x → ¬ H x → CMin N H x y → y ≠ idL N := fun gx nx hy e => by
    subst e
    exact nx ((cos_one hH).1 (hy.1.symm hH (hG.pn _ gx)))
  refine (hmp.same hH (hG.pn p gp) (hG.pn q gq) hmq).2 ?_
  rcases Classical.em (mp = mq) with e2 | e2
  · exact e2
  · exfalso
    have := nd_subA (l' := [idL N, mp, mq]) (l := l) (by simp [(ne gp np hmp).symm, (ne gq nq hmq).symm, e2]) fun x hx => by
      simp at hx
      rcases hx with rfl | rfl | rfl
      · exact h1
      · exact h2
      · exact h3
    simp at this
    omega
/-- A subgroup of index two is normal. -/
theorem two_normal (hG : Sgp N G) (hH : Sgp N H) (hs : ∀ p, H p → G p) (cG : Crd G g) (cH : Crd H h) (e : g = 2 * h) (hh : 1 ≤ h) (hp : H p) (gq : G q) : H (compL (compL (iv q) p) q) := by
  have pq := hG.pn q gq
  have pp := hH.pn p hp
  rcases Classical.em (H q) with hq | hq
  · exact hH.mul _ _ (hH.mul _ _ (hH.inv q hq) hp) hq
  · rcases Classical.em (H (compL (compL (iv q) p) q)) with hx | hx
    · exact hx
    · exfalso
      obtain ⟨y, hy, ey⟩ := two_cos hG hH hs cG cH e hh gq (hG.mul _ _ (hG.mul _ _ (hG.inv q gq) (hs p hp)) gq) hq hx
      have e2 : compL (iv q) p = y := cancel_r (pq.iv.comp pp) (hH.pn y hy) pq ey
      have e3 : iv q = compL y (iv p) := by rw [← e2, pq.iv.assoc pp, pp.ci, pq.iv.idr]
      have h4 : H (iv q) := by rw [e3]; exact hH.mul _ _ hy (hH.inv p hp)
      have := hH.inv _ h4
      rw [pq.iviv] at this
      exact hq this
/-- What begins with the identity, holds smallest members of cosets of what bs generates, and goes on at every generator, holds all of them. -/
theorem reps_all {bs l : List (List Int)} (hH : Sgp N H) (cH : Crd H h) (hb : ∀ g ∈ bs, Pn N g) (h1 : 1 ≤ N) (h2 : N ≤ 20) (l0 : idL N ∈ l) (hm : ∀ r ∈ l, Mb bs N r ∧ CMin N H r r) (hc : ∀ r ∈ l, ∀ g ∈ bs, ∀ m, CMin N H (compL r g) m → m ∈ l) : ∀ p, p ∈ l ↔ Mb bs N p ∧ CMin N H p p := by
  have key : ∀ q, Mb bs N q → ∃ r ∈ l, Cos H r q := fun q hq => by
    induction hq with
    | one => exact ⟨idL N, l0, cos_refl hH (pn_id h1 h2)⟩
    | @mul q' g hq' hg ih =>
      obtain ⟨r, hr, x, hx, e⟩ := ih
      have pr := (hm r hr).1.pn hb h1 h2
      have pg := hb _ hg
      obtain ⟨m, hmm⟩ := CMin.ex hH cH (pr.comp pg)
      refine ⟨m, hc r hr _ hg m hmm, (hmm.1.symm hH (pr.comp pg)).trans hH ⟨x, hx, ?_⟩⟩
      rw [e, (hH.pn x hx).assoc pr]
  refine fun p => ⟨hm p, fun ⟨hp, hmin⟩ => ?_⟩
  obtain ⟨r, hr, c⟩ := key p hp
  have pr := (hm r hr).1.pn hb h1 h2
  have := ((hm r hr).2.cos hH pr c).uniq hH (hp.pn hb h1 h2) hmin
  rw [← this]; exact hr
/-- The center. -/
def Ctr (G : List Int → Prop) (p : List Int) : Prop := G p ∧ ∀ q, G q → compL p q = compL q p
theorem Sgp.ctr (hG : Sgp N G) : Sgp N (Ctr G) := by
  refine ⟨fun p h => hG.pn p h.1, ⟨hG.one, fun q hq => by rw [(hG.pn q hq).idl, (hG.pn q hq).idr]⟩, fun p q hp hq => ⟨hG.mul p q hp.1 hq.1, fun r hr => ?_⟩, fun p hp => ⟨hG.inv p hp.1, fun r hr => ?_⟩⟩
  · have pp := hG.pn p hp.1
    have pq := hG.pn q hq.1
    have pr := hG.pn r hr
    rw [pp.assoc pq, hq.2 r hr, ← pp.assoc pr, hp.2 r hr, pr.assoc pp]
  · have pp := hG.pn p hp.1
    have pr := hG.pn r hr
    have e := hp.2 r hr
    refine cancel_r (pp.iv.comp pr) (pr.comp pp.iv) pp ?_
    rw [pr.assoc pp.iv, pp.ic, pr.idr, pp.iv.assoc pr, ← e, ← pp.iv.assoc pp, pp.ic, pr.idl]
end
end Go.Proofs.YtedfcljikgmpgaaGreat

/- What a set generates; normal and abelian groups by their generators; the derived subgroup by the commutators of generators and their conjugates. No Go in it. No condition. -/
namespace Go.Proofs.YtedfcljikgmpgaaGreat
open Go.RowKit

/-! ### words in permutations -/
def PG (N : Nat) : Type := {p : List Int // Pn N p}
namespace PG
variable {N : Nat}
def m (a b : PG N) : PG N := ⟨compL a.1 b.1, a.2.comp b.2⟩
def i (a : PG N) : PG N := ⟨iv a.1, a.2.iv⟩
theorem asc (a b c : PG N) : m (m a b) c = m a (m b c) := Subtype.ext (a.2.assoc b.2)
theorem c1 (a b : PG N) : m (i a) (m a b) = b := Subtype.ext (by show compL (iv a.1) (compL a.1 b.1) = b.1; rw [← a.2.iv.assoc a.2, a.2.ic, b.2.idl])
theorem c2 (a b : PG N) : m a (m (i a) b) = b := Subtype.ext (by show compL a.1 (compL (iv a.1) b.1) = b.1; rw [← a.2.assoc a.2.iv, a.2.ci, b.2.idl])
theorem ii (a : PG N) : i (i a) = a := Subtype.ext a.2.iviv
theorem im (a b : PG N) : i (m a b) = m (i b) (i a) := Subtype.ext (by
  show iv (compL a.1 b.1) = compL (iv b.1) (iv a.1)
  have hab := a.2.comp b.2
  refine cancel_r hab.iv (b.2.iv.comp a.2.iv) hab ?_
  rw [hab.ic, b.2.iv.assoc a.2.iv, ← a.2.iv.assoc a.2, a.2.ic, b.2.idl, b.2.ic])
end PG
/-- The commutator: the inverses of p and of q, then p, then q. -/
def cmt (p q : List Int) : List Int := compL (compL (iv p) (iv q)) (compL p q)
section
variable {N : Nat} {p q r : List Int}
theorem cmt_pn (hp : Pn N p) (hq : Pn N q) : Pn N (cmt p q) := (hp.iv.comp hq.iv).comp (hp.comp hq)
theorem iv_comp (hp : Pn N p) (hq : Pn N q) : iv (compL p q) = compL (iv q) (iv p) := congrArg Subtype.val (PG.im ⟨p, hp⟩ ⟨q, hq⟩)
theorem cmt_l (hp : Pn N p) (hq : Pn N q) (hr : Pn N r) : cmt (compL p r) q = compL (cj r (cmt p q)) (cmt r q) := by
  have : ∀ p q r : PG N, ((p.m r).i.m q.i).m ((p.m r).m q) = ((r.i.m ((p.i.m q.i).m (p.m q))).m r).m ((r.i.m q.i).m (r.m q)) := fun p q r => by
    simp only [PG.im, PG.asc, PG.c1, PG.c2]
  exact congrArg Subtype.val (this ⟨p, hp⟩ ⟨q, hq⟩ ⟨r, hr⟩)
theorem cmt_r (hp : Pn N p) (hq : Pn N q) (hr : Pn N r) : cmt p (compL q r) = compL (cmt p r) (cj r (cmt p q)) := by
  have : ∀ p q r : PG N, (p.i.m (q.m r).i).m (p.m (q.m r)) = ((p.i.m r.i).m (p.m r)).m ((r.i.m ((p.i.m q.i).m (p.m q))).m r) := fun p q r => by
    simp only [PG.im, PG.asc, PG.c1, PG.c2]
  exact congrArg Subtype.val (this ⟨p, hp⟩ ⟨q, hq⟩ ⟨r, hr⟩)
theorem cj_cj (hp : Pn N p) (hq : Pn N q) (hr : Pn N r) : cj (compL q r) p = cj r (cj q p) := by
  have : ∀ p q r : PG N, ((q.m r).i.m p).m (q.m r) = (r.i.m ((q.i.m p).m q)).m r := fun p q r => by simp only [PG.im, PG.asc]
  exact congrArg Subtype.val (this ⟨p, hp⟩ ⟨q, hq⟩ ⟨r, hr⟩)
theorem cj_cmt (hp : Pn N p) (hq : Pn N q) (hr : Pn N r) : cj r (cmt p q) = cmt (cj r p) (cj r q) := by
  have : ∀ p q r : PG N, (r.i.m ((p.i.m q.i).m (p.m q))).m r = (((r.i.m p).m r).i.m ((r.i.m q).m r).i).m (((r.i.m p).m r).m ((r.i.m q).m r)) := fun p q r => by
    simp only [PG.im, PG.asc, PG.c1, PG.c2, PG.ii]
  exact congrArg Subtype.val (this ⟨p, hp⟩ ⟨q, hq⟩ ⟨r, hr⟩)
theorem cmt_inv (hp : Pn N p) (hq : Pn N q) : iv (cmt p q) = cmt q p := by
  have : ∀ p q : PG N, ((p.i.m q.i).m (p.m q)).i = (q.i.m p.i).m (q.m p) := fun p q => by simp only [PG.im, PG.asc, PG.ii]
  exact congrArg Subtype.val (this ⟨p, hp⟩ ⟨q, hq⟩)
theorem cmt_one (hp : Pn N p) (hq : Pn N q) : cmt p q = idL N ↔ compL p q = compL q p := by
  have hpq := hp.comp hq
  have hqp := hq.comp hp
  have e : cmt p q = compL (iv (compL q p)) (compL p q) := by rw [iv_comp hq hp]; rfl
  rw [e]
  constructor
  · intro h
    have : compL (compL q p) (compL (iv (compL q p)) (compL p q)) = compL (compL q p) (idL N) := by rw [h]
    rwa [← hqp.assoc hqp.iv, hqp.ci, hpq.idl, hqp.idr] at this
  · intro h
    rw [h, hqp.ic]
theorem cmt_id_l (hq : Pn N q) : cmt (idL N) q = idL N := (cmt_one (pn_id hq.pos.1 hq.pos.2) hq).2 (by rw [hq.idl, hq.idr])
theorem cmt_id_r (hp : Pn N p) : cmt p (idL N) = idL N := (cmt_one hp (pn_id hp.pos.1 hp.pos.2)).2 (by rw [hp.idl, hp.idr])
end

/-! ### what a set generates -/
inductive Gn (N : Nat) (S : List Int → Prop) : List Int → Prop
  | one : Gn N S (idL N)
  | mul {p s : List Int} : Gn N S p → S s → Gn N S (compL p s)
section
variable {N : Nat} {S H G : List Int → Prop} {p q s : List Int} {gs hs : List (List Int)}
theorem Gn.pn (hS : ∀ s, S s → Pn N s) (h1 : 1 ≤ N) (h2 : N ≤ 20) (h : Gn N S p) : Pn N p := by
  induction h with
  | one => exact pn_id h1 h2
  | mul _ hm ih => exact ih.comp (hS _ hm)
theorem Gn.comp (hS : ∀ s, S s → Pn N s) (h1 : 1 ≤ N) (h2 : N ≤ 20) (hp : Gn N S p) (hq : Gn N S q) : Gn N S (compL p q) := by
  induction hq with
  | one => rw [(hp.pn hS h1 h2).idr]; exact hp
  | mul hq' hm ih =>
    rw [← (hp.pn hS h1 h2).assoc (hq'.pn hS h1 h2)]
    exact .mul ih hm
theorem Gn.of (hp : Pn N s) (hm : S s) : Gn N S s := by
  have := Gn.mul (Gn.one (N := N) (S := S)) hm
  rwa [hp.idl] at this
theorem sgp_gn (hS : ∀ s, S s → Pn N s) (h1 : 1 ≤ N) (h2 : N ≤ 20) : Sgp N (Gn N S) :=
  ⟨fun _ h => h.pn hS h1 h2, .one, fun _ _ a b => a.comp hS h1 h2 b, fun p hp => by
    rw [iv_pw (hp.pn hS h1 h2)]
    have : ∀ k, Gn N S (pw N p k) := fun k => by
      induction k with
      | zero => exact .one
      | succ k ih => exact ih.comp hS h1 h2 hp
    exact this _⟩
theorem Gn.le (hH : Sgp N H) (hS : ∀ s, S s → H s) (h : Gn N S p) : H p := by
  induction h with
  | one => exact hH.one
  | mul _ hm ih => exact hH.mul _ _ ih (hS _ hm)
theorem mb_le (hH : Sgp N H) (hS : ∀ s ∈ gs, H s) (h : Mb gs N p) : H p := by
  induction h with
  | one => exact hH.one
  | mul _ hm ih => exact hH.mul _ _ ih (hS _ hm)
/-- Conjugates by members of G lie in H. -/
def Nrm (G H : List Int → Prop) : Prop := ∀ p q, H p → G q → H (cj q p)
theorem cj_one (hp : Pn N p) : cj (idL N) p = p := by
  unfold cj
  rw [iv_id hp.pos.1 hp.pos.2, hp.idl, hp.idr]
theorem nrm_gens (hg : ∀ g ∈ gs, Pn N g) (hh : ∀ s ∈ hs, Pn N s) (h1 : 1 ≤ N) (h2 : N ≤ 20) (h : ∀ s ∈ hs, ∀ g ∈ gs, Mb hs N (cj g s)) : Nrm (Mb gs N) (Mb hs N) := by
  have one : ∀ g ∈ gs, ∀ p, Mb hs N p → Mb hs N (cj g p) := fun g hgm p hp => by
    induction hp with
    | one => rw [cj_id (hg g hgm)]; exact .one
    | mul hp' hm ih =>
      rw [cj_mul (hg g hgm) (hp'.pn hh h1 h2) (hh _ hm)]
      exact ih.comp hh h1 h2 (h _ hm g hgm)
  intro p q hp hq
  induction hq with
  | one =>
    have := cj_one (hp.pn hh h1 h2)
    rw [this]; exact hp
  | mul hq' hm ih =>
    rw [cj_cj (hp.pn hh h1 h2) (hq'.pn hg h1 h2) (hg _ hm)]
    exact one _ hm _ ih
/-- Any two commute. -/
def Abl (G : List Int → Prop) : Prop := ∀ p q, G p → G q → compL p q = compL q p
theorem abl_gens (hg : ∀ g ∈ gs, Pn N g) (h1 : 1 ≤ N) (h2 : N ≤ 20) (h : ∀ p ∈ gs, ∀ q ∈ gs, compL p q = compL q p) : Abl (Mb gs N) := by
  have one : ∀ g ∈ gs, ∀ p, Mb gs N p → compL p g = compL g p := fun g hgm p hp => by
    induction hp with
    | one => rw [(hg g hgm).idl, (hg g hgm).idr]
    | mul hp' hm ih =>
      have pp := hp'.pn hg h1 h2
      rw [pp.assoc (hg _ hm), h _ hm g hgm, ← pp.assoc (hg g hgm), ih, (hg g hgm).assoc pp]
  intro p q hp hq
  induction hq with
  | one => rw [(hp.pn hg h1 h2).idl, (hp.pn hg h1 h2).idr]
  | mul hq' hm ih =>
    have pp := hp.pn hg h1 h2
    have pq := hq'.pn hg h1 h2
    rw [← pp.assoc pq, ih, pq.assoc pp, one _ hm p hp, ← pq.assoc (hg _ hm)]
/-- The derived subgroup. -/
def Drv (N : Nat) (G : List Int → Prop) : List Int → Prop := Gn N fun c => ∃ p q, G p ∧ G q ∧ c = cmt p q
theorem drv_pn (hG : Sgp N G) : ∀ s, (∃ p q, G p ∧ G q ∧ s = cmt p q) → Pn N s := fun s ⟨p, q, hp, hq, e⟩ => by rw [e]; exact cmt_pn (hG.pn p hp) (hG.pn q hq)
theorem Sgp.pos (hG : Sgp N G) : 1 ≤ N ∧ N ≤ 20 := (hG.pn _ hG.one).pos
theorem Sgp.drv (hG : Sgp N G) : Sgp N (Drv N G) := sgp_gn (drv_pn hG) hG.pos.1 hG.pos.2
theorem Drv.le (hG : Sgp N G) (h : Drv N G p) : G p := Gn.le hG (fun s ⟨p, q, hp, hq, e⟩ => by
  rw [e]; exact hG.mul _ _ (hG.mul _ _ (hG.inv p hp) (hG.inv q hq)) (hG.mul _ _ hp hq)) h
theorem drv_cmt (hG : Sgp N G) (hp : G p) (hq : G q) : Drv N G (cmt p q) := .of (cmt_pn (hG.pn p hp) (hG.pn q hq)) ⟨p, q, hp, hq, rfl⟩
theorem drv_nrm (hG : Sgp N G) (hp : Drv N G p) (hq : G q) : Drv N G (cj q p) := by
  induction hp with
  | one => rw [cj_id (hG.pn q hq)]; exact .one
  | mul hp' hm ih =>
    obtain ⟨a, b, ha, hb, rfl⟩ := hm
    have pa := hG.pn a ha
    have pb := hG.pn b hb
    have pq := hG.pn q hq
    rw [cj_mul pq (hG.drv.pn _ hp') (cmt_pn pa pb), cj_cmt pa pb pq]
    exact hG.drv.mul _ _ ih (drv_cmt hG (hG.mul _ _ (hG.mul _ _ (hG.inv q hq) ha) hq) (hG.mul _ _ (hG.mul _ _ (hG.inv q hq) hb) hq))
/-- A normal subgroup with the commutators of the generators has all of them. -/
theorem cmt_gens (hg : ∀ g ∈ gs, Pn N g) (h1 : 1 ≤ N) (h2 : N ≤ 20) (hH : Sgp N H) (hn : Nrm (Mb gs N) H) (h : ∀ p ∈ gs, ∀ q ∈ gs, H (cmt p q)) (hp : Mb gs N p) (hq : Mb gs N q) : H (cmt p q) := by
  have one : ∀ g ∈ gs, ∀ q, Mb gs N q → H (cmt g q) := fun g hgm q hq => by
    induction hq with
    | one => rw [cmt_id_r (hg g hgm)]; exact hH.one
    | mul hq' hm ih =>
      rw [cmt_r (hg g hgm) (hq'.pn hg h1 h2) (hg _ hm)]
      exact hH.mul _ _ (h g hgm _ hm) (hn _ _ ih (.of (hg _ hm) hm))
  induction hp with
  | one => rw [cmt_id_l (hq.pn hg h1 h2)]; exact hH.one
  | mul hp' hm ih =>
    rw [cmt_l (hp'.pn hg h1 h2) (hq.pn hg h1 h2) (hg _ hm)]
    exact hH.mul _ _ (hn _ _ ih (.of (hg _ hm) hm)) (one _ hm q hq)
/-- The derived subgroup by generators. -/
theorem drv_gens (hg : ∀ g ∈ gs, Pn N g) (h1 : 1 ≤ N) (h2 : N ≤ 20) (hd : ∀ d ∈ hs, Drv N (Mb gs N) d) (hc : ∀ s ∈ hs, ∀ g ∈ gs, Mb hs N (cj g s)) (h : ∀ p ∈ gs, ∀ q ∈ gs, Mb hs N (cmt p q)) : Mb hs N p ↔ Drv N (Mb gs N) p := by
  have hG := sgp_mb hg h1 h2
  have hh : ∀ s ∈ hs, Pn N s := fun s hs' => hG.drv.pn s (hd s hs')
  have hH := sgp_mb hh h1 h2
  exact ⟨mb_le hG.drv hd, Gn.le hH fun s ⟨a, b, ha, hb, e⟩ => by rw [e]; exact cmt_gens hg h1 h2 hH (nrm_gens hg hh h1 h2 hc) h ha hb⟩
theorem crd_ex {g : Nat} (cG : Crd G g) (hs : ∀ p, H p → G p) : ∃ h, Crd H h := by
  classical
  obtain ⟨l, d, m, _⟩ := cG
  exact ⟨_, l.filter fun p => decide (H p), d.filter _, fun p => by rw [List.mem_filter, m, decide_eq_true_eq]; exact ⟨fun h => h.2, fun h => ⟨hs p h, h⟩⟩, rfl⟩
theorem crd_full {g h : Nat} (cG : Crd G g) (cH : Crd H h) (hs : ∀ p, H p → G p) (e : h = g) : ∀ p, G p → H p := by
  obtain ⟨l, d, m, rfl⟩ := cG
  obtain ⟨l', d', m', e'⟩ := cH
  intro p hp
  rcases Classical.em (H p) with hh | hh
  · exact hh
  · exfalso
    have := nd_subA (l' := p :: l') (l := l) (List.nodup_cons.2 ⟨fun h => hh ((m' p).1 h), d'⟩) fun x hx => by
      rcases List.mem_cons.1 hx with rfl | hx
      · exact (m _).2 hp
      · exact (m _).2 (hs _ ((m' _).1 hx))
    rw [List.length_cons] at this
    omega
/-- A greater group is at least twice as great. -/
theorem dbl {h k : Nat} {K : List Int → Prop} (hK : Sgp N K) (hH : Sgp N H) (hs : ∀ p, H p → K p) (cK : Crd K k) (cH : Crd H h) (hp : K p) (hn : ¬ H p) : 2 * h ≤ k := by
  obtain ⟨j, _, rfl⟩ := lagr hK hH hs cK cH
  rcases Nat.lt_or_ge j 2 with hj | hj
  · exfalso
    have h1 : 1 ≤ h := by
      have := crd_sub (crd_one (idL N)) cH fun x hx => by subst hx; exact hH.one
      exact this
    have h2 : 1 ≤ j * h := by
      have := crd_sub (crd_one (idL N)) cK fun x hx => by subst hx; exact hK.one
      exact this
    obtain rfl : j = 1 := by
      rcases j with _ | _ | j
      · rw [Nat.zero_mul] at h2; omega
      · rfl
      · omega
    exact hn (crd_full cK cH hs (Nat.one_mul h).symm p hp)
  · exact Nat.mul_le_mul_right h hj
/-- Abelian exactly if the center is all. -/
theorem abl_ctr {g c : Nat} (cG : Crd G g) (cC : Crd (Ctr G) c) : Abl G ↔ c = g := by
  constructor
  · intro ha
    exact cC.uniq (cG.congr fun p => ⟨fun h => ⟨h, fun q hq => ha p q h hq⟩, fun h => h.1⟩)
  · intro e p q hp hq
    exact (crd_full cG cC (fun p h => h.1) e p hp).2 q hq
/-- Abelian exactly if the derived subgroup is trivial. -/
theorem abl_drv {d : Nat} (hG : Sgp N G) (cD : Crd (Drv N G) d) : Abl G ↔ d = 1 := by
  constructor
  · intro ha
    refine cD.uniq ((crd_one (idL N)).congr fun p => ⟨fun e => e ▸ hG.drv.one, fun h => ?_⟩)
    have hS : Sgp N fun p => p = idL N := ⟨fun p e => e ▸ hG.pn _ hG.one, rfl, fun p q e e' => by rw [e, e', (hG.pn _ hG.one).idl], fun p e => by rw [e, iv_id hG.pos.1 hG.pos.2]⟩
    exact Gn.le (H := fun p => p = idL N) hS (fun s ⟨a, b, ha', hb', e⟩ => by rw [e]; exact (cmt_one (hG.pn a ha') (hG.pn b hb')).2 (ha a b ha' hb')) h
  · rintro rfl p q hp hq
    obtain ⟨l, _, m, el⟩ := cD
    have h1 := (m _).2 (drv_cmt hG hp hq)
    have h2 := (m _).2 hG.drv.one
    match l, el, h1, h2 with
    | [x], _, h1, h2 =>
      rw [List.mem_singleton] at h1 h2
      exact (cmt_one (hG.pn p hp) (hG.pn q hq)).1 (h1.trans h2.symm)
end
end Go.Proofs.YtedfcljikgmpgaaGreat

/- What the functions of chapter 5 answer. No Go in it. No condition. -/
namespace Go.Proofs.YtedfcljikgmpgaaGreat
open Go.RowKit

/-- Generators, and a permutation of their degree. -/
def Vld (a : Int) (gs : List (List Int)) (p : List Int) : Prop := gB a gs = true ∧ (p.length : Int) = a ∧ isP p = true
def IsCmb (a : Int) (gs : List (List Int)) (p : List Int) (v : Int) : Prop := (Vld a gs p ∧ ∃ c : Nat, Rk a.toNat gs p c ∧ v = (c : Int)) ∨ (¬ Vld a gs p ∧ v = -1)
def IsRnk (a : Int) (gs : List (List Int)) (p : List Int) (v : Int) : Prop := (Memb a gs p ∧ ∃ c : Nat, Rk a.toNat gs p c ∧ v = (c : Int)) ∨ (¬ Memb a gs p ∧ v = -1)
def IsMat (a : Int) (gs : List (List Int)) (k : Int) (m : List Int) (ok : Bool) : Prop :=
  (gB a gs = true ∧ ok = true ∧ Mb gs a.toNat m ∧ ∃ c : Nat, Rk a.toNat gs m c ∧ k = (c : Int)) ∨ (ok = false ∧ m = [] ∧ (gB a gs = true → ∀ q, Mb gs a.toNat q → ∀ c : Nat, Rk a.toNat gs q c → k ≠ (c : Int)))
def IsNxt (a : Int) (gs : List (List Int)) (p m : List Int) (ok : Bool) : Prop :=
  (Vld a gs p ∧ ∃ (c : Nat) (b : Bool), Rk a.toNat gs p c ∧ (b = true ↔ Memb a gs p) ∧ IsMat a gs ((c : Int) + (if b = true then 1 else 0)) m ok) ∨ (¬ Vld a gs p ∧ m = [] ∧ ok = false)
def IsFst (a : Int) (gs : List (List Int)) (m : List Int) (ok : Bool) : Prop := IsMat a gs 1 m ok
/-- No more than 3000 members. -/
def Few (a : Int) (gs : List (List Int)) : Prop := gB a gs = true ∧ ∃ V : Nat, Crd (Mb gs a.toNat) V ∧ V ≤ 3000
def IsMbs (a : Int) (gs l : List (List Int)) : Prop := (Few a gs ∧ l.Pairwise (LxI a.toNat) ∧ ∀ p, p ∈ l ↔ Mb gs a.toNat p) ∨ (¬ Few a gs ∧ l = [])
/-- The states of the generator behind a seed. -/
def seed0 (s : Int) : Int := (s.tmod 999999937 + 999999937).tmod 999999937
def stt (s : Int) : Nat → Int
  | 0 => seed0 s
  | i + 1 => (stt s i * 48271 + 11).tmod 999999937
def IsRnd (a : Int) (gs : List (List Int)) (s : Int) (m : List Int) (ok : Bool) : Prop :=
  (gB a gs = true ∧ ok = true ∧ Mb gs a.toNat m ∧ ∀ i, i < a.toNat → ∀ zs, ChL a.toNat gs m i zs → (nx m i : Int) = zs.getD (((stt s (i + 1)).tmod (zs.length : Int)).toNat) 0) ∨ (gB a gs = false ∧ ok = false ∧ m = [])
theorem IsCmb.uniq {a v v' : Int} {gs : List (List Int)} {p : List Int} (h : IsCmb a gs p v) (h' : IsCmb a gs p v') : v = v' := by
  rcases h with ⟨e, c, h, rfl⟩ | ⟨e, rfl⟩ <;> rcases h' with ⟨e', c', h', rfl⟩ | ⟨e', rfl⟩
  · rw [Crd.uniq h h']
  · exact absurd e e'
  · exact absurd e' e
  · rfl
theorem IsRnk.uniq {a v v' : Int} {gs : List (List Int)} {p : List Int} (h : IsRnk a gs p v) (h' : IsRnk a gs p v') : v = v' := by
  rcases h with ⟨e, c, h, rfl⟩ | ⟨e, rfl⟩ <;> rcases h' with ⟨e', c', h', rfl⟩ | ⟨e', rfl⟩
  · rw [Crd.uniq h h']
  · exact absurd e e'
  · exact absurd e' e
  · rfl
theorem IsMat.uniq {a k : Int} {gs : List (List Int)} {m m' : List Int} {ok ok' : Bool} (h : IsMat a gs k m ok) (h' : IsMat a gs k m' ok') : m = m' ∧ ok = ok' := by
  rcases h with ⟨e, rfl, hm, c, hc, ek⟩ | ⟨rfl, rfl, hn⟩ <;> rcases h' with ⟨e', rfl, hm', c', hc', ek'⟩ | ⟨rfl, rfl, hn'⟩
  · obtain ⟨N, rfl, h1, h2, _, _, ok⟩ := gB_pm e
    rw [Int.toNat_natCast] at hm hm' hc hc'
    obtain rfl : c = c' := by omega
    exact ⟨rk_inj ok h1 h2 hc hc' hm hm', rfl⟩
  · exact absurd ek (hn' e m hm c hc)
  · exact absurd ek' (hn e' m' hm' c' hc')
  · exact ⟨rfl, rfl⟩
theorem IsMat.len {a k : Int} {gs : List (List Int)} {m : List Int} {ok : Bool} (h : IsMat a gs k m ok) : m.length ≤ 20 := by
  rcases h with ⟨e, _, hm, _⟩ | ⟨_, rfl, _⟩
  · obtain ⟨N, rfl, h1, h2, _, _, ok⟩ := gB_pm e
    rw [Int.toNat_natCast] at hm
    rw [(hm.pn ok h1 h2).2]; exact h2
  · simp
theorem IsNxt.uniq {a : Int} {gs : List (List Int)} {p m m' : List Int} {ok ok' : Bool} (h : IsNxt a gs p m ok) (h' : IsNxt a gs p m' ok') : m = m' ∧ ok = ok' := by
  rcases h with ⟨e, c, b, hc, hb, h⟩ | ⟨e, rfl, rfl⟩ <;> rcases h' with ⟨e', c', b', hc', hb', h'⟩ | ⟨e', rfl, rfl⟩
  · obtain rfl : c = c' := Crd.uniq hc hc'
    obtain rfl : b = b' := by rw [Bool.eq_iff_iff, hb, hb']
    exact h.uniq h'
  · exact absurd e e'
  · exact absurd e' e
  · exact ⟨rfl, rfl⟩
theorem IsNxt.len {a : Int} {gs : List (List Int)} {p m : List Int} {ok : Bool} (h : IsNxt a gs p m ok) : m.length ≤ 20 := by
  rcases h with ⟨_, c, b, _, _, h⟩ | ⟨_, rfl, _⟩
  · exact h.len
  · simp
theorem IsFst.uniq {a : Int} {gs : List (List Int)} {m m' : List Int} {ok ok' : Bool} (h : IsFst a gs m ok) (h' : IsFst a gs m' ok') : m = m' ∧ ok = ok' := IsMat.uniq h h'
theorem IsFst.len {a : Int} {gs : List (List Int)} {m : List Int} {ok : Bool} (h : IsFst a gs m ok) : m.length ≤ 20 := IsMat.len h
theorem lx_nodup {N : Nat} {l : List (List Int)} (h : l.Pairwise (LxI N)) : l.Nodup := List.Pairwise.imp (S := fun a b => a ≠ b) (fun {a b} hab e => by subst e; exact LxI.irr hab) h
theorem lx_sorted_uniq {N : Nat} {l l' : List (List Int)} (h : l.Pairwise (LxI N)) (h' : l'.Pairwise (LxI N)) (hm : ∀ p, p ∈ l ↔ p ∈ l') : l = l' := by
  have n1 := lx_nodup h
  have n2 := lx_nodup h'
  exact ((List.perm_ext_iff_of_nodup n1 n2).2 hm).eq_of_pairwise (le := LxI N) (fun a b _ _ h1 h2 => absurd (h1.trans h2) LxI.irr) h h'
theorem IsMbs.uniq {a : Int} {gs l l' : List (List Int)} (h : IsMbs a gs l) (h' : IsMbs a gs l') : l = l' := by
  rcases h with ⟨e, h, m⟩ | ⟨e, rfl⟩ <;> rcases h' with ⟨e', h', m'⟩ | ⟨e', rfl⟩
  · exact lx_sorted_uniq h h' fun p => (m p).trans (m' p).symm
  · exact absurd e e'
  · exact absurd e' e
  · rfl
theorem IsMbs.len {a : Int} {gs l : List (List Int)} (h : IsMbs a gs l) : l.length ≤ 3000 ∧ ∀ y ∈ l, y.length ≤ 20 := by
  rcases h with ⟨⟨e, V, hV, hle⟩, h, m⟩ | ⟨e, rfl⟩
  · obtain ⟨N, rfl, h1, h2, _, _, ok⟩ := gB_pm e
    rw [Int.toNat_natCast] at h m hV
    have n1 := lx_nodup h
    have : l.length ≤ V := crd_sub ⟨l, n1, fun _ => Iff.rfl, rfl⟩ hV fun x hx => (m x).1 hx
    exact ⟨by omega, fun y hy => by rw [(((m y).1 hy).pn ok h1 h2).2]; exact h2⟩
  · exact ⟨by simp, fun y hy => by cases hy⟩
theorem boundMbs {a : Int} {gs l : List (List Int)} (h : IsMbs a gs l) : l.length ≤ 1048576 ∧ (∀ i, i < l.length → (l.getD i []).length ≤ 1048576) ∧ sumL l ≤ 1048576 :=
  bound_all (m := 3000) (k := 20) h.len.1 h.len.2 (by omega)
/-- A list of the entries there is. -/
theorem ChL.ex {N i : Nat} {gs : List (List Int)} (hg : ∀ g ∈ gs, Pn N g) (h1 : 1 ≤ N) (h2 : N ≤ 20) (hi : i < N) (m : List Int) : ∃ zs, ChL N gs m i zs := by
  classical
  refine ⟨((List.range N).filter fun v => decide (∃ q, Mb gs N q ∧ Ag i q m ∧ nx q i = v)).map Int.ofNat, ?_, fun v => ?_⟩
  · rw [List.pairwise_map]
    exact (List.pairwise_lt_range.filter _).imp fun hab => by show (_ : Int) < _; exact Int.ofNat_lt.2 hab
  · rw [List.mem_map]
    constructor
    · rintro ⟨y, hy, rfl⟩
      obtain ⟨_, hq⟩ := List.mem_filter.1 hy
      obtain ⟨q, a, b, e⟩ := of_decide_eq_true hq
      exact ⟨q, a, b, by show _ = (y : Int); omega⟩
    · rintro ⟨q, a, b, rfl⟩
      exact ⟨nx q i, List.mem_filter.2 ⟨List.mem_range.2 ((a.pn hg h1 h2).lt hi), decide_eq_true ⟨q, a, b, rfl⟩⟩, rfl⟩
theorem IsRnd.uniq {a s : Int} {gs : List (List Int)} {m m' : List Int} {ok ok' : Bool} (h : IsRnd a gs s m ok) (h' : IsRnd a gs s m' ok') : m = m' ∧ ok = ok' := by
  rcases h with ⟨e, rfl, hm, h⟩ | ⟨e, rfl, rfl⟩ <;> rcases h' with ⟨e', rfl, hm', h'⟩ | ⟨e', rfl, rfl⟩
  · obtain ⟨N, rfl, h1, h2, _, _, ok⟩ := gB_pm e
    rw [Int.toNat_natCast] at hm hm' h h'
    have hp := hm.pn ok h1 h2
    have hp' := hm'.pn ok h1 h2
    have key : ∀ i, i ≤ N → Ag i m m' := fun i => by
      induction i with
      | zero => exact fun _ t ht => absurd ht (Nat.not_lt_zero _)
      | succ i ih =>
        intro hi
        have ha := ih (by omega)
        refine ag_succ.2 ⟨ha, ?_⟩
        obtain ⟨zs, hz⟩ := ChL.ex ok h1 h2 (show i < N by omega) m
        have e1 := h i (by omega) zs hz
        have e2 := h' i (by omega) zs (hz.ag ha)
        omega
    exact ⟨hp.ext hp' (key N (Nat.le_refl _)), rfl⟩
  · rw [e] at e'; cases e'
  · rw [e] at e'; cases e'
  · exact ⟨rfl, rfl⟩
theorem IsRnd.len {a s : Int} {gs : List (List Int)} {m : List Int} {ok : Bool} (h : IsRnd a gs s m ok) : m.length ≤ 20 := by
  rcases h with ⟨e, _, hm, _⟩ | ⟨_, _, rfl⟩
  · obtain ⟨N, rfl, h1, h2, _, _, ok⟩ := gB_pm e
    rw [Int.toNat_natCast] at hm
    rw [(hm.pn ok h1 h2).2]; exact h2
  · simp
end Go.Proofs.YtedfcljikgmpgaaGreat

/- What the functions of chapter 6 answer, and the shapes of their contracts. No Go in it. No condition. -/
namespace Go.Proofs.YtedfcljikgmpgaaGreat
open Go.RowKit

/-- What xa generates lies in what xb generates. -/
def SubG (a : Int) (xa xb : List (List Int)) : Prop := gB a xa = true ∧ gB a xb = true ∧ ∀ g ∈ xa, Mb xb a.toNat g
def IsSub (a : Int) (xa xb : List (List Int)) (b : Bool) : Prop := b = true ↔ SubG a xa xb
def IsIdx (a : Int) (xa xb : List (List Int)) (v : Int) : Prop := (SubG a xa xb ∧ ∃ k : Nat, Crd (fun p => Mb xb a.toNat p ∧ CMin a.toNat (Mb xa a.toNat) p p) k ∧ v = (k : Int)) ∨ (¬ SubG a xa xb ∧ v = 0)
def IsSco (a : Int) (xa : List (List Int)) (p q : List Int) (b : Bool) : Prop := b = true ↔ Vld a xa p ∧ Vld a xa q ∧ Cos (Mb xa a.toNat) p q
def IsCmi (a : Int) (xa : List (List Int)) (p m : List Int) : Prop := (Vld a xa p ∧ CMin a.toNat (Mb xa a.toNat) p m) ∨ (¬ Vld a xa p ∧ m = [])
/-- At most 200 cosets. -/
def FewC (a : Int) (xa xb : List (List Int)) : Prop := SubG a xa xb ∧ ∃ k : Nat, Crd (fun p => Mb xb a.toNat p ∧ CMin a.toNat (Mb xa a.toNat) p p) k ∧ k ≤ 200
def IsRep (a : Int) (xa xb l : List (List Int)) : Prop := (FewC a xa xb ∧ l.Pairwise (LxI a.toNat) ∧ ∀ p, p ∈ l ↔ Mb xb a.toNat p ∧ CMin a.toNat (Mb xa a.toNat) p p) ∨ (¬ FewC a xa xb ∧ l = [])
def IsNor (a : Int) (xa xb : List (List Int)) (b : Bool) : Prop := b = true ↔ SubG a xa xb ∧ Nrm (Mb xb a.toNat) (Mb xa a.toNat)
def IsAbl (a : Int) (xa : List (List Int)) (b : Bool) : Prop := b = true ↔ gB a xa = true ∧ Abl (Mb xa a.toNat)
def IsCtr (a : Int) (xa : List (List Int)) (v : Int) : Prop := (Few a xa ∧ ∃ c : Nat, Crd (Ctr (Mb xa a.toNat)) c ∧ v = (c : Int)) ∨ (¬ Few a xa ∧ v = 0)
def IsDer (a : Int) (xa : List (List Int)) (v : Int) : Prop := (gB a xa = true ∧ ∃ c : Nat, Crd (Drv a.toNat (Mb xa a.toNat)) c ∧ v = (c : Int)) ∨ (gB a xa = false ∧ v = 0)

section
variable {a v v' : Int} {xa xb l l' : List (List Int)} {p q m m' : List Int} {b b' : Bool}
theorem gB_sgp (h : gB a xa = true) : Sgp a.toNat (Mb xa a.toNat) := by
  obtain ⟨N, rfl, h1, h2, _, _, ok⟩ := gB_pm h
  rw [Int.toNat_natCast]
  exact sgp_mb ok h1 h2
theorem gB_crd (h : gB a xa = true) : ∃ V, Crd (Mb xa a.toNat) V ∧ 1 ≤ V ∧ V ≤ 2432902008176640000 := by
  obtain ⟨N, rfl, h1, h2, _, _, ok⟩ := gB_pm h
  classical
  rw [Int.toNat_natCast]
  have hx : IsOS N xa ((List.range N).map fun i => (((List.range N).filter fun y => decide (∃ p, Mb xa N p ∧ Fx i p ∧ nx p i = y)).length : Int)) := ⟨by simp, fun i hi => ⟨(List.range N).filter fun y => decide (∃ p, Mb xa N p ∧ Fx i p ∧ nx p i = y), List.nodup_range.filter _, fun y => by rw [List.mem_filter, List.mem_range, decide_eq_true_eq], by
    rw [List.getD_eq_getElem?_getD, List.getElem?_map, List.getElem?_range hi]; rfl⟩⟩
  obtain ⟨V, hV, e⟩ := hx.order ok h1 h2
  have hp := hx.pr_le ok h1 h2 0 N (by omega)
  have hf := facts_le h2 (0 + N) (by omega)
  rw [prodL_pr, hx.1] at e
  exact ⟨V, hV, by omega, by omega⟩
theorem Vld.pn (h : Vld a xa p) : Pn a.toNat p := ⟨isP_iff.1 h.2.2, by have := h.2.1; omega⟩
theorem IsSub.uniq (h : IsSub a xa xb b) (h' : IsSub a xa xb b') : b = b' := by unfold IsSub at h h'; rw [Bool.eq_iff_iff, h, h']
theorem IsIdx.uniq (h : IsIdx a xa xb v) (h' : IsIdx a xa xb v') : v = v' := by
  rcases h with ⟨e, c, h, rfl⟩ | ⟨e, rfl⟩ <;> rcases h' with ⟨e', c', h', rfl⟩ | ⟨e', rfl⟩
  · rw [Crd.uniq h h']
  · exact absurd e e'
  · exact absurd e' e
  · rfl
theorem IsSco.uniq (h : IsSco a xa p q b) (h' : IsSco a xa p q b') : b = b' := by unfold IsSco at h h'; rw [Bool.eq_iff_iff, h, h']
theorem IsCmi.uniq (h : IsCmi a xa p m) (h' : IsCmi a xa p m') : m = m' := by
  rcases h with ⟨e, h⟩ | ⟨e, rfl⟩ <;> rcases h' with ⟨e', h'⟩ | ⟨e', rfl⟩
  · exact h.uniq (gB_sgp e.1) e.pn h'
  · exact absurd e e'
  · exact absurd e' e
  · rfl
theorem IsCmi.len (h : IsCmi a xa p m) : m.length ≤ 20 := by
  rcases h with ⟨e, h⟩ | ⟨_, rfl⟩
  · have hm := h.1.pn (gB_sgp e.1) e.pn
    have := hm.1.le
    exact this
  · simp
theorem IsRep.uniq (h : IsRep a xa xb l) (h' : IsRep a xa xb l') : l = l' := by
  rcases h with ⟨e, h, m⟩ | ⟨e, rfl⟩ <;> rcases h' with ⟨e', h', m'⟩ | ⟨e', rfl⟩
  · exact lx_sorted_uniq h h' fun p => (m p).trans (m' p).symm
  · exact absurd e e'
  · exact absurd e' e
  · rfl
theorem IsRep.len (h : IsRep a xa xb l) : l.length ≤ 200 ∧ ∀ y ∈ l, y.length ≤ 20 := by
  rcases h with ⟨⟨e, k, hk, hle⟩, h, m⟩ | ⟨_, rfl⟩
  · have n1 := lx_nodup h
    have : l.length ≤ k := crd_sub ⟨l, n1, fun _ => Iff.rfl, rfl⟩ hk fun x hx => (m x).1 hx
    refine ⟨by omega, fun y hy => ?_⟩
    have := ((gB_sgp e.2.1).pn y ((m y).1 hy).1).1.le
    exact this
  · exact ⟨by simp, fun y hy => by cases hy⟩
theorem boundRep (h : IsRep a xa xb l) : l.length ≤ 1048576 ∧ (∀ i, i < l.length → (l.getD i []).length ≤ 1048576) ∧ sumL l ≤ 1048576 :=
  bound_all (m := 200) (k := 20) h.len.1 h.len.2 (by omega)
theorem IsNor.uniq (h : IsNor a xa xb b) (h' : IsNor a xa xb b') : b = b' := by unfold IsNor at h h'; rw [Bool.eq_iff_iff, h, h']
theorem IsAbl.uniq (h : IsAbl a xa b) (h' : IsAbl a xa b') : b = b' := by unfold IsAbl at h h'; rw [Bool.eq_iff_iff, h, h']
theorem IsCtr.uniq (h : IsCtr a xa v) (h' : IsCtr a xa v') : v = v' := by
  rcases h with ⟨e, c, h, rfl⟩ | ⟨e, rfl⟩ <;> rcases h' with ⟨e', c', h', rfl⟩ | ⟨e', rfl⟩
  · rw [Crd.uniq h h']
  · exact absurd e e'
  · exact absurd e' e
  · rfl
theorem IsDer.uniq (h : IsDer a xa v) (h' : IsDer a xa v') : v = v' := by
  rcases h with ⟨e, c, h, rfl⟩ | ⟨e, rfl⟩ <;> rcases h' with ⟨e', c', h', rfl⟩ | ⟨e', rfl⟩
  · rw [Crd.uniq h h']
  · rw [e] at e'; cases e'
  · rw [e] at e'; cases e'
  · rfl
/-- The index by the orders. -/
theorem idx_ord {Va Vb : Nat} (hs : SubG a xa xb) (ha : Crd (Mb xa a.toNat) Va) (hb : Crd (Mb xb a.toNat) Vb) : ∃ k, Crd (fun p => Mb xb a.toNat p ∧ CMin a.toNat (Mb xa a.toNat) p p) k ∧ Vb = k * Va :=
  lagr (gB_sgp hs.2.1) (gB_sgp hs.1) (fun p hp => mb_le (gB_sgp hs.2.1) hs.2.2 hp) hb ha
end

/-! ### shapes -/
def CtImmI (F : Nat) (R : Int → List (List Int) → List (List Int) → Int → Prop) : Prop := ∀ (a : Int) (A : Option Addr) (n c : Nat) (vs : List SV) (xss : List (List Int)) (M : Option Addr) (m cm : Nat) (us : List SV) (yss : List (List Int)) (w : World), GIn w A n vs xss → GIn w M m us yss → I64 a →
  Calls Tryz.prog F #[.int .i64 a, .slice A n c, .slice M m cm] w fun e w' => ∃ v, e = .returned (.int .i64 v) ∧ R a xss yss v ∧ Below w.heap.size w w'
def CtImmM (F : Nat) (R : Int → List (List Int) → List (List Int) → List (List Int) → Prop) : Prop := ∀ (a : Int) (A : Option Addr) (n c : Nat) (vs : List SV) (xss : List (List Int)) (M : Option Addr) (m cm : Nat) (us : List SV) (yss : List (List Int)) (w : World), GIn w A n vs xss → GIn w M m us yss → I64 a →
  Calls Tryz.prog F #[.int .i64 a, .slice A n c, .slice M m cm] w fun e w' => ∃ A' m' c' us' l, e = .returned (.slice A' m' c') ∧ SS w' w.heap.size w.heap.size A' m' c' us' l ∧ R a xss yss l ∧ Below w.heap.size w w'
def CtImssB (F : Nat) (R : Int → List (List Int) → List Int → List Int → Bool → Prop) : Prop := ∀ (a : Int) (A : Option Addr) (n c : Nat) (vs : List SV) (xss : List (List Int)) (P : Option Addr) (np cp : Nat) (p : List Int) (Q : Option Addr) (nq cq : Nat) (q : List Int) (w : World), GIn w A n vs xss → SIn w P np cp p → SIn w Q nq cq q → I64 a →
  Calls Tryz.prog F #[.int .i64 a, .slice A n c, .slice P np cp, .slice Q nq cq] w fun e w' => ∃ v, e = .returned (.bool v) ∧ R a xss p q v ∧ Below w.heap.size w w'
def CtImsS (F : Nat) (R : Int → List (List Int) → List Int → List Int → Prop) : Prop := ∀ (a : Int) (A : Option Addr) (n c : Nat) (vs : List SV) (xss : List (List Int)) (P : Option Addr) (np cp : Nat) (p : List Int) (w : World), GIn w A n vs xss → SIn w P np cp p → I64 a →
  Calls Tryz.prog F #[.int .i64 a, .slice A n c, .slice P np cp] w fun e w' => ∃ A' m c' zs, e = .returned (.slice A' m c') ∧ Slc w' w.heap.size A' m c' zs ∧ R a xss p zs ∧ Below w.heap.size w w'
end Go.Proofs.YtedfcljikgmpgaaGreat

/- The shapes of chapter 7's contracts. No condition. -/
namespace Go.Proofs.YtedfcljikgmpgaaGreat
open Go.RowKit

def CtImmMB (F : Nat) (R : Int → List (List Int) → List (List Int) → List (List Int) → Bool → Prop) : Prop := ∀ (a : Int) (A : Option Addr) (n c : Nat) (vs : List SV) (xss : List (List Int)) (M : Option Addr) (m cm : Nat) (us : List SV) (yss : List (List Int)) (w : World), GIn w A n vs xss → GIn w M m us yss → I64 a →
  Calls Tryz.prog F #[.int .i64 a, .slice A n c, .slice M m cm] w fun e w' => ∃ A' m' c' us' l ok, e = .returned (.tuple #[.slice A' m' c', .bool ok]) ∧ SS w' w.heap.size w.heap.size A' m' c' us' l ∧ R a xss yss l ok ∧ Below w.heap.size w w'
def CtImiiM (F : Nat) (R : Int → List (List Int) → Int → Int → List (List Int) → Prop) : Prop := ∀ (a : Int) (A : Option Addr) (n c : Nat) (vs : List SV) (xss : List (List Int)) (x y : Int) (w : World), GIn w A n vs xss → I64 a → I64 x → I64 y →
  Calls Tryz.prog F #[.int .i64 a, .slice A n c, .int .i64 x, .int .i64 y] w fun e w' => ∃ A' m' c' us l, e = .returned (.slice A' m' c') ∧ SS w' w.heap.size w.heap.size A' m' c' us l ∧ R a xss x y l ∧ Below w.heap.size w w'
theorem getD_mapL {f : List Int → List Int} {l : List (List Int)} {i : Nat} (h : i < l.length) : (l.map f).take (i + 1) = (l.map f).take i ++ [f (l.getD i [])] := by
  rw [List.take_succ_eq_append_getElem (by rw [List.length_map]; exact h), List.getElem_map, getD_L h]
/-- The bounds of an order. -/
theorem ord_bnd {a : Int} {gs : List (List Int)} {v : Int} (h : IsOrd a gs v) : 0 ≤ v ∧ v ≤ 2432902008176640000 := by
  rcases h with ⟨e, xs, h, rfl⟩ | ⟨_, rfl⟩
  · obtain ⟨N, rfl, h1, h2, _, _, ok⟩ := gB_pm e
    rw [Int.toNat_natCast] at h
    have hp := h.pr_le ok h1 h2 0 N (by omega)
    have hf := facts_le h2 (0 + N) (by omega)
    rw [prodL_pr, h.1]
    omega
  · omega
end Go.Proofs.YtedfcljikgmpgaaGreat

/- mergeLabels, labelsToBlocks and minimalBlocks of the model. Conditions: at most 20 points, 8 generators. -/
namespace Go.Proofs.YtedfcljikgmpgaaGreat
open Go.RowKit

def mrgL (ls : List Int) (a b : Int) : List Int := ls.map fun x => if x = b then a else x
theorem mrgL_len {ls : List Int} {a b : Int} : (mrgL ls a b).length = ls.length := by simp [mrgL]
theorem mrgL_getD {ls : List Int} {a b : Int} {u : Nat} (h : u < ls.length) : (mrgL ls a b).getD u 0 = if ls.getD u 0 = b then a else ls.getD u 0 := by
  rw [getD_eq (by rw [mrgL_len]; exact h), getD_eq h]; simp [mrgL]
/-- Labels of the points: points themselves. -/
structure Lbl (N : Nat) (ls : List Int) : Prop where
  len : ls.length = N
  lo : ∀ u, u < N → 0 ≤ ls.getD u 0
  hi : ∀ u, u < N → ls.getD u 0 < N
section
variable {N u v : Nat} {ls : List Int}
theorem Lbl.val (h : Lbl N ls) (hu : u < N) : ls.getD u 0 = (nx ls u : Int) := by
  have := h.lo u hu
  unfold nx; omega
theorem Lbl.lt (h : Lbl N ls) (hu : u < N) : nx ls u < N := by
  have h1 := h.val hu
  have := h.hi u hu
  omega
theorem Lbl.eq (h : Lbl N ls) (hu : u < N) (hv : v < N) : ls.getD u 0 = ls.getD v 0 ↔ nx ls u = nx ls v := by
  rw [h.val hu, h.val hv]; omega
theorem lbl_id (N : Nat) : Lbl N (idL N) := ⟨idL_length N, fun u hu => by rw [idL_getD hu]; omega, fun u hu => by rw [idL_getD hu]; omega⟩
theorem Lbl.mrg (h : Lbl N ls) {a b : Nat} (ha : a < N) : Lbl N (mrgL ls (a : Int) (b : Int)) ∧ ∀ u, u < N → nx (mrgL ls (a : Int) (b : Int)) u = if nx ls u = b then a else nx ls u := by
  have key : ∀ u, u < N → (mrgL ls (a : Int) (b : Int)).getD u 0 = ((if nx ls u = b then a else nx ls u : Nat) : Int) := fun u hu => by
    rw [mrgL_getD (by rw [h.len]; exact hu), h.val hu]
    by_cases e : nx ls u = b
    · rw [if_pos (by omega), if_pos e]
    · rw [if_neg (by omega), if_neg e]
  refine ⟨⟨by rw [mrgL_len]; exact h.len, fun u hu => ?_, fun u hu => ?_⟩, fun u hu => ?_⟩
  · rw [key u hu]; omega
  · rw [key u hu]
    have := h.lt hu
    split <;> omega
  · unfold nx
    rw [key u hu]
    rfl
end

set_option maxHeartbeats 2000000 in
set_option maxRecDepth 100000 in
/-- mergeLabels. -/
theorem specMrg (N c : Nat) (A : Option Addr) (ls : List Int) (a b : Int) (w : World) (hp : RI w w.heap.size A ls) (lp : Hid (ls.length = N)) (h1 : 1 ≤ N) (h2 : N ≤ 20) :
    Calls Tryz.prog 42 #[.slice A N c, .int .i64 a, .int .i64 b] w fun e w' => ∃ A' c', e = .returned (.slice A' N c') ∧ Slc w' w.heap.size A' N c' (mrgL ls a b) ∧ Below w.heap.size w w' := by
  have HP := Lib.hid hp
  clear hp
  go_enter Tryz.func42, Tryz.ntmps42
  go_wp2_with fail
  refine (copyAny A N c ls w HP.out lp (by omega)).mono ?_
  rintro e w1 ⟨A1, c1, rfl, s1, b1⟩
  obtain ⟨g, rfl, hg1, hg2⟩ : ∃ g, A1 = some ⟨g, 0, none⟩ ∧ w.heap.size ≤ g ∧ g < w1.heap.size := by
    rcases s1.at_ with ⟨_, _, e, _⟩ | x
    · omega
    · exact x
  have R1 : Hid (Row w1 w.heap.size g N c1 ls) := Lib.hid (by
    exact Row.of_own s1.2)
  have B1 := Lib.hid b1
  clear s1 b1
  go_wp2_with fail
  go_loopw [8] (fun iv wr => ∃ (i : Nat) (zs : List Int), i ≤ N ∧ iv = .int .i64 (i : Nat) ∧ Row wr w.heap.size g N c1 zs ∧ (∀ j, j < N → zs.getD j 0 = if j < i then (mrgL ls a b).getD j 0 else ls.getD j 0) ∧ Below w.heap.size w wr) (fun iv _ => N - (intOf iv).toNat)
  case atStart => exact ⟨0, ls, Nat.zero_le _, rfl, R1.out, fun j _ => by rw [if_neg (Nat.not_lt_zero _)], B1.out⟩
  case round =>
    clear R1 B1
    obtain ⟨i, zs, hi, rfl, hr, hz, bel⟩ := hrel
    have Rr := Lib.hid hr
    have Hz := Lib.hid hz
    have Be := Lib.hid bel
    clear hr hz bel
    by_cases hlt : i < N
    · have c1 := Rr.out.cell hlt
      have f1 := Rr.out.free i
      have e1 := Hz.out i hlt
      rw [if_neg (Nat.lt_irrefl _)] at e1
      obtain ⟨x, ex⟩ : ∃ x, ls.getD i 0 = x := ⟨_, rfl⟩
      rw [e1, ex] at c1
      have Ex := Lib.hid ex
      have q0 : (0 : Int) ≤ i := by omega
      have q1 : (i : Int) < N := by omega
      have mi : Hid ((mrgL ls a b).getD i 0 = if x = b then a else x) := Lib.hid (by rw [mrgL_getD (by rw [lp.out]; exact hlt), ex])
      clear e1 ex
      by_cases hxb : x = b
      · have d0 : (x == b) = true := by simpa using hxb
        have R2 := Lib.hid (Rr.out.store i a)
        have B2 : Hid (Below w.heap.size w (wr.setCell ⟨g, i, none⟩ (.int .i64 a))) := Lib.hid (Be.out.setCell (p := ⟨g, i, none⟩) hg1 _)
        have Z2 : Hid (∀ j, j < N → (zs.set i a).getD j 0 = if j < i + 1 then (mrgL ls a b).getD j 0 else ls.getD j 0) := Lib.hid fun j hj => by
          rw [set_getD Rr.out.1 hj]
          by_cases e : i = j
          · subst e; rw [if_pos rfl, if_pos (by omega), mi.out, if_pos hxb]
          · rw [if_neg e, Hz.out j hj]
            by_cases e2 : j < i
            · rw [if_pos e2, if_pos (by omega)]
            · rw [if_neg e2, if_neg (by omega)]
        clear hxb
        go_wp2_with fail
        go_roundw
        case rel => exact ⟨i + 1, _, by omega, by go_num, R2.out, Z2.out, B2.out⟩
        case measure => simp [intOf]; omega
      · have d0 : (x == b) = false := by simpa using hxb
        have Z2 : Hid (∀ j, j < N → zs.getD j 0 = if j < i + 1 then (mrgL ls a b).getD j 0 else ls.getD j 0) := Lib.hid fun j hj => by
          rw [Hz.out j hj]
          by_cases e : i = j
          · subst e; rw [if_neg (Nat.lt_irrefl _), if_pos (by omega), mi.out, if_neg hxb, Ex.out]
          · by_cases e2 : j < i
            · rw [if_pos e2, if_pos (by omega)]
            · rw [if_neg e2, if_neg (by omega)]
        clear hxb
        go_wp2_with fail
        go_roundw
        case rel => exact ⟨i + 1, zs, by omega, by go_num, Rr.out, Z2.out, Be.out⟩
        case measure => simp [intOf]; omega
    · obtain rfl : i = N := by omega
      have Fin : Hid (zs = mrgL ls a b) := Lib.hid (ext_getD Rr.out.1 (by rw [mrgL_len]; exact lp.out) fun j hj => by rw [Hz.out j hj, if_pos hj])
      go_wp2_with fail
      go_ret
      exact ⟨_, _, rfl, by rw [← Fin.out]; exact Rr.out.slc, Be.out⟩

theorem SS.keptT {w w' : World} {bo bi n c : Nat} {A : Option Addr} {vs : List SV} {xss : List (List Int)} {row : Option Nat} (h : SS w bo bi A n c vs xss) (hg : w.grownBy w' row)
    (ho : (Value.slice A n c).ownBlock = none ∨ (Value.slice A n c).ownBlock ≠ row) (hr : ∀ i, i < n → (sval (vs.getD i sd0)).ownBlock = none ∨ (sval (vs.getD i sd0)).ownBlock ≠ row) : SS w' bo bi A n c vs xss :=
  ⟨World.ownsRow.kept h.own hg ho, h.lv, h.lx, fun i hi' => (h.row i hi').kept hg (hr i hi'), h.dis⟩
theorem apart_flip {a b : Option Nat} (h : a = none ∨ a ≠ b) : b = none ∨ b ≠ a := by
  rcases b with _ | b
  · exact .inl rfl
  · refine .inr fun e => ?_
    rcases h with h | h
    · rw [h] at e; cases e
    · exact h e.symm
/-- append of one number, and where the row lies behind it. -/
theorem wpList_app1_at {w : World} {ops : Array Oper} {rest : List Oper} {o : Oper} {a : Act} {Q : Exit → Act → World → Prop} (hgd : o.guard = none) (s x : Operand)
    (ho : o.op = .call { callee := .builtin .append, args := #[s, x], argTypes := #[37, 37] })
    (base : Nat) (A : Option Addr) (n c : Nat) (xs : List Int) (hs : a.eval s = .slice A n c) (hown : Slc w base A n c xs) (g : Nat) (u : Int) (hx : a.eval x = .slice (some ⟨g, 0, none⟩) 1 1)
    (hcell : w.cell? ⟨g, 0, none⟩ = some (.int .i64 u)) (hn : n ≤ 1000000000000) (hbase : base ≤ w.heap.size)
    (h : ∀ A' c' w', Slc w' base A' (n + 1) c' (xs ++ [u]) → w.grownBy w' (Value.slice A n c).ownBlock → ((Value.slice A' (n + 1) c').ownBlock = (Value.slice A n c).ownBlock ∨ (Value.slice A' (n + 1) c').ownBlock = some w.heap.size) → wpList Tryz.prog ops Q rest (a.put o.dst (.slice A' (n + 1) c')) w') : wpList Tryz.prog ops Q (o :: rest) a w := by
  obtain ⟨i0, hi, hz0, hz1, hz2⟩ := info_parts infoI
  obtain ⟨hl, ho'⟩ := hown
  subst hl
  refine wpList_append_own_at w hgd s x 37 ho base 2 i0 (.int .i64 0) 1 8 Tryz.underlying37 hi hz0 hz1 hz2 rfl (by decide) _ xs.length _ hs ho' ⟨g, 0, none⟩ 1 1 [.int .i64 u] hx rfl ?_ ?_ ?_ (by omega) hbase ?_
  · intro j v hj
    match j, hj with
    | 0, hj => simp at hj; subst hj; simpa [Addr.add] using hcell
    | j + 1, hj => simp at hj
  · intro v hv; simp at hv; subst hv; rfl
  · unfold maxLen; omega
  · intro v' w' hown' hg _ hat
    have hO : Own w' base v' (xs ++ [u]) := by
      unfold Own
      rw [List.length_append, List.map_append]
      exact hown'
    obtain ⟨A', c', rfl, hS⟩ := Slc.of_own (n := xs.length + 1) hO (by simp)
    exact h A' c' w' hS hg hat

set_option maxHeartbeats 4000000 in
set_option maxRecDepth 100000 in
/-- labelsToBlocks. -/
theorem specL2B (N c : Nat) (A : Option Addr) (ls : List Int) (w : World) (hp : RI w w.heap.size A ls) (hL : Hid (Lbl N ls)) (h1 : 1 ≤ N) (h2 : N ≤ 20) :
    Calls Tryz.prog 43 #[.slice A N c] w fun e w' => ∃ A' n' c' us, e = .returned (.slice A' n' c') ∧ SS w' w.heap.size w.heap.size A' n' c' us (canon N (nx ls)) ∧ Below w.heap.size w w' := by
  have HP := Lib.hid hp
  clear hp
  have S0 : Hid (SS ((w.alloc (.cells #[] 37)).alloc (.cells #[] 2)) w.heap.size w.heap.size (some ⟨w.heap.size, 0, none⟩) 0 0 [] []) := Lib.hid ((SS.lit0 w _ _ (Nat.le_refl _)).alloc _)
  have D0 : Hid (Slc ((w.alloc (.cells #[] 37)).alloc (.cells #[] 2)) w.heap.size (some ⟨w.heap.size + 1, 0, none⟩) 0 0 []) := Lib.hid (by
    have := Slc.lit0 (w.alloc (.cells #[] 37)) w.heap.size (by simp)
    simpa using this)
  have B0 : Hid (Below w.heap.size w ((w.alloc (.cells #[] 37)).alloc (.cells #[] 2))) := Lib.hid (((Below.refl _ _).alloc (Nat.le_refl _) _).alloc (by simp) _)
  go_enter Tryz.func43, Tryz.ntmps43
  go_wp2_with fail
  go_loopw [3, 4, 5] (fun ov dv xv wr => ∃ (x k c1 m c2 : Nat) (O D : Option Addr) (us : List SV) (ds : List Int), x ≤ N ∧ k ≤ 20 ∧ m ≤ x ∧ xv = .int .i64 (x : Nat) ∧ ov = .slice O k c1 ∧ dv = .slice D m c2 ∧ SS wr w.heap.size w.heap.size O k c1 us (cnB (nx ls) N x) ∧ Slc wr w.heap.size D m c2 ds ∧ (∀ t, t < k → (sval (us.getD t sd0)).ownBlock = none ∨ (sval (us.getD t sd0)).ownBlock ≠ (Value.slice D m c2).ownBlock) ∧ (∀ v, v ∈ ds ↔ ∃ h, h < x ∧ fstB (nx ls) h = true ∧ v = (nx ls h : Int)) ∧ Below w.heap.size w wr) (fun _ _ xv _ => N - (intOf xv).toNat)
  case atStart => exact ⟨0, 0, 0, 0, 0, _, _, [], [], Nat.zero_le _, by omega, Nat.le_refl _, rfl, rfl, rfl, S0.out, D0.out, fun t h => absurd h (Nat.not_lt_zero _), fun v => ⟨fun h => (by cases h), fun ⟨h, a, _⟩ => absurd a (Nat.not_lt_zero _)⟩, B0.out⟩
  case round =>
    clear S0 D0 B0
    obtain ⟨x, k, c1, m, c2, O, D, us, ds, hx, hk, hm, rfl, rfl, rfl, hss, hds, hap, hmem, bel⟩ := hrel
    have Ss := Lib.hid hss
    have Ds := Lib.hid hds
    have Ap := Lib.hid hap
    have Mem := Lib.hid hmem
    have Be := Lib.hid bel
    have hz := bel.size
    clear hss hds hap hmem bel
    by_cases hlt : x < N
    · obtain ⟨bz, oz, rfl, hbz, hc⟩ := (HP.out.up Be.out) (by rw [hL.out.len]; omega)
      have zx := hc x (by rw [hL.out.len]; exact hlt)
      rw [hL.out.val hlt] at zx
      obtain ⟨X, eX⟩ : ∃ X, nx ls x = X := ⟨_, rfl⟩
      rw [eX] at zx
      have EX := Lib.hid eX
      have q0 : (0 : Int) ≤ x := by omega
      have q1 : (x : Int) < N := by omega
      clear hc eX hbz
      rcases hf : fstB (nx ls) x with _ | _
      · have Ha : Hid (hasB ds (X : Int) = true) := Lib.hid (hasB_mem.2 ((Mem.out _).2 (by
          have : ∃ y, y < x ∧ nx ls y = nx ls x := Classical.byContradiction fun hn => by
            rw [fstB_iff.2 fun y hy e => hn ⟨y, hy, e⟩] at hf; cases hf
          obtain ⟨y, hy, e⟩ := this
          obtain ⟨h, a, b, c⟩ := fst_ex (nx ls) y
          exact ⟨h, by omega, b, by rw [c, e, EX.out]⟩)))
        have Cn := Lib.hid (cnB_no (N := N) hf)
        have Mem2 : Hid (∀ v, v ∈ ds ↔ ∃ h, h < x + 1 ∧ fstB (nx ls) h = true ∧ v = (nx ls h : Int)) := Lib.hid fun v => by
          rw [Mem.out v]
          constructor
          · rintro ⟨h, a, b⟩; exact ⟨h, by omega, b⟩
          · rintro ⟨h, a, b, c⟩
            refine ⟨h, ?_, b, c⟩
            by_cases e : h = x
            · subst e; rw [hf] at b; cases b
            · omega
        clear hf
        go_wp2_with (first
          | (go_at_call 46; refine (containsI_any D c2 m ds _ wr wr.heap.size Ds.out.ri_ (Lib.hid Ds.out.1) (by omega) true Ha).mono ?_; rintro e w' ⟨rfl, rfl⟩)
          | go_in)
        go_roundw
        case rel => exact ⟨x + 1, k, c1, m, c2, O, D, us, ds, by omega, hk, by omega, by go_num, rfl, rfl, by rw [Cn.out]; exact Ss.out, Ds.out, Ap.out, Mem2.out, Be.out⟩
        case measure => simp [intOf]; omega
      · have Ha : Hid (hasB ds (X : Int) = false) := Lib.hid (by
          rcases hq : hasB ds (X : Int) with _ | _
          · rfl
          · obtain ⟨h, a, b, c⟩ := (Mem.out _).1 (hasB_mem.1 hq)
            exact absurd (by rw [EX.out]; omega) (fstB_iff.1 hf h a))
        have Cy := Lib.hid (cnB_yes (N := N) hf)
        have Pe : Hid (ptsL (fun y => decide (nx ls y = X)) x = []) := Lib.hid (List.eq_nil_iff_forall_not_mem.2 fun v hv => by
          obtain ⟨y, hy, _, e⟩ := mem_ptsL.1 hv
          have e := of_decide_eq_true e
          exact fstB_iff.1 hf y hy (by rw [e, EX.out]))
        have Blk' : Hid (blkL (nx ls) N x = ptsL (fun y => decide (nx ls y = X)) N) := Lib.hid (by unfold blkL; rw [EX.out])
        have hk19 : Hid (k + 1 ≤ 20) := Lib.hid (by
          have h5 := cnB_len (r := nx ls) (N := N) (x + 1)
          rw [Cy.out, List.length_append, Ss.out.lx] at h5
          have h6 := List.length_filter_le (fstB (nx ls)) (List.range (x + 1))
          rw [List.length_range] at h6
          simp at h5
          omega)
        have Mem2 : Hid (∀ v, v ∈ ds ++ [(X : Int)] ↔ ∃ h, h < x + 1 ∧ fstB (nx ls) h = true ∧ v = (nx ls h : Int)) := Lib.hid fun v => by
          rw [List.mem_append, Mem.out v, List.mem_singleton]
          constructor
          · rintro (⟨h, a, b⟩ | rfl)
            · exact ⟨h, by omega, b⟩
            · exact ⟨x, by omega, hf, by rw [EX.out]⟩
          · rintro ⟨h, a, b, c⟩
            by_cases e : h = x
            · subst e; exact .inr (by rw [c, EX.out])
            · exact .inl ⟨h, by omega, b, c⟩
        clear hf
        go_wp2_with (first
          | (go_at_call 46; refine (containsI_any D c2 m ds _ wr wr.heap.size Ds.out.ri_ (Lib.hid Ds.out.1) (by omega) false Ha).mono ?_; rintro e w' ⟨rfl, rfl⟩)
          | (at_builtin; refine wpList_app1_at rfl _ _ rfl w.heap.size D m c2 ds rfl (Ds.out.alloc _) wr.heap.size X rfl (by rw [World.cell?_alloc_at _ _ _ _ rfl]; rfl) (by omega) (by simp; omega) ?_; intro D3 c3 w3 s3 g3 at3
             have At3 := Lib.hid at3
             have Gd : Hid ((wr.alloc (.cells #[.int .i64 (X : Int)] 2)).grownBy w3 (Value.slice D m c2).ownBlock) := Lib.hid g3
             have Sd := Lib.hid s3
             clear s3 g3 at3)
          | go_in)
        have B3 : Hid (Below w.heap.size w w3) := Lib.hid ((Be.out.alloc hz _).grown Gd.out (by simp; omega) (fun j hj => (Ds.out.lt_ j hj).1))
        have hz3 := B3.out.size
        have hzr3 : wr.heap.size < w3.heap.size := by have := Gd.out.size; simp at this; omega
        have Ss3 : Hid (SS w3 w.heap.size w.heap.size O k c1 us (cnB (nx ls) N x)) := Lib.hid ((Ss.out.alloc _).keptT Gd.out (apart_flip (apart_types Ds.out Ss.out.own)) Ap.out)
        have Ap3 : Hid (∀ t, t < k → (sval (us.getD t sd0)).ownBlock = none ∨ (sval (us.getD t sd0)).ownBlock ≠ (Value.slice D3 (m + 1) c3).ownBlock) := Lib.hid fun t ht => by
          rcases At3.out with e | e
          · rw [e]; exact Ap.out t ht
          · rw [e]
            rcases e2 : (sval (us.getD t sd0)).ownBlock with _ | q
            · exact .inl rfl
            · refine .inr fun e3 => ?_
              injection e3 with e3
              have := ((Ss.out.row t ht).lt_ q e2).2
              simp at e3
              omega
        have Dl : Hid (∀ q, (Value.slice D3 (m + 1) c3).ownBlock = some q → q < w3.heap.size) := Lib.hid fun q hq => (Sd.out.lt_ q hq).2
        have P0 : Hid (Slc (w3.alloc (.cells #[] 2)) w3.heap.size (some ⟨w3.heap.size, 0, none⟩) 0 0 (ptsL (fun y => decide (nx ls y = X)) x)) := Lib.hid (by rw [Pe.out]; exact Slc.lit0 w3 _ (Nat.le_refl _))
        have Bp : Hid (Below w3.heap.size w3 (w3.alloc (.cells #[] 2))) := Lib.hid ((Below.refl _ _).alloc (Nat.le_refl _) _)
        clear zx Gd Ss Ds Ap Pe
        go_loopw [6, 7] (fun pv yv wr2 => ∃ (y p cP : Nat) (P : Option Addr), x ≤ y ∧ y ≤ N ∧ p ≤ 20 ∧ yv = .int .i64 (y : Nat) ∧ pv = .slice P p cP ∧ Slc wr2 w3.heap.size P p cP (ptsL (fun y => decide (nx ls y = X)) y) ∧ Below w3.heap.size w3 wr2) (fun _ yv _ => N - (intOf yv).toNat)
        case atStart => exact ⟨x, 0, 0, _, Nat.le_refl _, by omega, by omega, rfl, rfl, P0.out, Bp.out⟩
        case round =>
          clear P0 Bp
          obtain ⟨y, p, cP, P, hxy, hyN, hp, rfl, rfl, hs, bel⟩ := hrel
          have Sp := Lib.hid hs
          have Bp := Lib.hid bel
          have Bw : Hid (Below w.heap.size w wr) := Lib.hid (btr B3.out bel)
          have hzp := bel.size
          clear hs bel
          by_cases hlt2 : y < N
          · obtain ⟨bq, oq, eq, hbq, hc⟩ := (HP.out.up Bw.out) (by rw [hL.out.len]; omega)
            injection eq with eq; injection eq with eq1 eq2
            subst eq1 eq2
            have zx := hc x (by rw [hL.out.len]; exact hlt)
            have zy := hc y (by rw [hL.out.len]; exact hlt2)
            rw [hL.out.val hlt, EX.out] at zx
            rw [hL.out.val hlt2] at zy
            obtain ⟨Y, eY⟩ : ∃ Y, nx ls y = Y := ⟨_, rfl⟩
            rw [eY] at zy
            have EY := Lib.hid eY
            have r0 : (0 : Int) ≤ y := by omega
            have r1 : (y : Int) < N := by omega
            have BpD : Hid (∀ q, Below w3.heap.size w3 (wr.drewN q)) := Lib.hid fun q => below_drewN Bp.out q
            have SpD : Hid (∀ q, Slc (wr.drewN q) w3.heap.size P p cP (ptsL (fun y => decide (nx ls y = X)) y)) := Lib.hid fun q => Sp.out.drewN q
            clear hc eY hbq
            by_cases hXY : Y = X
            · have d0 : ((Y : Int) == (X : Int)) = true := by rw [hXY]; simp
              have Py : Hid (ptsL (fun y => decide (nx ls y = X)) (y + 1) = ptsL (fun y => decide (nx ls y = X)) y ++ [(y : Int)]) := Lib.hid (ptsL_yes (by simpa using EY.out.trans hXY))
              have hp19 : p + 1 ≤ 20 := by
                have h5 := ptsL_le (fun y => decide (nx ls y = X)) (y + 1)
                rw [Py.out, List.length_append, Sp.out.1] at h5
                simp at h5
                omega
              clear hXY
              go_wp2_with fail
              go_quiet (fail)
              obtain ⟨w5, hw5⟩ : ∃ w5, wr.drewN nq = w5 := ⟨_, rfl⟩
              have S5 := SpD.out nq
              have B5 := BpD.out nq
              rw [hw5] at S5 B5 ⊢
              have Sp5 := Lib.hid S5
              have Bp5 := Lib.hid B5
              have hz5 := B5.size
              clear hw5 S5 B5
              go_wp2_with (first | (at_builtin; refine wpList_app1 rfl _ _ rfl w3.heap.size P p cP _ rfl (Sp5.out.alloc _) w5.heap.size y rfl (by rw [World.cell?_alloc_at _ _ _ _ rfl]; rfl) (by omega) (by simp; omega) ?_; intro P6 c6 w6 s6 g6) | go_in)
              have S6 : Hid (Slc w6 w3.heap.size P6 (p + 1) c6 (ptsL (fun y => decide (nx ls y = X)) (y + 1))) := Lib.hid (by rw [Py.out]; exact s6)
              have B6 : Hid (Below w3.heap.size w3 w6) := Lib.hid ((Bp5.out.alloc hz5 _).grown g6 (by simp; omega) (fun j hj => (Sp5.out.lt_ j hj).1))
              clear s6 g6
              go_wp2_with fail
              go_roundw
              case rel => exact ⟨y + 1, p + 1, c6, P6, by omega, by omega, hp19, by go_num, rfl, S6.out, B6.out⟩
              case measure => simp [intOf]; omega
            · have d0 : ((Y : Int) == (X : Int)) = false := by rw [beq_eq_false_iff_ne]; omega
              have Pn' : Hid (ptsL (fun y => decide (nx ls y = X)) (y + 1) = ptsL (fun y => decide (nx ls y = X)) y) := Lib.hid (ptsL_no (by simpa using fun e => hXY (EY.out.symm.trans e)))
              clear hXY
              go_wp2_with fail
              go_quiet (fail)
              go_wp2_with fail
              go_roundw
              case rel => exact ⟨y + 1, p, cP, P, by omega, by omega, hp, by go_num, rfl, by rw [Pn'.out]; exact SpD.out _, BpD.out _⟩
              case measure => simp [intOf]; omega
          · obtain rfl : y = N := by omega
            have Ss6 := Lib.hid (Ss3.out.up Bp.out)
            have Sd6 := Lib.hid (Sd.out.up Bp.out)
            have D6 : Hid (∀ t, t < k → (sval (us.getD t sd0)).ownBlock = none ∨ (sval (us.getD t sd0)).ownBlock ≠ (Value.slice P p cP).ownBlock) := Lib.hid (lies_dis (w := w3) Ss3.out Sp.out.lies (Nat.le_refl _))
            have hzw := Bw.out.size
            go_wp2_with (at_builtin; go_must (refine wpList_app2_at rfl _ _ rfl rfl (Ss6.out.alloc _) wr.heap.size P p cP (ptsL (fun y => decide (nx ls y = X)) y) rfl (by rw [World.cell?_alloc_at _ _ _ _ rfl]; rfl) ((Sp.out.mono hz3).alloc _) D6.out (by omega) (by simp; omega) ?_); intro A9 c9 w9 s9 g9 h9)
            have S9 : Hid (SS w9 w.heap.size w.heap.size A9 (k + 1) c9 (us ++ [(P, p, cP)]) (cnB (nx ls) y (x + 1))) := Lib.hid (by rw [Cy.out, Blk'.out]; exact s9)
            have B9 : Hid (Below w.heap.size w w9) := Lib.hid ((Bw.out.alloc hzw _).grown g9 (by simp; omega) (fun q hq => (Ss6.out.lt_ q hq).1))
            have D9 : Hid (Slc w9 w.heap.size D3 (m + 1) c3 (ds ++ [(X : Int)])) := Lib.hid ((Sd6.out.alloc _).kept g9 (apart_types Sd6.out Ss6.out.own))
            have Ap9 : Hid (∀ t, t < k + 1 → (sval ((us ++ [(P, p, cP)]).getD t sd0)).ownBlock = none ∨ (sval ((us ++ [(P, p, cP)]).getD t sd0)).ownBlock ≠ (Value.slice D3 (m + 1) c3).ownBlock) := Lib.hid fun t ht => by
              by_cases e : t < k
              · rw [getD_app us _ _ _ (by rw [Ss3.out.lv]; exact e)]; exact Ap3.out t e
              · obtain rfl : t = k := by omega
                rw [getD_snoc us _ _ _ Ss3.out.lv.symm]
                rcases e2 : (sval (P, p, cP)).ownBlock with _ | q
                · exact .inl rfl
                · refine .inr fun e3 => ?_
                  have h7 := (Sp.out.lt_ q e2).1
                  have h8 := Dl.out q e3.symm
                  omega
            clear s9 g9 h9
            go_wp2_with fail
            go_roundw
            case rel => exact ⟨x + 1, k + 1, c9, m + 1, c3, A9, D3, _, _, by omega, hk19.out, by omega, by go_num, rfl, rfl, S9.out, D9.out, Ap9.out, Mem2.out, B9.out⟩
            case measure => simp [intOf]; omega
    · obtain rfl : x = N := by omega
      go_wp2_with fail
      go_ret
      exact ⟨_, _, _, us, rfl, Ss.out, Be.out⟩
end Go.Proofs.YtedfcljikgmpgaaGreat

/- The library's contracts laid at this program: tables of numbers, and facts that the kernel compares. No condition. -/
namespace Go.Proofs.YtedfcljikgmpgaaGreat
open Go.Proofs Go.Shelf
def laySort_ren : Go.Shelf.Ren := ⟨fun | 5 => 79 | 8 => 77 | 7 => 90 | 19 => 88 | 20 => 89 | 10 => 96 | 11 => 97 | 12 => 98 | 13 => 99 | 14 => 100 | 15 => 101 | 16 => 102 | 17 => 103 | 18 => 104 | 30 => 106 | 31 => 92 | 32 => 93 | 33 => 107 | 34 => 108 | 35 => 78 | 40 => 109 | n => n, fun | 23 => 37 | 25 => 2 | 3 => 3 | 32 => 82 | 22 => 37 | 0 => 0 | 44 => 104 | 46 => 106 | 4 => 4 | 36 => 97 | 35 => 96 | 41 => 101 | 5 => 5 | 9 => 9 | 53 => 108 | 57 => 112 | 63 => 119 | 64 => 120 | n => n, fun | n => n⟩
theorem laySort : Go.Proofs.SlLaysM.n5 Tryz.prog laySort_ren := {
  mixed := by kernel_rfl
  f5 := ⟨Tryz.f79.name, by decide, Tryz.func79.trans (congrArg some (by kernel_rfl))⟩
  f7 := ⟨Tryz.f90.name, by decide, Tryz.func90.trans (congrArg some (by kernel_rfl))⟩
  f8 := Tryz.func77.trans (congrArg some (by kernel_rfl))
  f10 := ⟨Tryz.f96.name, by decide, Tryz.func96.trans (congrArg some (by kernel_rfl))⟩
  f11 := ⟨Tryz.f97.name, by decide, Tryz.func97.trans (congrArg some (by kernel_rfl))⟩
  f12 := ⟨Tryz.f98.name, by decide, Tryz.func98.trans (congrArg some (by kernel_rfl))⟩
  f13 := ⟨Tryz.f99.name, by decide, Tryz.func99.trans (congrArg some (by kernel_rfl))⟩
  f14 := ⟨Tryz.f100.name, by decide, Tryz.func100.trans (congrArg some (by kernel_rfl))⟩
  f15 := ⟨Tryz.f101.name, by decide, Tryz.func101.trans (congrArg some (by kernel_rfl))⟩
  f16 := ⟨Tryz.f102.name, by decide, Tryz.func102.trans (congrArg some (by kernel_rfl))⟩
  f17 := ⟨Tryz.f103.name, by decide, Tryz.func103.trans (congrArg some (by kernel_rfl))⟩
  f18 := ⟨Tryz.f104.name, by decide, Tryz.func104.trans (congrArg some (by kernel_rfl))⟩
  f19 := Tryz.func88.trans (congrArg some (by kernel_rfl))
  f20 := Tryz.func89.trans (congrArg some (by kernel_rfl))
  f30 := ⟨Tryz.f106.name, by decide, Tryz.func106.trans (congrArg some (by kernel_rfl))⟩
  f31 := Tryz.func92.trans (congrArg some (by kernel_rfl))
  f32 := Tryz.func93.trans (congrArg some (by kernel_rfl))
  f33 := ⟨Tryz.f107.name, by decide, Tryz.func107.trans (congrArg some (by kernel_rfl))⟩
  f34 := ⟨Tryz.f108.name, by decide, Tryz.func108.trans (congrArg some (by kernel_rfl))⟩
  f35 := ⟨Tryz.f78.name, by decide, Tryz.func78.trans (congrArg some (by kernel_rfl))⟩
  f40 := ⟨Tryz.f109.name, by decide, Tryz.func109.trans (congrArg some (by kernel_rfl))⟩
  t0 := Tryz.underlying0
  a0 := Tryz.isAgg0
  z0 := Tryz.sizeOf0
  v0 := Tryz.zeroValue0
  t3 := Tryz.underlying3
  a3 := Tryz.isAgg3
  z3 := Tryz.sizeOf3
  v3 := Tryz.zeroValue3
  t4 := Tryz.underlying4
  a4 := Tryz.isAgg4
  z4 := Tryz.sizeOf4
  v4 := Tryz.zeroValue4
  t5 := Tryz.underlying5
  a5 := Tryz.isAgg5
  z5 := Tryz.sizeOf5
  v5 := Tryz.zeroValue5
  t9 := Tryz.underlying9
  a9 := Tryz.isAgg9
  z9 := Tryz.sizeOf9
  v9 := Tryz.zeroValue9
  t22 := Tryz.underlying37
  a22 := Tryz.isAgg37
  z22 := Tryz.sizeOf37
  v22 := Tryz.zeroValue37
  t23 := Tryz.underlying37
  a23 := Tryz.isAgg37
  z23 := Tryz.sizeOf37
  v23 := Tryz.zeroValue37
  t25 := Tryz.underlying2
  a25 := Tryz.isAgg2
  z25 := Tryz.sizeOf2
  v25 := Tryz.zeroValue2
  t32 := Tryz.underlying82
  a32 := Tryz.isAgg82
  z32 := Tryz.sizeOf82
  v32 := Tryz.zeroValue82
  t35 := Tryz.underlying96
  a35 := Tryz.isAgg96
  z35 := Tryz.sizeOf96
  v35 := Tryz.zeroValue96
  t36 := Tryz.underlying97
  a36 := Tryz.isAgg97
  z36 := Tryz.sizeOf97
  v36 := Tryz.zeroValue97
  t41 := Tryz.underlying101
  a41 := Tryz.isAgg101
  z41 := Tryz.sizeOf101
  v41 := Tryz.zeroValue101
  t44 := Tryz.underlying104
  a44 := Tryz.isAgg104
  z44 := Tryz.sizeOf104
  v44 := Tryz.zeroValue104
  t46 := Tryz.underlying106
  a46 := Tryz.isAgg106
  z46 := Tryz.sizeOf106
  v46 := Tryz.zeroValue106
  t53 := Tryz.underlying108
  a53 := Tryz.isAgg108
  z53 := Tryz.sizeOf108
  v53 := Tryz.zeroValue108
  t57 := Tryz.underlying112
  a57 := Tryz.isAgg112
  z57 := Tryz.sizeOf112
  v57 := Tryz.zeroValue112
  t63 := Tryz.underlying119
  a63 := Tryz.isAgg119
  z63 := Tryz.sizeOf119
  v63 := Tryz.zeroValue119
  t64 := Tryz.underlying120
  a64 := Tryz.isAgg120
  z64 := Tryz.sizeOf120
  v64 := Tryz.zeroValue120 }
def layEq_ren : Go.Shelf.Ren := ⟨fun | 33 => 18 | n => n, fun | 22 => 37 | 23 => 2 | 4 => 4 | 3 => 3 | 0 => 0 | n => n, fun | n => n⟩
theorem layEq : Go.Proofs.SlLaysE.n33 Tryz.prog layEq_ren := {
  mixed := by kernel_rfl
  f33 := ⟨Tryz.f18.name, by decide, Tryz.func18.trans (congrArg some (by kernel_rfl))⟩
  t0 := Tryz.underlying0
  a0 := Tryz.isAgg0
  z0 := Tryz.sizeOf0
  v0 := Tryz.zeroValue0
  t3 := Tryz.underlying3
  a3 := Tryz.isAgg3
  z3 := Tryz.sizeOf3
  v3 := Tryz.zeroValue3
  t4 := Tryz.underlying4
  a4 := Tryz.isAgg4
  z4 := Tryz.sizeOf4
  v4 := Tryz.zeroValue4
  t22 := Tryz.underlying37
  a22 := Tryz.isAgg37
  z22 := Tryz.sizeOf37
  v22 := Tryz.zeroValue37
  a23 := Tryz.isAgg2
  z23 := Tryz.sizeOf2 }
def layIdx_ren : Go.Shelf.Ren := ⟨fun | 6 => 66 | n => n, fun | 22 => 24 | 23 => 37 | 25 => 52 | 3 => 3 | 0 => 0 | 4 => 4 | n => n, fun | n => n⟩
theorem layIdx : Go.Proofs.SlLaysH.n6 Tryz.prog layIdx_ren := {
  mixed := by kernel_rfl
  f6 := ⟨Tryz.f66.name, by decide, Tryz.func66.trans (congrArg some (by kernel_rfl))⟩
  t0 := Tryz.underlying0
  a0 := Tryz.isAgg0
  z0 := Tryz.sizeOf0
  v0 := Tryz.zeroValue0
  t3 := Tryz.underlying3
  a3 := Tryz.isAgg3
  z3 := Tryz.sizeOf3
  v3 := Tryz.zeroValue3
  t4 := Tryz.underlying4
  a4 := Tryz.isAgg4
  z4 := Tryz.sizeOf4
  v4 := Tryz.zeroValue4
  t22 := Tryz.underlying24
  a22 := Tryz.isAgg24
  z22 := Tryz.sizeOf24
  v22 := Tryz.zeroValue24
  a23 := Tryz.isAgg37
  z23 := Tryz.sizeOf37
  t25 := Tryz.underlying52
  a25 := Tryz.isAgg52
  z25 := Tryz.sizeOf52
  v25 := Tryz.zeroValue52 }
def laySortF_ren : Go.Shelf.Ren := ⟨fun | 6 => 69 | 15 => 77 | 14 => 76 | 28 => 88 | 29 => 89 | 20 => 80 | 21 => 81 | 22 => 82 | 23 => 83 | 24 => 84 | 25 => 85 | 26 => 86 | 27 => 87 | 46 => 91 | 47 => 92 | 48 => 93 | 49 => 94 | 50 => 95 | 57 => 105 | n => n, fun | 22 => 24 | 24 => 37 | 25 => 76 | 3 => 3 | 39 => 82 | 0 => 0 | 53 => 104 | 55 => 106 | 4 => 4 | 46 => 97 | 45 => 96 | 50 => 101 | 5 => 5 | 9 => 9 | 66 => 108 | 70 => 112 | 76 => 119 | 77 => 120 | n => n, fun | n => n⟩
theorem laySortF : Go.Proofs.SlLaysF.n6 Tryz.prog laySortF_ren := {
  mixed := by kernel_rfl
  f6 := ⟨Tryz.f69.name, by decide, Tryz.func69.trans (congrArg some (by kernel_rfl))⟩
  f14 := ⟨Tryz.f76.name, by decide, Tryz.func76.trans (congrArg some (by kernel_rfl))⟩
  f15 := Tryz.func77.trans (congrArg some (by kernel_rfl))
  f20 := ⟨Tryz.f80.name, by decide, Tryz.func80.trans (congrArg some (by kernel_rfl))⟩
  f21 := ⟨Tryz.f81.name, by decide, Tryz.func81.trans (congrArg some (by kernel_rfl))⟩
  f22 := ⟨Tryz.f82.name, by decide, Tryz.func82.trans (congrArg some (by kernel_rfl))⟩
  f23 := ⟨Tryz.f83.name, by decide, Tryz.func83.trans (congrArg some (by kernel_rfl))⟩
  f24 := ⟨Tryz.f84.name, by decide, Tryz.func84.trans (congrArg some (by kernel_rfl))⟩
  f25 := ⟨Tryz.f85.name, by decide, Tryz.func85.trans (congrArg some (by kernel_rfl))⟩
  f26 := ⟨Tryz.f86.name, by decide, Tryz.func86.trans (congrArg some (by kernel_rfl))⟩
  f27 := ⟨Tryz.f87.name, by decide, Tryz.func87.trans (congrArg some (by kernel_rfl))⟩
  f28 := Tryz.func88.trans (congrArg some (by kernel_rfl))
  f29 := Tryz.func89.trans (congrArg some (by kernel_rfl))
  f46 := ⟨Tryz.f91.name, by decide, Tryz.func91.trans (congrArg some (by kernel_rfl))⟩
  f47 := Tryz.func92.trans (congrArg some (by kernel_rfl))
  f48 := Tryz.func93.trans (congrArg some (by kernel_rfl))
  f49 := ⟨Tryz.f94.name, by decide, Tryz.func94.trans (congrArg some (by kernel_rfl))⟩
  f50 := ⟨Tryz.f95.name, by decide, Tryz.func95.trans (congrArg some (by kernel_rfl))⟩
  f57 := ⟨Tryz.f105.name, by decide, Tryz.func105.trans (congrArg some (by kernel_rfl))⟩
  t0 := Tryz.underlying0
  a0 := Tryz.isAgg0
  z0 := Tryz.sizeOf0
  v0 := Tryz.zeroValue0
  t3 := Tryz.underlying3
  a3 := Tryz.isAgg3
  z3 := Tryz.sizeOf3
  v3 := Tryz.zeroValue3
  t4 := Tryz.underlying4
  a4 := Tryz.isAgg4
  z4 := Tryz.sizeOf4
  v4 := Tryz.zeroValue4
  t5 := Tryz.underlying5
  a5 := Tryz.isAgg5
  z5 := Tryz.sizeOf5
  v5 := Tryz.zeroValue5
  t9 := Tryz.underlying9
  a9 := Tryz.isAgg9
  z9 := Tryz.sizeOf9
  v9 := Tryz.zeroValue9
  t22 := Tryz.underlying24
  a22 := Tryz.isAgg24
  z22 := Tryz.sizeOf24
  v22 := Tryz.zeroValue24
  a24 := Tryz.isAgg37
  z24 := Tryz.sizeOf37
  t25 := Tryz.underlying76
  a25 := Tryz.isAgg76
  z25 := Tryz.sizeOf76
  v25 := Tryz.zeroValue76
  t39 := Tryz.underlying82
  a39 := Tryz.isAgg82
  z39 := Tryz.sizeOf82
  v39 := Tryz.zeroValue82
  t45 := Tryz.underlying96
  a45 := Tryz.isAgg96
  z45 := Tryz.sizeOf96
  v45 := Tryz.zeroValue96
  t46 := Tryz.underlying97
  a46 := Tryz.isAgg97
  z46 := Tryz.sizeOf97
  v46 := Tryz.zeroValue97
  t50 := Tryz.underlying101
  a50 := Tryz.isAgg101
  z50 := Tryz.sizeOf101
  v50 := Tryz.zeroValue101
  t53 := Tryz.underlying104
  a53 := Tryz.isAgg104
  z53 := Tryz.sizeOf104
  v53 := Tryz.zeroValue104
  t55 := Tryz.underlying106
  a55 := Tryz.isAgg106
  z55 := Tryz.sizeOf106
  v55 := Tryz.zeroValue106
  t66 := Tryz.underlying108
  a66 := Tryz.isAgg108
  z66 := Tryz.sizeOf108
  v66 := Tryz.zeroValue108
  t70 := Tryz.underlying112
  a70 := Tryz.isAgg112
  z70 := Tryz.sizeOf112
  v70 := Tryz.zeroValue112
  t76 := Tryz.underlying119
  a76 := Tryz.isAgg119
  z76 := Tryz.sizeOf119
  v76 := Tryz.zeroValue119
  t77 := Tryz.underlying120
  a77 := Tryz.isAgg120
  z77 := Tryz.sizeOf120
  v77 := Tryz.zeroValue120 }
end Go.Proofs.YtedfcljikgmpgaaGreat

/- Rows of the call's own that the library has written over. No condition. -/
namespace Go.Proofs.YtedfcljikgmpgaaGreat
open Go.RowKit Go.Sort

theorem heap_put {α : Type} [Inhabited α] (enc : α → Value) (w : World) (k g : Nat) (d : Array α) (os : Array Obj) {cur : Array Value} {e : TypeId} {fr : Nat × Nat} (hb : w.heap[g]? = some (.cells cur e fr)) :
    (grow (putRow enc (Sort.ahead w k) g 0 d) os).heap[g]? = some (.cells (putCells enc 0 d cur) e fr) := by
  have hlt : g < w.heap.size := (Array.getElem?_eq_some_iff.1 hb).1
  rw [heap_grow_old _ _ (by simpa using hlt)]
  unfold putRow mapBlock
  simp [Array.getElem?_modify, hb, onCells]
theorem put_take {α : Type} [Inhabited α] (enc : α → Value) (ts : List α) (cur : Array Value) (n : Nat) (hn : n ≤ ts.length) (hc : ts.length ≤ cur.size) : (putCells enc 0 ts.toArray cur).toList.take n = (ts.take n).map enc := by
  apply List.ext_getElem
  · simp [putCells]; omega
  · intro i h1 h2
    simp [putCells] at h1 h2 ⊢
    rw [if_pos (by omega)]
    rw [List.getElem?_eq_getElem (by omega)]; rfl
theorem grown_put {α : Type} [Inhabited α] (enc : α → Value) (w : World) (k g : Nat) (d : Array α) (os : Array Obj) : w.grownBy (grow (putRow enc (Sort.ahead w k) g 0 d) os) (some g) := by
  refine ⟨rfl, rfl, rfl, by simp, fun i hi hne => ?_⟩
  rw [heap_grow_old _ _ (by simpa using hi)]
  unfold putRow mapBlock
  have : ¬ g = i := fun e => hne (by rw [e])
  simp [Array.getElem?_modify, this]
theorem own_put {α : Type} [Inhabited α] (enc : α → Value) {w : World} {base g cap n : Nat} {e : TypeId} {xs : List α} {ts : List α} (h : w.ownsRow base e 1 (.slice (some ⟨g, 0, none⟩) xs.length cap) xs.length (xs.map enc))
    (hl : ts.length = xs.length) (hn : n ≤ xs.length) (k : Nat) (os : Array Obj) :
    (grow (putRow enc (Sort.ahead w k) g 0 ts.toArray) os).ownsRow base e 1 (.slice (some ⟨g, 0, none⟩) n cap) n ((ts.take n).map enc) := by
  refine ⟨by simp; omega, .inr ?_⟩
  rcases h.2 with ⟨e1, _⟩ | ⟨g', cap', cur, e1, hb, hg, h1, h2, h3, h4⟩
  · cases e1
  · injection e1 with e1 e2 e3
    injection e1 with e1
    injection e1 with e1
    subst e1; subst e3
    refine ⟨g, cap, _, rfl, hb, heap_put enc w k g _ os hg, by omega, h2, by simp [putCells]; omega, ?_⟩
    rw [Nat.mul_one]
    exact put_take enc ts cur n (by omega) (by omega)
theorem holds_own {α : Type} [Inhabited α] (enc : α → Value) {w : World} {base g cap : Nat} {e : TypeId} {xs : List α} (h : w.ownsRow base e 1 (.slice (some ⟨g, 0, none⟩) xs.length cap) xs.length (xs.map enc)) :
    Holds enc w g 0 xs.toArray := by
  intro j hj
  simp at hj
  rw [Nat.zero_add]
  refine ⟨?_, h.frozenAt j⟩
  rw [h.cellAt j (by omega), List.getElem?_map, List.getElem?_eq_getElem hj, getElem!_pos _ j (by simpa using hj)]
  simp

/-- slices.Sort at a row of the call's own. -/
theorem sortT (base : Nat) (A : Option Addr) (n c : Nat) (xs : List Int) (w : World) (h : Slc w base A n c xs) (h1 : 1 ≤ n) (hn : n ≤ 2097152) :
    Calls Tryz.prog 79 #[.slice A n c] w fun e w' => e = .returned (.tuple #[]) ∧ Slc w' base A n c (xs.mergeSort fun x y => decide (x ≤ y)) ∧ w.grownBy w' (Value.slice A n c).ownBlock := by
  obtain ⟨hl, ho⟩ := h
  subst hl
  rcases Slc.at_ ⟨rfl, ho⟩ with ⟨_, _, e0, _⟩ | ⟨g, rfl, hb, hg⟩
  · omega
  have hho : w.ownsRow base 2 1 (.slice (some ⟨g, 0, none⟩) xs.length c) xs.length (xs.map (Value.int .i64)) := ho
  refine (AnyM.slices_Sort_int laySort g 0 c xs w (holds_own _ hho) hg (by omega)).mono ?_
  rintro e w' ⟨rfl, k, os, rfl⟩
  have hlen : (xs.mergeSort fun x y => decide (x ≤ y)).length = xs.length := List.length_mergeSort _
  refine ⟨rfl, ⟨hlen, ?_⟩, grown_put _ _ _ _ _ _⟩
  have := own_put (Value.int .i64) hho hlen (Nat.le_refl _) k os
  rw [List.take_of_length_le (by omega)] at this
  unfold Own
  rw [hlen]
  exact this
theorem allEq_eq : ∀ xs ys : List Int, Lib.allEq (fun x y => x == y) xs ys = decide (xs = ys)
  | [], [] => rfl
  | [], y :: ys => by simp [Lib.allEq]
  | x :: xs, [] => by simp [Lib.allEq]
  | x :: xs, y :: ys => by
    rw [Lib.allEq, allEq_eq xs ys]
    by_cases h : x = y
    · subst h; simp
    · simp [h]
/-- slices.Equal. -/
theorem equalT (b1 b2 : Nat) (A B : Option Addr) (n c m d : Nat) (xs ys : List Int) (w : World) (hx : Slc w b1 A n c xs) (hy : Slc w b2 B m d ys) (h1 : 1 ≤ n) (h2 : 1 ≤ m) (hn : n ≤ 2097152) (hm : m ≤ 2097152) :
    Calls Tryz.prog 18 #[.slice A n c, .slice B m d] w fun e w' => e = .returned (.bool (decide (xs = ys))) ∧ Below w.heap.size w w' := by
  obtain ⟨lx, ox⟩ := hx
  obtain ⟨ly, oy⟩ := hy
  subst lx; subst ly
  rcases Slc.at_ ⟨rfl, ox⟩ with ⟨_, _, e0, _⟩ | ⟨g, rfl, hb, hg⟩
  · omega
  rcases Slc.at_ ⟨rfl, oy⟩ with ⟨_, _, e0, _⟩ | ⟨g2, rfl, hb2, hg2⟩
  · omega
  have c1 := holds_own (Value.int .i64) (show w.ownsRow b1 2 1 (.slice (some ⟨g, 0, none⟩) xs.length c) xs.length (xs.map (Value.int .i64)) from ox)
  have c2 := holds_own (Value.int .i64) (show w.ownsRow b2 2 1 (.slice (some ⟨g2, 0, none⟩) ys.length d) ys.length (ys.map (Value.int .i64)) from oy)
  refine (AnyE.slices_Equal layEq (Value.int .i64) (fun x y => x == y) (NeqAt.int _ _ _) g 0 xs.length c g2 0 ys.length d xs ys w (Nat.le_refl _) (Nat.le_refl _) (by omega) (by omega) (fun j hj => (c1 j (by simpa using hj)).1.trans (by simp)) (fun j hj => (c2 j (by simpa using hj)).1.trans (by simp))).mono ?_
  rintro e w' ⟨rfl, q, rfl⟩
  refine ⟨ret_bool ?_, below_quiet _ _⟩
  rw [List.take_of_length_le (Nat.le_refl _), List.take_of_length_le (Nat.le_refl _)]
  exact allEq_eq xs ys
end Go.Proofs.YtedfcljikgmpgaaGreat

/- orbitFrom: the sorted orbit of a point, its points marked. Conditions: at most 1000 points, at most 8 maps. -/
namespace Go.Proofs.YtedfcljikgmpgaaGreat
open Go.RowKit

/-- The cells cs say f of the numbers below N. -/
def Bits (N : Nat) (f : Nat → Bool) (cs : Array Value) : Prop := cs.size = N ∧ ∀ y, y < N → cs[y]? = some (.bool (f y))
theorem Bits.set_ {N : Nat} {f h : Nat → Bool} {cs : Array Value} (hb : Bits N f cs) {y : Nat} (hh : ∀ z, z < N → h z = (f z || decide (z = y))) : Bits N h (cs.setIfInBounds y (.bool true)) := by
  refine ⟨by simpa using hb.1, fun z hz => ?_⟩
  rw [Array.getElem?_setIfInBounds, hh z hz]
  by_cases e : y = z
  · subst e; rw [if_pos rfl, if_pos (by rw [hb.1]; exact hz)]; simp
  · rw [if_neg e, hb.2 z hz]
    have : ¬ z = y := fun h => e h.symm
    simp [this]
theorem Bits.congr {N : Nat} {f h : Nat → Bool} {cs : Array Value} (hb : Bits N f cs) (hh : ∀ z, z < N → h z = f z) : Bits N h cs := ⟨hb.1, fun z hz => by rw [hb.2 z hz, hh z hz]⟩
theorem Bits.start (N : Nat) : Bits N (fun _ => false) (List.replicate N (Value.bool false)).toArray := ⟨by simp, fun y hy => by
  rw [List.getElem?_toArray, List.getElem?_replicate, if_pos hy]⟩

/-- Blocks from a's end on may turn besides. -/
theorem grown_new {a b c : World} {row row2 : Option Nat} (h : a.grownBy b row) (h2 : b.grownBy c row2) (hr : ∀ j, row2 = some j → a.heap.size ≤ j) : a.grownBy c row :=
  ⟨h2.os.trans h.os, h2.tape.trans h.tape, h2.output.trans h.output, Nat.le_trans h.size h2.size, fun i hi hne => (h2.block i (Nat.lt_of_lt_of_le hi h.size) (fun e => by have := hr _ e.symm; omega)).trans (h.block i hi hne)⟩
theorem grown_alloc {a b : World} {row : Option Nat} (h : a.grownBy b row) (o : Obj) : a.grownBy (b.alloc o) row := grown_new h (World.grownBy_alloc b o none) (fun j e => nomatch e)
theorem Slc.cellN {w : World} {base g n c i : Nat} {f : List Nat} (h : Slc w base (some ⟨g, 0, none⟩) n c (f.map Int.ofNat)) (hi : i < n) : w.cell? ⟨g, i, none⟩ = some (.int .i64 (f.getD i 0 : Nat)) := by
  have hl := h.1
  rw [List.length_map] at hl
  have ho : w.ownsRow base 2 1 (.slice (some ⟨g, 0, none⟩) n c) n ((f.map Int.ofNat).map (Value.int .i64)) := by
    have := h.2; unfold Own at this; rw [h.1] at this; exact this
  rw [ho.cellAt i (by omega), List.getElem?_map, List.getElem?_map, List.getD_eq_getElem?_getD, List.getElem?_eq_getElem (by omega)]
  rfl

/-- The first k maps are gone through. -/
def expk (gs : List (List Int)) (k u : Nat) (f : List Nat) : List Nat := (gs.take k).foldl (fun f g => addN f (nx g u)) f
section
variable {gs : List (List Int)} {N x k u : Nat} {f : List Nat}
theorem expk_zero : expk gs 0 u f = f := by simp [expk]
theorem expk_succ {y : List Int} (hk : k < gs.length) (ey : gs.getD k [] = y) : expk gs (k + 1) u f = addN (expk gs k u f) (nx y u) := by
  rw [List.getD_eq_getElem?_getD, List.getElem?_eq_getElem hk] at ey
  have e' : gs[k] = y := ey
  rw [expk, List.take_succ_eq_append_getElem hk, List.foldl_append, e']; rfl
theorem expk_all : expk gs gs.length u f = expd gs u f := by rw [expk, List.take_length]; rfl
theorem expk_fd (hp : PMs N gs) (h : Fd gs N x f) (hu : u ∈ f) : Fd gs N x (expk gs k u f) :=
  Fd.fold hp (h.lt u hu) (h.rch u hu) _ (fun g hg => List.mem_of_mem_take hg) f h
theorem expk_pre : ∃ t, expk gs k u f = f ++ t := expd_pre (gs.take k) u f
theorem addN_yes {y : Nat} (h : y ∈ f) : addN f y = f := if_pos h
theorem addN_no {y : Nat} (h : y ∉ f) : addN f y = f ++ [y] := if_neg h
theorem rch_out {s : Nat → Bool} (hp : PMs N gs) (hx : x < N) (h0 : s x = false) (hs : ∀ v, v < N → s v = false → ∀ g ∈ gs, s (nx g v) = false) {y : Nat} (h : Rch gs x y) : s y = false := by
  induction h with
  | refl => exact h0
  | step hu hg ih => exact hs _ (hu.lt hp hx) ih _ hg
end

set_option maxHeartbeats 4000000 in
set_option maxRecDepth 100000 in
/-- orbitFrom. -/
theorem implFrom (x : Nat) (A : Option Addr) (n c N r B : Nat) (vs : List SV) (gs : List (List Int)) (s : Nat → Bool) (cs : Array Value) (w : World) (hx : RR w B A n vs gs) (hB : B ≤ r) (hp : Hid (PMs N gs)) (hxN : x < N) (hN : N ≤ 1000) (hn : n ≤ 8)
    (hr : Blk w r 4 cs) (hb : Hid (Bits N s cs)) (h0 : Hid (s x = false)) (hs : Hid (∀ v, v < N → s v = false → ∀ g ∈ gs, s (nx g v) = false)) :
    Calls Tryz.prog 73 #[.int .i64 (x : Nat), .slice A n c, .slice (some ⟨r, 0, none⟩) N N] w fun e w' => ∃ A' m c', e = .returned (.slice A' m c') ∧ Slc w' w.heap.size A' m c' (oS gs N x) ∧
      (∃ cs', Blk w' r 4 cs' ∧ Bits N (fun y => s y || decide (y ∈ orb gs N x)) cs') ∧ w.grownBy w' (some r) := by
  have HX := Lib.hid hx
  have hlx := hx.lx
  have hrlt := hr.lt
  have c0 := (hr.cell x).trans (hb.out.2 x hxN)
  have f0 := hr.frozen x
  have R0 := Lib.hid (hr.set_ x (.bool true))
  have B0 : Hid (Bits N (fun y => s y || decide (y ∈ [x])) (cs.setIfInBounds x (.bool true))) := Lib.hid (hb.out.set_ fun z _ => by simp)
  have hsz2 : (w.setCell ⟨r, x, none⟩ (.bool true)).heap.size = w.heap.size := by simp [World.setCell]
  have s0 := (Slc.lit1 (w.setCell ⟨r, x, none⟩ (.bool true)) w.heap.size (x : Int) (by simp [World.setCell]))
  rw [hsz2] at s0
  have S0 := Lib.hid s0
  clear s0 hsz2
  have G0 : Hid (w.grownBy ((w.setCell ⟨r, x, none⟩ (.bool true)).alloc (.cells #[.int .i64 (x : Int)] 2)) (some r)) := Lib.hid (grown_alloc (grown_set (grown_refl _ _) _ _) _)
  have hsz : w.heap.size ≤ (w.setCell ⟨r, x, none⟩ (.bool true)).heap.size := by simp [World.setCell]
  clear hx hr
  go_enter Tryz.func73, Tryz.ntmps73
  go_wp2
  clear c0 f0
  go_loopg [7, 8] (N + 1) (fun gg v i wr => ∃ (k : Nat) (f : List Nat) (A' : Option Addr) (c' : Nat) (cs1 : Array Value), k ≤ f.length ∧ N + 1 - k ≤ gg ∧ i = .int .i64 (k : Nat) ∧ v = .slice A' f.length c' ∧ Slc wr w.heap.size A' f.length c' (f.map Int.ofNat) ∧
    Fd gs N x f ∧ bfs gs (N + 1 - k) k f = orb gs N x ∧ Blk wr r 4 cs1 ∧ Bits N (fun y => s y || decide (y ∈ f)) cs1 ∧ w.grownBy wr (some r))
  case atStart => exact ⟨0, [x], _, _, _, Nat.zero_le _, Nat.le_refl _, rfl, rfl, S0.out, Fd.one hxN, rfl, R0.out.alloc _, B0.out, G0.out⟩
  case round =>
    clear S0 G0 B0 R0
    obtain ⟨k, f, A', c', cs1, hk, hgk, rfl, rfl, ss, fd, hbf, blk, bits, gro⟩ := hrel
    have Ss := Lib.hid ss
    have Fq := Lib.hid fd
    have Hbf := Lib.hid hbf
    have Bk := Lib.hid blk
    have Bi := Lib.hid bits
    have Gr := Lib.hid gro
    have hfN := fd.len
    clear ss fd hbf blk bits gro
    by_cases hlt : k < f.length
    · obtain ⟨u, hu⟩ : ∃ u, f.getD k 0 = u := ⟨_, rfl⟩
      have huf : Hid (u ∈ f) := Lib.hid (by rw [← hu]; exact getD_memN hlt)
      have Hu := Lib.hid hu
      have huN : u < N := Fq.out.lt u huf.out
      have hsu : Hid (s u = false) := Lib.hid (rch_out hp.out hxN h0.out hs.out (Fq.out.rch u huf.out))
      clear hu
      go_wp2
      obtain ⟨wl, rfl⟩ : ∃ wl, wl = wr := ⟨_, rfl⟩
      go_loopg [7, 25] n (fun gg v i wr2 => ∃ (j : Nat) (f2 : List Nat) (A2 : Option Addr) (c2 : Nat) (cs2 : Array Value), j ≤ n ∧ n - j ≤ gg ∧ i = .int .i64 (j : Nat) ∧ v = .slice A2 f2.length c2 ∧ Slc wr2 w.heap.size A2 f2.length c2 (f2.map Int.ofNat) ∧
        f2 = expk gs j u f ∧ Blk wr2 r 4 cs2 ∧ Bits N (fun y => s y || decide (y ∈ f2)) cs2 ∧ w.grownBy wr2 (some r))
      case atStart => exact ⟨0, f, _, _, _, Nat.zero_le _, Nat.le_refl _, rfl, rfl, Ss.out, expk_zero.symm, Bk.out, Bi.out, Gr.out⟩
      case round =>
        obtain ⟨j, f2, A2, c2, cs2, hj, hgj, rfl, rfl, ss2, ef2, blk2, bits2, gro2⟩ := hrel
        have Ss2 := Lib.hid ss2
        have Ef := Lib.hid ef2
        have Bk2 := Lib.hid blk2
        have Bi2 := Lib.hid bits2
        have Gr2 := Lib.hid gro2
        have fd2 : Hid (Fd gs N x f2) := Lib.hid (by rw [ef2]; exact expk_fd hp.out Fq.out huf.out)
        have hf2N := fd2.out.len
        have hpre : k < f2.length ∧ f2.getD k 0 = u := by
          obtain ⟨t, et⟩ := expk_pre (gs := gs) (k := j) (u := u) (f := f)
          rw [ef2, et]
          exact ⟨by rw [List.length_append]; omega, by rw [getD_preN hlt]; exact Hu.out⟩
        have hk2 := hpre.1
        have Hu2 := Lib.hid hpre.2
        clear ss2 ef2 blk2 bits2 gro2 hpre
        by_cases hjl : j < n
        · obtain ⟨b, off, A5, l, c5, y, rfl, hbB, ev, ey, hc0, hr0, hy, hlc⟩ := (HX.out.grown Gr2.out (by omega) (fun g e => by cases e; exact hB)).at_ hjl
          have hyp : PM N y := hp.out y (by rw [← ey]; exact getD_memL (by rw [hlx]; exact hjl))
          obtain ⟨b2, off2, rfl, hb2, hc2⟩ := hr0 (by rw [hyp.len]; omega)
          have c2' := hc2 u (by rw [hyp.len]; exact huN)
          rw [hyp.nx_val huN] at c2'
          have hvN := hyp.nx_lt huN
          have Nx := Lib.hid (expk_succ (u := u) (f := f) (by rw [hlx]; exact hjl) ey)
          have hsv : Hid (s (nx y u) = false) := Lib.hid (hs.out u huN hsu.out y (by rw [← ey]; exact getD_memL (by rw [hlx]; exact hjl)))
          have hrv : Hid (Rch gs x (nx y u)) := Lib.hid ((Fq.out.rch u huf.out).step (by rw [← ey]; exact getD_memL (by rw [hlx]; exact hjl)))
          rcases Slc.at_ Ss2.out with ⟨_, e1, _⟩ | ⟨g, rfl, hg1, hg2⟩
          · exfalso; have : f2.length = 0 := by have := congrArg List.length e1; simpa using this
            omega
          have c3 := Ss2.out.cellN hk2
          rw [Hu2.out] at c3
          obtain ⟨v, ev2⟩ : ∃ v, nx y u = v := ⟨_, rfl⟩
          rw [ev2] at c2' hvN
          have Ev := Lib.hid ev2
          have c4 : wr.cell? ⟨r, v, none⟩ = some (.bool (s v || decide (v ∈ f2))) := (Bk2.out.cell v).trans (Bi2.out.2 v hvN)
          have f4 := Bk2.out.frozen v
          have hl' : l = N := by rw [← hy]; exact hyp.len
          subst hl'
          clear ev ey hr0 hy hyp hc2 ev2
          by_cases hm : v ∈ f2
          · have Nx2 : Hid (expk gs (j + 1) u f = f2) := Lib.hid (by rw [Nx.out, ← Ef.out, Ev.out, addN_yes hm])
            rw [show (s v || decide (v ∈ f2)) = true from by simp [hm]] at c4
            clear hm f4
            go_wp2
            go_roundg (n - (j + 1))
            case rel => exact ⟨j + 1, f2, _, _, _, by omega, by omega, by go_num, rfl, Ss2.out, Nx2.out.symm, Bk2.out, Bi2.out, Gr2.out⟩
            case measure => omega
          · have Nx2 : Hid (expk gs (j + 1) u f = f2 ++ [v]) := Lib.hid (by rw [Nx.out, ← Ef.out, Ev.out, addN_no hm])
            have hsv2 : s v = false := by rw [← Ev.out]; exact hsv.out
            rw [show (s v || decide (v ∈ f2)) = false from by simp [hm, hsv2]] at c4
            have Bi3 : Hid (Bits l (fun y => s y || decide (y ∈ f2 ++ [v])) (cs2.setIfInBounds v (.bool true))) := Lib.hid (Bi2.out.set_ fun z _ => by simp [Bool.or_assoc])
            have Bk3 := Lib.hid (Bk2.out.set_ v (.bool true))
            have Gr3 := Lib.hid (grown_set Gr2.out v (.bool true))
            have Ss3 : Hid (Slc (wr.setCell ⟨r, v, none⟩ (.bool true)) w.heap.size (some ⟨g, 0, none⟩) f2.length c2 (f2.map Int.ofNat)) := Lib.hid (Ss2.out.kept (grown_set (grown_refl _ _) _ _) (.inr (by simp [Value.ownBlock]; omega)))
            have hz3 : w.heap.size ≤ (wr.setCell ⟨r, v, none⟩ (.bool true)).heap.size := Gr3.out.size
            have hc9 : ((wr.setCell ⟨r, v, none⟩ (.bool true)).alloc (.cells #[.int .i64 ((v : Nat) : Int)] 2)).cell? ⟨wr.heap.size, 0, none⟩ = some (.int .i64 ((v : Nat) : Int)) := by
              have e : (wr.setCell ⟨r, v, none⟩ (.bool true)).heap.size = wr.heap.size := by simp [World.setCell]
              rw [← e, World.cell?_alloc_at _ _ _ _ rfl]; rfl
            clear hm hsv2
            go_wp2_with (first | (at_builtin; refine wpList_app1 rfl _ _ rfl w.heap.size (some ⟨g, 0, none⟩) f2.length c2 _ rfl (Ss3.out.alloc _) wr.heap.size ((v : Nat) : Int) rfl hc9 (by omega) (by simp; omega) ?_; intro A3 c3 w3 ss3 hg3))
            have Ss4 : Hid (Slc w3 w.heap.size A3 (f2 ++ [v]).length c3 ((f2 ++ [v]).map Int.ofNat)) := Lib.hid (by
              rw [List.length_append, List.map_append]; exact ss3)
            have hrne : some r ≠ (Value.slice (some ⟨g, 0, none⟩) f2.length c2).ownBlock := by simp [Value.ownBlock]; omega
            have Bk4 := Lib.hid ((Bk3.out.alloc (.cells #[.int .i64 ((v : Nat) : Int)] 2)).grown hg3 hrne)
            have Gr4 : Hid (w.grownBy w3 (some r)) := Lib.hid (grown_new (grown_alloc Gr3.out _) hg3 (fun j hj => by simp [Value.ownBlock] at hj; omega))
            clear ss3 hg3 hrne
            go_wp2
            go_roundg (n - (j + 1))
            case rel => exact ⟨j + 1, f2 ++ [v], _, _, _, by omega, by omega, by go_num, by simp, Ss4.out, Nx2.out.symm, Bk4.out, Bi3.out, Gr4.out⟩
            case measure => omega
        · have hjn : j = n := by omega
          subst hjn
          have Ee : Hid (f2 = expd gs u f) := Lib.hid (by rw [Ef.out, ← hlx, expk_all])
          have Hb2 : Hid (bfs gs (N + 1 - (k + 1)) (k + 1) f2 = orb gs N x) := Lib.hid (by rw [Ee.out, ← Hu.out, ← bfs_go hlt hfN]; exact Hbf.out)
          go_wp2
          go_roundg (N + 1 - (k + 1))
          case rel => exact ⟨k + 1, f2, _, _, _, by omega, by omega, by go_num, rfl, Ss2.out, fd2.out, Hb2.out, Bk2.out, Bi2.out, Gr2.out⟩
          case measure => omega
    · have hkl : k = f.length := by omega
      have Eo : Hid (f = orb gs N x) := Lib.hid (by rw [← Hbf.out, bfs_end (by omega)])
      have hpos := Fq.out.pos
      go_wp2_with fail
      refine (sortT w.heap.size A' f.length c' _ wr Ss.out (by omega) (by omega)).mono ?_
      rintro e w3 ⟨rfl, s3, g3⟩
      have S3 : Hid (Slc w3 w.heap.size A' f.length c' (oS gs N x)) := Lib.hid (by rw [← oS_sort hp.out hxN, ← Eo.out]; exact s3)
      have hrne : some r ≠ (Value.slice A' f.length c').ownBlock := fun e => by have := (Ss.out.lt_ r e.symm).1; omega
      have Bk3 := Lib.hid (Bk.out.grown g3 hrne)
      have Gr3 : Hid (w.grownBy w3 (some r)) := Lib.hid (grown_new Gr.out g3 (fun j hj => (Ss.out.lt_ j hj).1))
      have Bi3 : Hid (Bits N (fun y => s y || decide (y ∈ orb gs N x)) cs1) := Lib.hid (by rw [← Eo.out]; exact Bi.out)
      clear s3 g3 hrne
      go_wp2
      go_ret
      exact ⟨_, _, _, rfl, S3.out, ⟨_, Bk3.out, Bi3.out⟩, Gr3.out⟩
end Go.Proofs.YtedfcljikgmpgaaGreat

/- The model's orbit of a point: found in the order of discovery, then sorted by insertion. Conditions: at most 1000 points, at most 8 maps. -/
namespace Go.Proofs.YtedfcljikgmpgaaGreat
open Go.RowKit

theorem hasB_nat {f : List Nat} {v : Nat} : hasB (f.map Int.ofNat) (v : Int) = decide (v ∈ f) := by
  unfold hasB
  rw [Bool.eq_iff_iff]
  simp only [decide_eq_true_eq, List.length_map]
  constructor
  · rintro ⟨j, hj, e⟩
    rw [List.getD_eq_getElem?_getD, List.getElem?_map, List.getElem?_eq_getElem hj] at e
    have e2 : f[j] = v := Int.ofNat.inj (by simpa using e)
    rw [← e2]; exact List.getElem_mem hj
  · intro h
    obtain ⟨j, hj, e⟩ := List.mem_iff_getElem.1 h
    exact ⟨j, hj, by rw [List.getD_eq_getElem?_getD, List.getElem?_map, List.getElem?_eq_getElem hj, e]; rfl⟩

set_option maxHeartbeats 4000000 in
set_option maxRecDepth 100000 in
/-- orbitOf. -/
theorem specOrbOf (x : Nat) (A : Option Addr) (n c N : Nat) (vs : List SV) (gs : List (List Int)) (w : World) (hx : RR w w.heap.size A n vs gs) (hp : Hid (PMs N gs)) (hxN : x < N) (hN : N ≤ 1000) (hn : n ≤ 8) :
    Calls Tryz.prog 48 #[.slice A n c, .int .i64 (x : Nat)] w fun e w' => ∃ g' c', e = .returned (.slice (some ⟨g', 0, none⟩) (orb gs N x).length c') ∧ Slc w' w.heap.size (some ⟨g', 0, none⟩) (orb gs N x).length c' ((orb gs N x).map Int.ofNat) ∧ Below w.heap.size w w' := by
  have HX := Lib.hid hx
  have hlx := hx.lx
  have S0 := Lib.hid (Slc.lit1 w w.heap.size (x : Int) (Nat.le_refl _))
  have B0 : Hid (Below w.heap.size w (w.alloc (.cells #[.int .i64 (x : Int)] 2))) := Lib.hid ((Below.refl _ _).alloc (Nat.le_refl _) _)
  clear hx
  go_enter Tryz.func48, Tryz.ntmps48
  go_wp2
  go_loopg [5, 6] (N + 1) (fun gg v i wr => ∃ (k : Nat) (f : List Nat) (g' : Nat) (c' : Nat), k ≤ f.length ∧ N + 1 - k ≤ gg ∧ i = .int .i64 (k : Nat) ∧ v = .slice (some ⟨g', 0, none⟩) f.length c' ∧ Slc wr w.heap.size (some ⟨g', 0, none⟩) f.length c' (f.map Int.ofNat) ∧
    Fd gs N x f ∧ bfs gs (N + 1 - k) k f = orb gs N x ∧ Below w.heap.size w wr)
  case atStart => exact ⟨0, [x], _, _, Nat.zero_le _, Nat.le_refl _, rfl, rfl, S0.out, Fd.one hxN, rfl, B0.out⟩
  case round =>
    clear S0 B0
    obtain ⟨k, f, g', c', hk, hgk, rfl, rfl, ss, fd, hbf, gro⟩ := hrel
    have Ss := Lib.hid ss
    have Fq := Lib.hid fd
    have Hbf := Lib.hid hbf
    have Gr := Lib.hid gro
    have hfN := fd.len
    clear ss fd hbf gro
    by_cases hlt : k < f.length
    · obtain ⟨u, hu⟩ : ∃ u, f.getD k 0 = u := ⟨_, rfl⟩
      have huf : Hid (u ∈ f) := Lib.hid (by rw [← hu]; exact getD_memN hlt)
      have Hu := Lib.hid hu
      have huN : u < N := Fq.out.lt u huf.out
      clear hu
      go_wp2
      obtain ⟨wl, rfl⟩ : ∃ wl, wl = wr := ⟨_, rfl⟩
      go_loopg [5, 7] n (fun gg v i wr2 => ∃ (j : Nat) (f2 : List Nat) (g2 : Nat) (c2 : Nat), j ≤ n ∧ n - j ≤ gg ∧ i = .int .i64 (j : Nat) ∧ v = .slice (some ⟨g2, 0, none⟩) f2.length c2 ∧ Slc wr2 w.heap.size (some ⟨g2, 0, none⟩) f2.length c2 (f2.map Int.ofNat) ∧
        f2 = expk gs j u f ∧ Below w.heap.size w wr2)
      case atStart => exact ⟨0, f, _, _, Nat.zero_le _, Nat.le_refl _, rfl, rfl, Ss.out, expk_zero.symm, Gr.out⟩
      case round =>
        obtain ⟨j, f2, g2, c2, hj, hgj, rfl, rfl, ss2, ef2, gro2⟩ := hrel
        have Ss2 := Lib.hid ss2
        have Ef := Lib.hid ef2
        have Gr2 := Lib.hid gro2
        have fd2 : Hid (Fd gs N x f2) := Lib.hid (by rw [ef2]; exact expk_fd hp.out Fq.out huf.out)
        have hf2N := fd2.out.len
        have hpre : k < f2.length ∧ f2.getD k 0 = u := by
          obtain ⟨t, et⟩ := expk_pre (gs := gs) (k := j) (u := u) (f := f)
          rw [ef2, et]
          exact ⟨by rw [List.length_append]; omega, by rw [getD_preN hlt]; exact Hu.out⟩
        have hk2 := hpre.1
        have Hu2 := Lib.hid hpre.2
        clear ss2 ef2 gro2 hpre
        by_cases hjl : j < n
        · obtain ⟨b, off, A5, l, c5, y, rfl, hbB, ev, ey, hc0, hr0, hy, hlc⟩ := (HX.out.below Gr2.out (Nat.le_refl _)).at_ hjl
          have hyp : PM N y := hp.out y (by rw [← ey]; exact getD_memL (by rw [hlx]; exact hjl))
          obtain ⟨b2, off2, rfl, hb2, hc2⟩ := hr0 (by rw [hyp.len]; omega)
          have c2' := hc2 u (by rw [hyp.len]; exact huN)
          rw [hyp.nx_val huN] at c2'
          have hvN := hyp.nx_lt huN
          have Nx := Lib.hid (expk_succ (u := u) (f := f) (by rw [hlx]; exact hjl) ey)
          have c3 := Ss2.out.cellN hk2
          rw [Hu2.out] at c3
          obtain ⟨v, ev2⟩ : ∃ v, nx y u = v := ⟨_, rfl⟩
          rw [ev2] at c2' hvN
          have Ev := Lib.hid ev2
          have hl' : l = N := by rw [← hy]; exact hyp.len
          have q1 : (0 : Int) ≤ j := by omega
          have q2 : (j : Int) < n := by omega
          have q3 : (0 : Int) ≤ k := by omega
          have q4 : (k : Int) < f2.length := by omega
          have q5 : (0 : Int) ≤ u := by omega
          have q6 : (u : Int) < l := by omega
          subst hl'
          clear ev ey hr0 hy hyp hc2 ev2
          go_wp2
          go_quiet (fail)
          have c5' : ∀ q, (wr.drewN q).cell? = wr.cell? := fun q => rfl
          go_wp2_with fail
          refine (containsI_any (some ⟨g2, 0, none⟩) c2 f2.length _ (v : Int) _ _ (Ss2.out.ri_.drewN _) (Lib.hid (by simp)) (by omega) (decide (v ∈ f2)) (Lib.hid hasB_nat)).mono ?_
          rintro e w5 ⟨rfl, rfl⟩
          by_cases hm : v ∈ f2
          · have Nx2 : Hid (expk gs (j + 1) u f = f2) := Lib.hid (by rw [Nx.out, ← Ef.out, Ev.out, addN_yes hm])
            rw [decide_eq_true hm]
            clear hm
            go_wp2
            go_roundg (n - (j + 1))
            case rel => exact ⟨j + 1, f2, _, _, by omega, by omega, by go_num, rfl, Ss2.out.drewN _, Nx2.out.symm, below_drewN Gr2.out _⟩
            case measure => omega
          · have Nx2 : Hid (expk gs (j + 1) u f = f2 ++ [v]) := Lib.hid (by rw [Nx.out, ← Ef.out, Ev.out, addN_no hm])
            rw [decide_eq_false hm]
            clear hm
            have hz3 := Gr2.out.size
            have hc9 : ∀ q, ((wr.drewN q).alloc (.cells #[.int .i64 ((v : Nat) : Int)] 2)).cell? ⟨wr.heap.size, 0, none⟩ = some (.int .i64 ((v : Nat) : Int)) := fun q => by
              rw [show wr.heap.size = (wr.drewN q).heap.size from rfl, World.cell?_alloc_at _ _ _ _ rfl]; rfl
            have HC9 := Lib.hid hc9
            have hz9 : ∀ q, w.heap.size ≤ ((wr.drewN q).alloc (.cells #[.int .i64 ((v : Nat) : Int)] 2)).heap.size := fun q => by rw [World.size_alloc]; exact Nat.le_succ_of_le hz3
            have HZ9 := Lib.hid hz9
            clear hc9 hz9
            go_wp2_with (first | (at_builtin; refine wpList_app1 rfl _ _ rfl w.heap.size (some ⟨g2, 0, none⟩) f2.length c2 _ rfl ((Ss2.out.drewN _).alloc _) wr.heap.size ((v : Nat) : Int) rfl (HC9.out _) (by omega) (HZ9.out _) ?_; intro A3 c3 w3 ss3 hg3))
            have Ss4 : Hid (Slc w3 w.heap.size A3 (f2 ++ [v]).length c3 ((f2 ++ [v]).map Int.ofNat)) := Lib.hid (by
              rw [List.length_append, List.map_append]; exact ss3)
            have Gr4 : Hid (Below w.heap.size w w3) := Lib.hid (((below_drewN Gr2.out _).alloc hz3 _).grown hg3 (HZ9.out _) (fun i hi => (Ss2.out.lt_ i hi).1))
            obtain ⟨g4, rfl⟩ : ∃ q4, A3 = some ⟨q4, 0, none⟩ := by
              rcases Ss4.out.at_ with ⟨_, _, e0, _⟩ | ⟨q4, e0, _, _⟩
              · rw [List.length_append] at e0; simp at e0
              · exact ⟨q4, e0⟩
            clear ss3 hg3
            go_wp2
            go_roundg (n - (j + 1))
            case rel => exact ⟨j + 1, f2 ++ [v], _, _, by omega, by omega, by go_num, by simp, Ss4.out, Nx2.out.symm, Gr4.out⟩
            case measure => omega
        · have hjn : j = n := by omega
          subst hjn
          have Ee : Hid (f2 = expd gs u f) := Lib.hid (by rw [Ef.out, ← hlx, expk_all])
          have Hb2 : Hid (bfs gs (N + 1 - (k + 1)) (k + 1) f2 = orb gs N x) := Lib.hid (by rw [Ee.out, ← Hu.out, ← bfs_go hlt hfN]; exact Hbf.out)
          go_wp2
          go_roundg (N + 1 - (k + 1))
          case rel => exact ⟨k + 1, f2, _, _, by omega, by omega, by go_num, rfl, Ss2.out, fd2.out, Hb2.out, Gr2.out⟩
          case measure => omega
    · have hkl : k = f.length := by omega
      have Eo : Hid (f = orb gs N x) := Lib.hid (by rw [← Hbf.out, bfs_end (by omega)])
      go_wp2
      go_ret
      exact ⟨_, _, by rw [← Eo.out]; rfl, by rw [← Eo.out]; exact Ss.out, Gr.out⟩
end Go.Proofs.YtedfcljikgmpgaaGreat

/- Orbit, of the program and of the model. Conditions: at most 1048576 lists of at most 1048576 numbers. -/
namespace Go.Proofs.YtedfcljikgmpgaaGreat
open Go.RowKit

/-- isPoint of the program. -/
theorem implPt (n x : Int) (w : World) : Calls Tryz.prog 35 #[.int .i64 n, .int .i64 x] w fun e w' => e = .returned (.bool (decide (0 ≤ x ∧ x < n))) ∧ w = w' := by
  by_cases h1 : 0 ≤ x
  · by_cases h2 : x < n
    · have e1 : decide (0 ≤ x ∧ x < n) = true := decide_eq_true ⟨h1, h2⟩
      rw [e1]
      clear e1
      go_enter Tryz.func35, Tryz.ntmps35
      go_wp2
      go_ret
      exact ⟨rfl, rfl⟩
    · have e1 : decide (0 ≤ x ∧ x < n) = false := decide_eq_false fun h => h2 h.2
      have d2 : decide (x < n) = false := decide_eq_false h2
      rw [e1]
      clear e1
      go_enter Tryz.func35, Tryz.ntmps35
      go_wp2
      go_ret
      exact ⟨rfl, rfl⟩
  · have e1 : decide (0 ≤ x ∧ x < n) = false := decide_eq_false fun h => h1 h.1
    have d2 : decide (0 ≤ x) = false := decide_eq_false h1
    rw [e1]
    clear e1
    go_enter Tryz.func35, Tryz.ntmps35
    go_wp2
    go_ret
    exact ⟨rfl, rfl⟩

/-- What Orbit answers. -/
def orbitL (n : Int) (gs : List (List Int)) (x : Int) : List Int := if gB n gs = true ∧ 0 ≤ x ∧ x < n then oS gs n.toNat x.toNat else []

/-- 'make([]bool, n)'. -/
theorem infoB : (Tryz.prog.info? 4).map (fun i => (i.zero, i.size, i.bytes)) = some (some (.bool false), 1, 1) := by kernel_rfl
theorem made_bits {w : World} {base g n : Nat} (h : w.ownsRow base 4 1 (.slice (some ⟨g, 0, none⟩) n n) n (madeCells (Value.bool false).cells (n * 1)).toList) : ∃ cs, Blk w g 4 cs ∧ Bits n (fun _ => false) cs := by
  rcases h.2 with ⟨e, _⟩ | ⟨g', cap, cur, e, _, hg, _, _, hsz, htk⟩
  · cases e
  · injection e with e1 e2 e3
    subst e3
    have eg : g = g' := by simpa using e1
    subst eg
    refine ⟨cur, hg, by rw [hsz]; omega, fun y hy => ?_⟩
    have hm : (madeCells (Value.bool false).cells (n * 1)).toList = List.replicate n (Value.bool false) := by
      show (madeCells #[Value.bool false] (n * 1)).toList = _
      rw [toList_madeCells_one]; simp
    rw [hm, Nat.mul_one, List.take_of_length_le (by simp [hsz])] at htk
    rw [← Array.getElem?_toList, htk, List.getElem?_replicate, if_pos hy]


end Go.Proofs.YtedfcljikgmpgaaGreat

/- What an iterator's walk needs of blocks, of slices of slices, of append inside a round. No condition. -/
namespace Go.Proofs.YtedfcljikgmpgaaGreat
open Go.RowKit
attribute [local go_sem] Oper.semAt_some

/-- From A to C the blocks below b and beyond b + 2 lie as they lay. -/
structure Xk (b : Nat) (A C : World) : Prop where
  os : C.os = A.os
  tape : C.tape = A.tape
  output : C.output = A.output
  size : A.heap.size ≤ C.heap.size
  block : ∀ k, k < A.heap.size → (k < b ∨ b + 2 < k) → C.heap[k]? = A.heap[k]?
theorem Xk.of_grown {b r : Nat} {A C : World} (h : A.grownBy C (some r)) (hr : b ≤ r ∧ r ≤ b + 2) : Xk b A C :=
  ⟨h.os, h.tape, h.output, h.size, fun k hk hb => h.block k hk (fun e => by cases e; omega)⟩
theorem Xk.trans {b : Nat} {A C D : World} (h : Xk b A C) (k : Xk b C D) : Xk b A D :=
  ⟨k.os.trans h.os, k.tape.trans h.tape, k.output.trans h.output, Nat.le_trans h.size k.size, fun i hi hb => (k.block i (Nat.lt_of_lt_of_le hi h.size) hb).trans (h.block i hi hb)⟩
theorem Xk.put {b r : Nat} (A : World) (o : Obj) (hr : b ≤ r ∧ r ≤ b + 2) : Xk b A (A.putObj r o) := Xk.of_grown (grownBy_putObj' A r o) hr
theorem Xk.below {b B : Nat} {A C : World} (h : Xk b A C) (hB : B ≤ b) (hA : B ≤ A.heap.size) : Below B A C := ⟨h.os, h.tape, h.output, h.size, fun k hk => h.block k (by omega) (.inl (by omega))⟩
theorem Slc.xk {b base n c : Nat} {A C : World} {S : Option Addr} {xs : List Int} (h : Slc A base S n c xs) (hk : Xk b A C) (ho : ∀ k, (Value.slice S n c).ownBlock = some k → k < b ∨ b + 2 < k) : Slc C base S n c xs := by
  refine ⟨h.1, h.2.1, ?_⟩
  rcases h.2.2 with hn | ⟨g, cap, cur, e, hb', hg, rest⟩
  · exact .inl hn
  · exact .inr ⟨g, cap, cur, e, hb', by rw [hk.block g (Array.getElem?_eq_some_iff.1 hg).1 (ho g (by rw [e]; rfl))]; exact hg, rest⟩

theorem SS.keptR {w w' : World} {bo bi n c : Nat} {A : Option Addr} {vs : List SV} {xss : List (List Int)} {row : Option Nat} (h : SS w bo bi A n c vs xss) (hg : w.grownBy w' row)
    (ho : (Value.slice A n c).ownBlock = none ∨ (Value.slice A n c).ownBlock ≠ row) (hr : ∀ i, i < n → (sval (vs.getD i sd0)).ownBlock = none ∨ (sval (vs.getD i sd0)).ownBlock ≠ row) : SS w' bo bi A n c vs xss :=
  ⟨World.ownsRow.kept h.own hg ho, h.lv, h.lx, fun i hi' => (h.row i hi').kept hg (hr i hi'), h.dis⟩
theorem SS.xk {b bo bi n c : Nat} {W C : World} {A : Option Addr} {vs : List SV} {xss : List (List Int)} (h : SS W bo bi A n c vs xss) (hk : Xk b W C) (h1 : b + 2 < bo) (h2 : b + 2 < bi) : SS C bo bi A n c vs xss := by
  refine ⟨⟨h.own.1, ?_⟩, h.lv, h.lx, fun i hi => (h.row i hi).xk hk (fun k e => .inr (by have := ((h.row i hi).lt_ k e).1; omega)), h.dis⟩
  rcases h.own.2 with hn | ⟨g, cap, cur, e, hb', hg, rest⟩
  · exact .inl hn
  · exact .inr ⟨g, cap, cur, e, hb', by rw [hk.block g (Array.getElem?_eq_some_iff.1 hg).1 (.inr (by omega))]; exact hg, rest⟩

/-- append of one slice onto a slice of slices of the call's own, inside a round. -/
theorem wpListIn_app2 {F : Fence} {nn : Nat} {w : World} {base bi n c : Nat} {A : Option Addr} {vs : List SV} {xss : List (List Int)} {ops : Array Oper} {rest : List Oper} {o : Oper} {a : Act} {Q : Exit → Act → World → Prop} (hgd : o.guard = none) (s x : Operand)
    (ho : o.op = .call { callee := .builtin .append, args := #[s, x], argTypes := #[24, 24] })
    (hs : a.eval s = .slice A n c) (hss : SS w base bi A n c vs xss) (g : Nat) (dA : Option Addr) (dn dc : Nat) (ys : List Int) (hx : a.eval x = .slice (some ⟨g, 0, none⟩) 1 1)
    (hcell : w.cell? ⟨g, 0, none⟩ = some (.slice dA dn dc)) (hys : Slc w bi dA dn dc ys)
    (hdis : ∀ i, i < n → (sval (vs.getD i sd0)).ownBlock = none ∨ (sval (vs.getD i sd0)).ownBlock ≠ (Value.slice dA dn dc).ownBlock) (hn : n ≤ 1000000000) (hbase : base ≤ w.heap.size)
    (h : ∀ g' c' w', SS w' base bi (some ⟨g', 0, none⟩) (n + 1) c' (vs ++ [(dA, dn, dc)]) (xss ++ [ys]) → w.grownBy w' (Value.slice A n c).ownBlock → wpListIn F nn Tryz.prog ops Q rest (a.put o.dst (.slice (some ⟨g', 0, none⟩) (n + 1) c')) w') : wpListIn F nn Tryz.prog ops Q (o :: rest) a w := by
  obtain ⟨i0, hi, hz0, hz1, hz2⟩ := info_parts infoS
  refine wpListIn_append_own w hgd s x 24 ho base 37 i0 (.slice none 0 0) 1 24 Tryz.underlying24 hi hz0 hz1 hz2 rfl (by decide) _ n _ hs hss.own ⟨g, 0, none⟩ 1 1 [.slice dA dn dc] hx rfl ?_ ?_ ?_ (by omega) hbase ?_
  · intro j v hj
    match j, hj with
    | 0, hj => simp at hj; subst hj; simpa [Addr.add] using hcell
    | j + 1, hj => simp at hj
  · intro v hv; simp at hv; subst hv; rfl
  · unfold maxLen; omega
  · intro v' w' hown' hg _
    have hform : ∃ g' c', v' = .slice (some ⟨g', 0, none⟩) (n + 1) c' := by
      rcases hown'.2 with ⟨rfl, h0⟩ | ⟨g', cap, cur, rfl, _⟩
      · omega
      · exact ⟨_, _, rfl⟩
    obtain ⟨A', c', rfl⟩ := hform
    refine h A' c' w' ⟨?_, by simp [hss.lv], by simp [hss.lx], fun i hi' => ?_, fun i j hij hj => ?_⟩ hg
    · rw [List.map_append]; exact hown'
    · by_cases e : i < n
      · rw [getD_app _ _ _ _ (by rw [hss.lv]; exact e), getD_app _ _ _ _ (by rw [hss.lx]; exact e)]
        exact (hss.row i e).kept hg (apart_types (hss.row i e) hss.own)
      · obtain rfl : i = n := by omega
        rw [getD_snoc _ _ _ _ hss.lv.symm, getD_snoc _ _ _ _ hss.lx.symm]
        exact hys.kept hg (apart_types hys hss.own)
    · rw [getD_app _ _ _ i (by rw [hss.lv]; omega)]
      by_cases e : j < n
      · rw [getD_app _ _ _ j (by rw [hss.lv]; exact e)]; exact hss.dis i j hij e
      · obtain rfl : j = n := by omega
        rw [getD_snoc _ _ _ _ hss.lv.symm]
        exact hdis i hij

theorem take_next {xss : List (List Int)} {i : Nat} (hi : i < xss.length) : xss.take (i + 1) = xss.take i ++ [xss.getD i []] := by
  rw [List.take_succ_eq_append_getElem hi, List.getD_eq_getElem?_getD, List.getElem?_eq_getElem hi]; rfl
/-- A box of another type is not the slice's row. -/
theorem Blk.not_outer {w : World} {b base n : Nat} {v : Value} {cs : Array Value} {ys : List Value} (h : Blk w b 24 cs) (ho : w.ownsRow base 37 1 v n ys) : some b ≠ v.ownBlock := by
  rcases ho.2 with ⟨rfl, _⟩ | ⟨g', cap', cur', rfl, hb', hg', _⟩
  · simp [Value.ownBlock]
  · intro e
    have e2 : b = g' := by simpa [Value.ownBlock] using e
    subst e2
    have := (show w.heap[b]? = _ from h).symm.trans hg'
    simp at this

theorem grown_any {a b : World} {row : Option Nat} (h : a.grownBy b none) : a.grownBy b row := ⟨h.os, h.tape, h.output, h.size, fun k hk _ => h.block k hk (fun e => nomatch e)⟩
end Go.Proofs.YtedfcljikgmpgaaGreat
