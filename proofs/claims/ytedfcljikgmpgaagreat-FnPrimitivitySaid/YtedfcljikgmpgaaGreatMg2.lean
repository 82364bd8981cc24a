/- Part 2 of the texts: Gen, SSh, Inv, SSo, DrawG, DrawX, Ct, GrpM, ChM, ChS, ChH, ChU, ChW, ChP, ChA, ChG, ChE, ChB, ChQ, Ins, ChR. No condition of its own: each text tells its own. -/
import Derived.Test.YtedfcljikgmpgaaGreatMg1
import Derived.Deep.CutRange
import Derived.Deep.LoopGhost
import Derived.BigQuiet
import Derived.RegionTactic
import Derived.BigRegion
import Derived.Deep.RegionLaw
import Derived.Maps.AppendAt
set_option linter.unusedVariables false
set_option linter.unusedSimpArgs false

/- IsGeneratorSet, of the program and of the model. Conditions: at most 1048576 lists of at most 1048576 numbers. -/
namespace Go.Proofs.YtedfcljikgmpgaaGreat
open Go.RowKit

/-- What IsGeneratorSet answers. -/
def gB (n : Int) (gs : List (List Int)) : Bool := decide (1 ≤ n ∧ n ≤ 20 ∧ gs.length ≤ 8 ∧ ∀ g ∈ gs, (g.length : Int) = n ∧ isP g = true)
theorem gB_iff {n : Int} {gs : List (List Int)} : gB n gs = true ↔ 1 ≤ n ∧ n ≤ 20 ∧ gs.length ≤ 8 ∧ ∀ g ∈ gs, (g.length : Int) = n ∧ isP g = true := by simp [gB]
theorem gB_no {n : Int} {gs : List (List Int)} (h : ¬ (1 ≤ n ∧ n ≤ 20 ∧ gs.length ≤ 8)) : gB n gs = false := by
  rw [← Bool.not_eq_true, gB_iff]; exact fun h' => h ⟨h'.1, h'.2.1, h'.2.2.1⟩
theorem getD_memL {l : List (List Int)} {k : Nat} (hk : k < l.length) : l.getD k [] ∈ l := by
  rw [List.getD_eq_getElem?_getD, List.getElem?_eq_getElem hk]; exact List.getElem_mem hk
theorem gB_row {n : Int} {gs : List (List Int)} {k : Nat} {y : List Int} (hk : k < gs.length) (ey : gs.getD k [] = y) (h : ¬ ((y.length : Int) = n ∧ isP y = true)) : gB n gs = false := by
  rw [← Bool.not_eq_true, gB_iff]; exact fun h' => h (by rw [← ey]; exact h'.2.2.2 _ (getD_memL hk))
theorem gB_all {n : Int} {gs : List (List Int)} (h0 : 1 ≤ n ∧ n ≤ 20 ∧ gs.length ≤ 8) (h : ∀ j, j < gs.length → ((gs.getD j []).length : Int) = n ∧ isP (gs.getD j []) = true) : gB n gs = true := by
  refine gB_iff.2 ⟨h0.1, h0.2.1, h0.2.2, fun g hg => ?_⟩
  obtain ⟨j, hj, e⟩ := List.mem_iff_getElem.1 hg
  have := h j hj
  rw [List.getD_eq_getElem?_getD, List.getElem?_eq_getElem hj] at this
  simpa [e] using this
theorem gB_pm {n : Int} {gs : List (List Int)} (h : gB n gs = true) : ∃ N : Nat, n = (N : Int) ∧ 1 ≤ N ∧ N ≤ 20 ∧ gs.length ≤ 8 ∧ PMs N gs ∧ ∀ g ∈ gs, IsP g ∧ g.length = N := by
  obtain ⟨h1, h2, h3, h4⟩ := gB_iff.1 h
  refine ⟨n.toNat, by omega, by omega, by omega, h3, fun g hg => ?_, fun g hg => ⟨isP_iff.1 (h4 g hg).2, by have := (h4 g hg).1; omega⟩⟩
  have hl : g.length = n.toNat := by have := (h4 g hg).1; omega
  rw [← hl]
  exact (isP_iff.1 (h4 g hg).2).pm

set_option maxHeartbeats 1600000 in
/-- The program's IsGeneratorSet. -/
theorem implGS (a : Int) (A : Option Addr) (n c : Nat) (vs : List SV) (xss : List (List Int)) (w : World) (hx : RR w w.heap.size A n vs xss) (hn : n ≤ 1048576) (hl : Hid (∀ i, i < n → (vs.getD i sd0).2.1 ≤ 1048576)) :
    Calls Tryz.prog 14 #[.int .i64 a, .slice A n c] w fun e w' => e = .returned (.bool (gB a xss)) ∧ Below w.heap.size w w' := by
  have HX := Lib.hid hx
  have hlx := hx.lx
  clear hx
  by_cases h0 : a < 1
  · have d1 : decide (a < 1) = true := by simp; omega
    have Fin := Lib.hid (gB_no (n := a) (gs := xss) (by omega))
    go_enter Tryz.func14, Tryz.ntmps14
    go_wp2
    go_ret
    exact ⟨ret_bool Fin.out.symm, Below.refl _ _⟩
  · have d1 : decide (a < 1) = false := by simp; omega
    by_cases h1 : 20 < a
    · have d2 : decide (20 < a) = true := by simp; omega
      have Fin := Lib.hid (gB_no (n := a) (gs := xss) (by omega))
      go_enter Tryz.func14, Tryz.ntmps14
      go_wp2
      go_ret
      exact ⟨ret_bool Fin.out.symm, Below.refl _ _⟩
    · have d2 : decide (20 < a) = false := by simp; omega
      by_cases h2 : 8 < n
      · have d3 : decide ((8 : Int) < n) = true := by simp; omega
        have Fin := Lib.hid (gB_no (n := a) (gs := xss) (by omega))
        go_enter Tryz.func14, Tryz.ntmps14
        go_wp2
        go_ret
        exact ⟨ret_bool Fin.out.symm, Below.refl _ _⟩
      · have d3 : decide ((8 : Int) < n) = false := by simp; omega
        go_enter Tryz.func14, Tryz.ntmps14
        go_wp2
        go_loopw [20] (fun i wr => ∃ k : Nat, k ≤ n ∧ i = .int .i64 (k : Nat) ∧ (∀ j, j < k → ((xss.getD j []).length : Int) = a ∧ isP (xss.getD j []) = true) ∧ Below w.heap.size w wr) (fun i _ => n - (intOf i).toNat)
        case atStart => exact ⟨0, Nat.zero_le _, rfl, fun j h => absurd h (by omega), Below.refl _ _⟩
        case round =>
          obtain ⟨k, hk, rfl, hz, bel⟩ := hrel
          have Hz := Lib.hid hz
          have Be := Lib.hid bel
          clear hz bel
          by_cases hlt : k < n
          · obtain ⟨b, off, A5, l, c5, y, rfl, hb, ev, ey, hc0, hr0, hy, hlc⟩ := HX.out.at_ hlt
            have hl1 := hl.out k hlt
            rw [ev] at hl1
            have c1 := (Be.out.cell (p := ⟨b, off + k, none⟩) hb).trans hc0
            have R1 := Lib.hid ((hr0.below Be.out (Nat.le_refl _)).more Be.out.size)
            have Ey := Lib.hid ey
            have Hy : Hid (y.length = l) := Lib.hid hy
            clear ev ey hc0 hr0 hy
            by_cases hla : (l : Int) = a
            · rcases hp : isP y with _ | _
              · have Fin : Hid (gB a xss = false) := Lib.hid (gB_row (by rw [hlx]; exact hlt) Ey.out (by rw [hp]; simp))
                go_wp2_with fail
                refine (implIsP A5 c5 l y wr R1.out Hy (by omega)).mono ?_
                rintro e w2 ⟨rfl, b2⟩
                have B2 : Hid (Below w.heap.size w w2) := Lib.hid (btr Be.out b2)
                clear b2
                rw [hp]
                go_wp2_with fail
                go_ret
                exact ⟨ret_bool Fin.out.symm, B2.out⟩
              · go_wp2_with fail
                refine (implIsP A5 c5 l y wr R1.out Hy (by omega)).mono ?_
                rintro e w2 ⟨rfl, b2⟩
                have B2 : Hid (Below w.heap.size w w2) := Lib.hid (btr Be.out b2)
                clear b2
                have Hp : Hid (isP y = true) := Lib.hid hp
                rw [hp]
                clear hp
                go_wp2_with fail
                go_roundw
                case rel => exact ⟨k + 1, by omega, by go_num, fun j hj => by
                  by_cases e : j = k
                  · subst e; rw [Ey.out, Hy.out]; exact ⟨hla, Hp.out⟩
                  · exact Hz.out j (by omega), B2.out⟩
                case measure => simp [intOf]; omega
            · have Fin : Hid (gB a xss = false) := Lib.hid (gB_row (by rw [hlx]; exact hlt) Ey.out (by rw [Hy.out]; exact fun h => hla h.1))
              go_wp2_with fail
              go_ret
              exact ⟨ret_bool Fin.out.symm, Be.out⟩
          · have hkn : k = n := by omega
            subst hkn
            have Fin : Hid (gB a xss = true) := Lib.hid (gB_all ⟨by omega, by omega, by omega⟩ (fun j hj => Hz.out j (by rw [← hlx]; exact hj)))
            go_wp2
            go_ret
            exact ⟨ret_bool Fin.out.symm, Be.out⟩

set_option maxHeartbeats 1600000 in
/-- The model's IsGeneratorSet. -/
theorem specGS (a : Int) (A : Option Addr) (n c : Nat) (vs : List SV) (xss : List (List Int)) (w : World) (hx : RR w w.heap.size A n vs xss) (hn : n ≤ 1048576) (hl : Hid (∀ i, i < n → (vs.getD i sd0).2.1 ≤ 1048576)) (ha : -9223372036854775808 ≤ a ∧ a ≤ 9223372036854775807) :
    Calls Tryz.prog 20 #[.int .i64 a, .slice A n c] w fun e w' => e = .returned (.bool (gB a xss)) ∧ Below w.heap.size w w' := by
  have HX := Lib.hid hx
  have hlx := hx.lx
  clear hx
  by_cases h0 : 1 ≤ a ∧ a ≤ 20
  · by_cases h2 : 8 < n
    · have d3 : decide ((8 : Int) < n) = true := by simp; omega
      have Fin := Lib.hid (gB_no (n := a) (gs := xss) (by omega))
      go_enter Tryz.func20, Tryz.ntmps20
      go_wp2_with (go_at_call 40; refine (inR_true _ _ _ _ (by omega) (by omega)).mono ?_; rintro e w' ⟨rfl, rfl⟩)
      go_ret
      exact ⟨ret_bool Fin.out.symm, Below.refl _ _⟩
    · have d3 : decide ((8 : Int) < n) = false := by simp; omega
      go_enter Tryz.func20, Tryz.ntmps20
      go_wp2_with (go_at_call 40; refine (inR_true _ _ _ _ (by omega) (by omega)).mono ?_; rintro e w' ⟨rfl, rfl⟩)
      go_loopw [5] (fun i wr => ∃ k : Nat, k ≤ n ∧ i = .int .i64 (k : Nat) ∧ (∀ j, j < k → ((xss.getD j []).length : Int) = a ∧ isP (xss.getD j []) = true) ∧ Below w.heap.size w wr) (fun i _ => n - (intOf i).toNat)
      case atStart => exact ⟨0, Nat.zero_le _, rfl, fun j h => absurd h (by omega), Below.refl _ _⟩
      case round =>
        obtain ⟨k, hk, rfl, hz, bel⟩ := hrel
        have Hz := Lib.hid hz
        have Be := Lib.hid bel
        clear hz bel
        by_cases hlt : k < n
        · obtain ⟨b, off, A5, l, c5, y, rfl, hb, ev, ey, hc0, hr0, hy, hlc⟩ := HX.out.at_ hlt
          have hl1 := hl.out k hlt
          rw [ev] at hl1
          have c1 := (Be.out.cell (p := ⟨b, off + k, none⟩) hb).trans hc0
          have R1 := Lib.hid ((hr0.below Be.out (Nat.le_refl _)).more Be.out.size)
          have Ey := Lib.hid ey
          have Hy : Hid (y.length = l) := Lib.hid hy
          clear ev ey hc0 hr0 hy
          by_cases hla : (l : Int) = a
          · rcases hp : isP y with _ | _
            · have Fin : Hid (gB a xss = false) := Lib.hid (gB_row (by rw [hlx]; exact hlt) Ey.out (by rw [hp]; simp))
              go_wp2_with fail
              refine (quiet_below (specIsP A5 c5 l y wr R1.out Hy (by omega) hlc)).mono ?_
              rintro e w2 ⟨rfl, b2⟩
              have B2 : Hid (Below w.heap.size w w2) := Lib.hid (btr Be.out b2)
              clear b2
              rw [hp]
              go_wp2_with fail
              go_ret
              exact ⟨ret_bool Fin.out.symm, B2.out⟩
            · go_wp2_with fail
              refine (quiet_below (specIsP A5 c5 l y wr R1.out Hy (by omega) hlc)).mono ?_
              rintro e w2 ⟨rfl, b2⟩
              have B2 : Hid (Below w.heap.size w w2) := Lib.hid (btr Be.out b2)
              clear b2
              have Hp : Hid (isP y = true) := Lib.hid hp
              rw [hp]
              clear hp
              go_wp2_with fail
              go_roundw
              case rel => exact ⟨k + 1, by omega, by go_num, fun j hj => by
                by_cases e : j = k
                · subst e; rw [Ey.out, Hy.out]; exact ⟨hla, Hp.out⟩
                · exact Hz.out j (by omega), B2.out⟩
              case measure => simp [intOf]; omega
          · have Fin : Hid (gB a xss = false) := Lib.hid (gB_row (by rw [hlx]; exact hlt) Ey.out (by rw [Hy.out]; exact fun h => hla h.1))
            go_wp2_with fail
            go_ret
            exact ⟨ret_bool Fin.out.symm, Be.out⟩
        · have hkn : k = n := by omega
          subst hkn
          have Fin : Hid (gB a xss = true) := Lib.hid (gB_all ⟨by omega, by omega, by omega⟩ (fun j hj => Hz.out j (by rw [← hlx]; exact hj)))
          go_wp2
          go_ret
          exact ⟨ret_bool Fin.out.symm, Be.out⟩
  · have Fin := Lib.hid (gB_no (n := a) (gs := xss) (by omega))
    go_enter Tryz.func20, Tryz.ntmps20
    go_wp2_with (go_at_call 40; refine (inR_false _ _ _ _ (by omega)).mono ?_; rintro e w' ⟨rfl, rfl⟩)
    go_ret
    exact ⟨ret_bool Fin.out.symm, Below.refl _ _⟩
theorem implIsGeneratorSet (a : Int) (A : Option Addr) (n c : Nat) (vs : List SV) (xss : List (List Int)) (w : World) (hx : RR w w.heap.size A n vs xss) (hn : n ≤ 1048576) (hl : Hid (∀ i, i < n → (vs.getD i sd0).2.1 ≤ 1048576)) :
    Calls Tryz.prog 14 #[.int .i64 a, .slice A n c] w fun e w' => e = .returned (.bool (gB a xss)) ∧ Below w.heap.size w w' := implGS a A n c vs xss w hx hn hl
theorem specIsGeneratorSet (a : Int) (A : Option Addr) (n c : Nat) (vs : List SV) (xss : List (List Int)) (w : World) (hx : RR w w.heap.size A n vs xss) (hn : n ≤ 1048576) (hl : Hid (∀ i, i < n → (vs.getD i sd0).2.1 ≤ 1048576)) (ha : -9223372036854775808 ≤ a ∧ a ≤ 9223372036854775807) :
    Calls Tryz.prog 20 #[.int .i64 a, .slice A n c] w fun e w' => e = .returned (.bool (gB a xss)) ∧ Below w.heap.size w w' := specGS a A n c vs xss w hx hn hl ha
end Go.Proofs.YtedfcljikgmpgaaGreat

/- The laws' helpers that compare, mark and read slices of slices. Conditions: at most 1048576 slices, numbers in all. -/
namespace Go.Proofs.YtedfcljikgmpgaaGreat
open Go.RowKit

set_option maxHeartbeats 800000 in
/-- likeLists at two slices of slices that read the same. -/
theorem likeRR_same (A B : Option Addr) (n c m d : Nat) (vs us : List SV) (xss : List (List Int)) (w : World) (hx : RR w w.heap.size A n vs xss) (hy : RR w w.heap.size B m us xss) (hn : n ≤ 1048576) (hlen : Hid (∀ i, i < n → (xss.getD i []).length ≤ 1048576)) :
    Calls Tryz.prog 10 #[.slice A n c, .slice B m d] w fun e w' => e = .returned (.bool true) ∧ Below w.heap.size w w' := by
  refine quiet_below ?_
  obtain rfl : n = m := by rw [← hx.lx, ← hy.lx]
  have HX := Lib.hid hx
  have HY := Lib.hid hy
  clear hx hy
  go_enter Tryz.func10, Tryz.ntmps10
  go_wp2
  go_loopw [5] (fun i wr => ∃ k : Nat, k ≤ n ∧ i = .int .i64 k ∧ ∃ m, wr = w.drewN m) (fun i _ => n - (intOf i).toNat)
  case atStart => exact ⟨0, Nat.zero_le _, rfl, 0, rfl⟩
  case round =>
    obtain ⟨k, hk, rfl, q, rfl⟩ := hrel
    by_cases hlt : k < n
    · obtain ⟨b, off, A5, l, c5, y, rfl, hb, ev, ey, c1, r1, hy1, hlc⟩ := HX.out.at_ hlt
      obtain ⟨b', off', A6, l', c6, y', rfl, hb', ev', ey', c2, r2, hy2, hlc'⟩ := HY.out.at_ hlt
      obtain rfl : y = y' := ey.symm.trans ey'
      have hl1 : l ≤ 1048576 := by rw [← hy1, ← ey]; exact hlen.out k hlt
      have hl2 : l' ≤ 1048576 := by rw [← hy2, ← ey]; exact hlen.out k hlt
      have R1 := Lib.hid r1
      have R2 := Lib.hid r2
      have Y1 : Hid (y.length = l) := Lib.hid hy1
      have Y2 : Hid (y.length = l') := Lib.hid hy2
      clear r1 r2 ev ey ev' ey' hy1 hy2
      have p1 : (0 : Int) ≤ k := by omega
      have p2 : (k : Int) < n := by omega
      have K : ∀ W : World, (∃ q, W = w.drewN q) → Calls Tryz.prog 25 #[.slice A5 l c5, .slice A6 l' c6] W fun e w' => e = .returned (.bool true) ∧ ∃ m, w' = W.drewN m := by
        rintro W ⟨q, rfl⟩
        exact (likeI_any A5 A6 c5 c6 l l' y y (w.drewN q) (R1.out.drewN q) (R2.out.drewN q) Y1 Y2 (by omega) (by omega)).mono fun e w' ⟨he, hb⟩ => ⟨he.trans (ret_bool (by simp)), hb⟩
      have HK := Lib.hid K
      clear K
      go_wp2
      go_quiet ((go_at_call 25; exact quiet_add (HK.out _ ⟨_, rfl⟩)))
      go_wp2
      go_roundw
      case rel => exact ⟨k + 1, by omega, by go_num, _, rfl⟩
      case measure => simp [intOf]; omega
    · go_wp2
      go_ret
      exact ⟨rfl, _, rfl⟩
--§ end
end Go.Proofs.YtedfcljikgmpgaaGreat

/- Inverse and Support, of the program and of the model. Condition: at most 2097152 entries. -/
namespace Go.Proofs.YtedfcljikgmpgaaGreat
open Go.RowKit

theorem invL_length (p : List Int) (k : Nat) : (invL p k).length = p.length := by
  induction k with
  | zero => simp [invL]
  | succ k ih => simp [invL, ih]
def inverseL (p : List Int) : List Int := if isP p = true then invL p p.length else []

end Go.Proofs.YtedfcljikgmpgaaGreat

/- What is kept where a slice of slices was marked; bounds on lists of lists. No condition. -/
namespace Go.Proofs.YtedfcljikgmpgaaGreat
open Go.RowKit

def sumL (l : List (List Int)) : Nat := (l.map List.length).sum
theorem sumL_le {l : List (List Int)} {k : Nat} (h : ∀ y ∈ l, y.length ≤ k) : sumL l ≤ l.length * k := by
  induction l with
  | nil => simp [sumL]
  | cons a t ih =>
    have h1 := ih fun y hy => h y (by simp [hy])
    have h2 := h a (by simp)
    unfold sumL at h1 ⊢
    rw [List.map_cons, List.sum_cons, List.length_cons, Nat.succ_mul]; omega
theorem bound_all {l : List (List Int)} {m k : Nat} (h1 : l.length ≤ m) (h2 : ∀ y ∈ l, y.length ≤ k) (h : m * k ≤ 1048576 ∧ m ≤ 1048576 ∧ k ≤ 1048576) :
    l.length ≤ 1048576 ∧ (∀ i, i < l.length → (l.getD i []).length ≤ 1048576) ∧ sumL l ≤ 1048576 := by
  refine ⟨by omega, fun i hi => ?_, ?_⟩
  · have : l.getD i [] ∈ l := by rw [List.getD_eq_getElem?_getD, List.getElem?_eq_getElem hi]; exact List.getElem_mem _
    have := h2 _ this; omega
  · have h3 := sumL_le h2
    have h4 : l.length * k ≤ m * k := Nat.mul_le_mul_right k h1
    omega
theorem SS.tot_sum {w : World} {bo bi n c : Nat} {A : Option Addr} {vs : List SV} {xss : List (List Int)} (h : SS w bo bi A n c vs xss) : tot vs n = sumL xss := by
  have key : ∀ k, k ≤ n → tot vs k = sumL (xss.take k) := by
    intro k
    induction k with
    | zero => intro _; rfl
    | succ k ih =>
      intro hk
      have hk' : k < xss.length := by rw [h.lx]; omega
      rw [tot_succ, ih (by omega), List.take_succ_eq_append_getElem hk', ← (h.row k (by omega)).1, List.getD_eq_getElem?_getD, List.getElem?_eq_getElem hk']
      show sumL (xss.take k) + _ = sumL (xss.take k ++ [xss[k]])
      unfold sumL
      rw [List.map_append, List.sum_append]; simp
  rw [key n (Nat.le_refl _), List.take_of_length_le (by rw [h.lx]; exact Nat.le_refl _)]
/-- A slice of slices none of whose blocks is the one that turned. -/
theorem SS.far2 {w w' : World} {bo bi n c lo hi lo' hi' n' c' : Nat} {A A' : Option Addr} {vs : List SV} {xss : List (List Int)} (h : SS w bo bi A n c vs xss) (hg : w.grownBy w' (Value.slice A' n' c').ownBlock)
    (lo1 : Lies A n c lo hi) (li : ∀ t, t < n → ∀ k, (sval (vs.getD t sd0)).ownBlock = some k → lo ≤ k ∧ k < hi) (l : Lies A' n' c' lo' hi') (hb : hi ≤ lo' ∨ hi' ≤ lo) : SS w' bo bi A n c vs xss :=
  ⟨World.ownsRow.kept h.own hg (lo1.apart l hb), h.lv, h.lx, fun i hi' => (h.row i hi').kept hg (Lies.apart (show Lies _ _ _ lo hi from li i hi') l hb), h.dis⟩
theorem invL_len (p : List Int) : (invL p p.length).length = p.length := by
  have : ∀ k, (invL p k).length = p.length := by
    intro k
    induction k with
    | zero => simp [invL]
    | succ k ih => simp [invL, ih]
  exact this _
end Go.Proofs.YtedfcljikgmpgaaGreat

/- The model's draws of numbers, with their bounds; draws of generators and of groups. Condition: at most 4096 bytes. -/
namespace Go.Proofs.YtedfcljikgmpgaaGreat
open Go.RowKit

/-- The bounds of an int64. -/
def B64 (z : Int) : Prop := -9223372036854775808 ≤ z ∧ z ≤ 9223372036854775807
/-- A literal row of numbers, read later. -/
theorem lit_atB {w w1 : World} {g : Nat} {cs : Array Value} {r : Nat} (hg : g < w.heap.size) (hb : (w.alloc (.cells cs 2)).grownBy w1 (some g)) (hr : r < cs.size) (hall : ∀ (i : Nat) (h : i < cs.size), ∃ z : Int, cs[i] = .int .i64 z ∧ B64 z) : ∃ z : Int, w1.cell? ⟨w.heap.size, r, none⟩ = some (.int .i64 z) ∧ B64 z := by
  obtain ⟨z, hz, hB⟩ := hall r hr
  refine ⟨z, ?_, hB⟩
  rw [World.cell?_of_block (hb.block w.heap.size (by simp) (by intro e; injection e with e; omega)), World.cell?_alloc_at _ _ _ _ rfl]
  show cs[r]? = _
  rw [Array.getElem?_eq_getElem hr, hz]

set_option maxHeartbeats 1600000 in
theorem srcExtremeB (g : Nat) (w : World) (hs : Src w g) :
    Calls Tryz.prog 54 #[.pointer (some ⟨g, 0, none⟩)] w fun e w' => ∃ z : Int, e = .returned (.int .i64 z) ∧ B64 z ∧ Src w' g ∧ w.grownBy w' (some g) := by
  have hg := hs.lt
  have Hs := Lib.hid hs
  clear hs
  go_enter Tryz.func54, Tryz.ntmps54
  go_wp2_with fail
  refine (srcBelow g _ 10 _ (Hs.out.below ((Below.refl w.heap.size w).alloc (Nat.le_refl _) _) hg) rfl (by omega) (by omega)).mono ?_
  rintro e w1 ⟨r, hr, rfl, s1, g1⟩
  have S1 := Lib.hid s1
  have G1 : Hid (w.grownBy w1 (some g)) := Lib.hid (grown_trans' (grown_alloc2 (grown_refl _ _) _) g1)
  obtain ⟨z, hz, hzB⟩ := lit_atB (r := r) hg g1 hr (by
    intro i h
    have h : i < 10 := h
    rcases i with _ | _ | _ | _ | _ | _ | _ | _ | _ | _ | i
    all_goals first | exact ⟨_, rfl, by unfold B64; omega⟩ | omega)
  have p0 : (0 : Int) ≤ r := by omega
  have p1 : (r : Int) < 10 := by omega
  clear s1 g1
  go_wp2_with fail
  go_ret
  exact ⟨z, rfl, hzB, S1.out, G1.out⟩

set_option maxHeartbeats 1600000 in
theorem srcNumberB (g n : Nat) (w : World) (hs : Src w g) (h1 : 1 ≤ n) (hn : n ≤ 100) :
    Calls Tryz.prog 31 #[.pointer (some ⟨g, 0, none⟩), .int .i64 (n : Int)] w fun e w' => ∃ z : Int, e = .returned (.int .i64 z) ∧ B64 z ∧ Src w' g ∧ w.grownBy w' (some g) := by
  go_enter Tryz.func31, Tryz.ntmps31
  go_wp2_with fail
  refine (srcOne g _ 10 w hs rfl (by omega) (by omega)).mono ?_
  rintro e w1 ⟨b, rfl, s1, g1⟩
  have S1 := Lib.hid s1
  have G1 := Lib.hid g1
  clear s1 g1
  cases b
  · go_wp2_with fail
    refine (srcOne g _ 2 w1 S1.out rfl (by omega) (by omega)).mono ?_
    rintro e w2 ⟨b, rfl, s2, g2⟩
    have S2 := Lib.hid s2
    have G2 : Hid (w.grownBy w2 (some g)) := Lib.hid (grown_trans' G1.out g2)
    clear s2 g2
    cases b
    · go_wp2_with fail
      refine (srcBelow g _ (n + 1) w2 S2.out (by omega) (by omega) (by omega)).mono ?_
      rintro e w3 ⟨r, hr, rfl, s3, g3⟩
      have S3 := Lib.hid s3
      have G3 : Hid (w.grownBy w3 (some g)) := Lib.hid (grown_trans' G2.out g3)
      clear s3 g3
      go_wp2_with fail
      go_ret
      exact ⟨r, rfl, by unfold B64; omega, S3.out, G3.out⟩
    · by_cases h4 : n ≤ 4
      · have hm : (min (n : Int) 4) = (n : Int) := by omega
        have d4 : decide ((n : Int) ≤ 4) = true := by simp; omega
        go_wp2_with fail
        refine (srcBelow g _ (n + 1) w2 S2.out (by omega) (by omega) (by omega)).mono ?_
        rintro e w3 ⟨r, hr, rfl, s3, g3⟩
        have S3 := Lib.hid s3
        have G3 : Hid (w.grownBy w3 (some g)) := Lib.hid (grown_trans' G2.out g3)
        clear s3 g3
        go_wp2_with fail
        go_ret
        exact ⟨r, rfl, by unfold B64; omega, S3.out, G3.out⟩
      · have hm : (min (n : Int) 4) = 4 := by omega
        have d4 : decide ((n : Int) ≤ 4) = false := by simp; omega
        go_wp2_with fail
        refine (srcBelow g _ (5) w2 S2.out (by omega) (by omega) (by omega)).mono ?_
        rintro e w3 ⟨r, hr, rfl, s3, g3⟩
        have S3 := Lib.hid s3
        have G3 : Hid (w.grownBy w3 (some g)) := Lib.hid (grown_trans' G2.out g3)
        clear s3 g3
        go_wp2_with fail
        go_ret
        exact ⟨r, rfl, by unfold B64; omega, S3.out, G3.out⟩
  · go_wp2_with fail
    refine (srcExtremeB g w1 S1.out).mono ?_
    rintro e w2 ⟨z, rfl, hzB, s2, g2⟩
    have S2 := Lib.hid s2
    have hg2 := s2.lt
    have G2 : Hid (w.grownBy w2 (some g)) := Lib.hid (grown_trans' G1.out g2)
    clear s2 g2
    go_wp2_with fail
    refine (srcBelow g _ 4 _ (S2.out.below ((Below.refl w2.heap.size w2).alloc (Nat.le_refl _) _) hg2) rfl (by omega) (by omega)).mono ?_
    rintro e w3 ⟨r, hr, rfl, s3, g3⟩
    have S3 := Lib.hid s3
    have G3 : Hid (w.grownBy w3 (some g)) := Lib.hid (grown_trans' (grown_alloc2 G2.out _) g3)
    obtain ⟨y, hy, hyB⟩ := lit_atB (r := r) hg2 g3 hr (by
      intro i h
      have h : i < 4 := h
      rcases i with _ | _ | _ | _ | i
      all_goals first | exact ⟨_, rfl, by unfold B64; omega⟩ | exact ⟨_, rfl, hzB⟩ | omega)
    have p0 : (0 : Int) ≤ r := by omega
    have p1 : (r : Int) < 4 := by omega
    clear s3 g3
    go_wp2_with fail
    go_ret
    exact ⟨y, rfl, hyB, S3.out, G3.out⟩


section
variable {w w' : World} {base n c : Nat} {A : Option Addr} {vs : List SV} {xss : List (List Int)}
/-- Kept where a block turned that is none of its own. -/
theorem SS.farR {r lo hi : Nat} (h : SS w base base A n c vs xss) (hg : w.grownBy w' (some r)) (hA : ∀ k, (Value.slice A n c).ownBlock = some k → lo ≤ k ∧ k < hi) (hI : ∀ i, i < n → ∀ k, (sval (vs.getD i sd0)).ownBlock = some k → lo ≤ k ∧ k < hi) (hr : r < lo ∨ hi ≤ r) : SS w' base base A n c vs xss := by
  have ne : ∀ (v : Value), (∀ k, v.ownBlock = some k → lo ≤ k ∧ k < hi) → v.ownBlock = none ∨ v.ownBlock ≠ some r := fun v hv => by
    rcases e : v.ownBlock with _ | k
    · exact .inl rfl
    · exact .inr fun e2 => by injection e2 with e2; have := hv k e; omega
  exact ⟨World.ownsRow.kept h.own hg (ne _ hA), h.lv, h.lx, fun i hi' => (h.row i hi').kept hg (ne _ (hI i hi')), h.dis⟩
/-- A slice that can be read, appended onto a slice of slices of the call's own. -/
theorem wpList_app2R {ops : Array Oper} {rest : List Oper} {o : Oper} {a : Act} {Q : Exit → Act → World → Prop} (hgd : o.guard = none) (s x : Operand)
    (ho : o.op = .call { callee := .builtin .append, args := #[s, x], argTypes := #[24, 24] })
    (hs : a.eval s = .slice A n c) (hss : SS w base base A n c vs xss) (g : Nat) (dA : Option Addr) (dn dc lo : Nat) (ys : List Int) (hx : a.eval x = .slice (some ⟨g, 0, none⟩) 1 1)
    (hcell : w.cell? ⟨g, 0, none⟩ = some (.slice dA dn dc)) (hys : Pm w lo dA dn dc ys) (hlo : ∀ k, (Value.slice A n c).ownBlock = some k → k < lo) (hn : n ≤ 1000000000) (hbase : base ≤ w.heap.size)
    (h : ∀ A' c' w', RR w' w'.heap.size A' (n + 1) (vs ++ [(dA, dn, dc)]) (xss ++ [ys]) → w.grownBy w' (Value.slice A n c).ownBlock → wpList Tryz.prog ops Q rest (a.put o.dst (.slice A' (n + 1) c')) w') : wpList Tryz.prog ops Q (o :: rest) a w := by
  obtain ⟨i0, hi, hz0, hz1, hz2⟩ := info_parts infoS
  refine wpList_append_own (w := w) hgd s x 24 ho base 37 i0 (.slice none 0 0) 1 24 Tryz.underlying24 hi hz0 hz1 hz2 rfl (by decide) _ n _ hs hss.own ⟨g, 0, none⟩ 1 1 [.slice dA dn dc] hx rfl ?_ ?_ ?_ (by omega) hbase ?_
  · intro j v hj
    match j, hj with
    | 0, hj => simp at hj; subst hj; simpa [Addr.add] using hcell
    | j + 1, hj => simp at hj
  · intro v hv; simp at hv; subst hv; rfl
  · unfold maxLen; omega
  · intro v' w' hown' hg _
    rcases hown'.2 with ⟨rfl, h0⟩ | ⟨g', cap, cur, rfl, hb', hg', hnc, _⟩
    · omega
    · refine h (some ⟨g', 0, none⟩) cap w' ⟨by simp [hss.lv], by simp [hss.lx], fun _ => ⟨g', 0, rfl, (Array.getElem?_eq_some_iff.1 hg').1, fun j hj => ?_⟩, fun j hj => ?_, fun j hj => ?_, fun j hj => ?_⟩ hg
      · rw [Nat.zero_add, hown'.cellAt j (by omega)]
        by_cases e : j < n
        · rw [List.getElem?_append_left (by rw [List.length_map, hss.lv]; exact e), List.getElem?_map, getD_app _ _ _ _ (by rw [hss.lv]; exact e), List.getD_eq_getElem?_getD, List.getElem?_eq_getElem (by rw [hss.lv]; exact e)]; rfl
        · obtain rfl : j = n := by omega
          rw [List.getElem?_append_right (by rw [List.length_map, hss.lv]; exact Nat.le_refl _), List.length_map, hss.lv, Nat.sub_self, getD_snoc _ _ _ _ hss.lv.symm]; rfl
      · by_cases e : j < n
        · rw [getD_app _ _ _ _ (by rw [hss.lv]; exact e), getD_app _ _ _ _ (by rw [hss.lx]; exact e)]
          exact ((hss.row j e).kept hg (apart_types (hss.row j e) hss.own)).ri_
        · obtain rfl : j = n := by omega
          rw [getD_snoc _ _ _ _ hss.lv.symm, getD_snoc _ _ _ _ hss.lx.symm]
          intro hp
          obtain ⟨b, off, e1, h1, h2, hc⟩ := hys.2.2 (by rw [← hys.1]; exact hp)
          refine ⟨b, off, e1, Nat.lt_of_lt_of_le h2 hg.size, fun t ht => (World.cell?_of_block (a := ⟨b, off + t, none⟩) (hg.block b h2 fun e2 => ?_)).trans (hc t (by rw [← hys.1]; exact ht))⟩
          have := hlo b e2.symm
          omega
      · by_cases e : j < n
        · rw [getD_app _ _ _ _ (by rw [hss.lx]; exact e), getD_app _ _ _ _ (by rw [hss.lv]; exact e)]; exact (hss.row j e).1
        · obtain rfl : j = n := by omega
          rw [getD_snoc _ _ _ _ hss.lx.symm, getD_snoc _ _ _ _ hss.lv.symm]; exact hys.1
      · by_cases e : j < n
        · rw [getD_app _ _ _ _ (by rw [hss.lv]; exact e)]; exact (hss.row j e).le.1
        · obtain rfl : j = n := by omega
          rw [getD_snoc _ _ _ _ hss.lv.symm]; exact hys.2.1
end
theorem wrap_pos2 (k : Nat) (h : k ≤ 1000) : IntKind.i64.wrap ((k : Int) + 1) = (k : Int) + 1 := by rw [IntKind.wrap_i64]; omega
theorem grown_new2 {a b c : World} {g : Nat} {row : Option Nat} (h : a.grownBy b (some g)) (h2 : b.grownBy c row) (hr : ∀ j, row = some j → a.heap.size ≤ j) : a.grownBy c (some g) :=
  ⟨h2.os.trans h.os, h2.tape.trans h.tape, h2.output.trans h.output, Nat.le_trans h.size h2.size, fun i hi hne => (h2.block i (Nat.lt_of_lt_of_le hi h.size) (fun e => by have := hr _ e.symm; omega)).trans (h.block i hi hne)⟩
theorem Src.gro2 {g : Nat} {row : Option Nat} {w w' : World} (h : Src w g) (hb : w.grownBy w' row) (hg : ∀ r, row = some r → g < r) : Src w' g := by
  obtain ⟨A, len, cap, k, x, h1, h2, h3, h4⟩ := h
  refine ⟨A, len, cap, k, x, h1, h2, h3.keep fun p hp => World.cell?_of_block (hb.block p.block (by have := h4.lt; omega) (fun e => by have := hg _ e.symm; omega)), h4.grown hb (fun e => by have := hg _ e.symm; omega)⟩

set_option maxHeartbeats 4000000 in
set_option maxRecDepth 100000 in
/-- drawGenerators. -/
theorem drawGens (g n : Nat) (w : World) (hs : Src w g) (h1 : 1 ≤ n) (hn : n ≤ 20) :
    Calls Tryz.prog 29 #[.pointer (some ⟨g, 0, none⟩), .int .i64 (n : Int)] w fun e w' => ∃ A m c us xss, e = .returned (.slice A m c) ∧ SS w' w.heap.size w.heap.size A m c us xss ∧ (∀ i, i < m → (us.getD i sd0).2.1 = n) ∧ m ≤ 3 ∧ Src w' g ∧ w.grownBy w' (some g) := by
  have hg := hs.lt
  have Sr0 : Hid (Src (w.alloc (.cells #[] 37)) g) := Lib.hid (hs.below ((Below.refl w.heap.size w).alloc (Nat.le_refl _) _) hg)
  have Ss0 := Lib.hid (SS.lit0 w w.heap.size w.heap.size (Nat.le_refl _))
  have G0 : Hid (w.grownBy (w.alloc (.cells #[] 37)) (some g)) := Lib.hid (grown_alloc2 (grown_refl _ _) _)
  clear hs
  go_enter Tryz.func29, Tryz.ntmps29
  go_wp2_with fail
  refine (srcBelow g _ 3 _ Sr0.out rfl (by omega) (by omega)).mono ?_
  rintro e w1 ⟨r, hr, rfl, s1, g1⟩
  have Sr1 := Lib.hid s1
  have Ss1 : Hid (SS w1 w.heap.size w.heap.size (some ⟨w.heap.size, 0, none⟩) 0 0 [] []) := Lib.hid (Ss0.out.farR (lo := w.heap.size) (hi := w.heap.size + 1) g1 (fun k e => by simp [Value.ownBlock] at e; omega) (fun i hi => absurd hi (by omega)) (.inl hg))
  have G1 : Hid (w.grownBy w1 (some g)) := Lib.hid (grown_trans' G0.out g1)
  have wr1 : IntKind.i64.wrap (1 + (r : Int)) = ((r + 1 : Nat) : Int) := by rw [IntKind.wrap_i64]; omega
  clear s1 g1 Sr0 Ss0 G0
  go_wp2_with fail
  go_loopg [5, 6] 4 (fun gg v kk wr => ∃ (k : Nat) (A : Option Addr) (m c : Nat) (us : List SV) (xss : List (List Int)), m + k ≤ 3 ∧ k ≤ gg ∧ kk = .int .i64 (k : Nat) ∧ v = .slice A m c ∧ SS wr w.heap.size w.heap.size A m c us xss ∧ (∀ i, i < m → (us.getD i sd0).2.1 = n) ∧ Src wr g ∧ w.grownBy wr (some g))
  case atStart => exact ⟨r + 1, _, 0, _, [], [], by omega, by omega, rfl, rfl, Ss1.out, fun i hi => absurd hi (by omega), Sr1.out, G1.out⟩
  case round =>
    clear Sr1 Ss1 G1 wr1
    obtain ⟨k0, A, m, c, us, xss, hmk, hgk, rfl, rfl, ss, ln, sr, gr⟩ := hrel
    have Ss := Lib.hid ss
    have Ln := Lib.hid ln
    have Sr := Lib.hid sr
    have Gr := Lib.hid gr
    have hwz : w.heap.size ≤ wr.heap.size := gr.size
    clear ss ln sr gr
    by_cases hk0 : 0 < k0
    · obtain ⟨k, rfl⟩ : ∃ k, k0 = k + 1 := ⟨k0 - 1, by omega⟩
      have wk : IntKind.i64.wrap (((k + 1 : Nat) : Int) - 1) = (k : Int) := by rw [IntKind.wrap_i64]; omega
      have LA : Hid (∀ j, (Value.slice A m c).ownBlock = some j → w.heap.size ≤ j ∧ j < wr.heap.size) := Lib.hid Ss.out.lt_
      have LI : Hid (∀ t, t < m → ∀ j, (sval (us.getD t sd0)).ownBlock = some j → w.heap.size ≤ j ∧ j < wr.heap.size) := Lib.hid fun t ht => (Ss.out.row t ht).lt_
      go_wp2_with fail
      refine (specIdent n wr (by omega)).mono ?_
      rintro e w2 ⟨A1, c1, rfl, s2, b2⟩
      have Sr2 := Lib.hid (Sr.out.below b2 Sr.out.lt)
      have Ss2 := Lib.hid (Ss.out.up b2)
      have G2 : Hid (w.grownBy w2 (some g)) := Lib.hid (grown_below2 Gr.out b2)
      rcases Slc.at_ s2 with ⟨_, _, e0, _⟩ | ⟨q, rfl, hq1, hq2⟩
      · omega
      have Sl2 := Lib.hid s2
      have hz2 := b2.size
      clear s2 b2
      go_wp2_with fail
      refine (srcBelow g _ 4 w2 Sr2.out rfl (by omega) (by omega)).mono ?_
      rintro e w3 ⟨r3, hr3, rfl, s3, g3⟩
      have Sr3 := Lib.hid s3
      have Ss3 := Lib.hid (Ss2.out.farR g3 LA.out LI.out (.inl hg))
      have Sl3 : Hid (Slc w3 wr.heap.size (some ⟨q, 0, none⟩) n c1 (idL n)) := Lib.hid (Sl2.out.kept g3 (.inr (by simp [Value.ownBlock]; omega)))
      have G3 : Hid (w.grownBy w3 (some g)) := Lib.hid (grown_trans' G2.out g3)
      have hz3 := g3.size
      clear s3 g3
      obtain rfl | rfl | hr23 : r3 = 0 ∨ r3 = 1 ∨ (r3 = 2 ∨ r3 = 3) := by omega
      · clear Sl3 Sl2 hq1 hq2
        go_wp2_with fail
        refine (drawPermK g n _ w3 Sr3.out rfl (by omega)).mono ?_
        rintro e w4 ⟨q, c1, ys, rfl, s4, r4, g4⟩
        have Sr4 := Lib.hid r4
        have Ss4 := Lib.hid (Ss3.out.farR g4 LA.out LI.out (.inl hg))
        have hq1 : wr.heap.size ≤ q := by have := (s4.lt_ q rfl).1; omega
        have Sl4 : Hid (Slc w4 w.heap.size (some ⟨q, 0, none⟩) n c1 ys) := Lib.hid (s4.mono (by omega))
        have G4 : Hid (w.grownBy w4 (some g)) := Lib.hid (grown_trans' G3.out g4)
        clear s4 r4 g4
        have D5 := Lib.hid (show ∀ t, t < m → (sval (us.getD t sd0)).ownBlock = none ∨ (sval (us.getD t sd0)).ownBlock ≠ (Value.slice (some ⟨q, 0, none⟩) n c1).ownBlock from fun t ht => by
          rcases e9 : (sval (us.getD t sd0)).ownBlock with _ | z
          · exact .inl rfl
          · exact .inr fun e8 => by have := (LI.out t ht z e9).2; simp [Value.ownBlock] at e8; omega)
        have hzT : w.heap.size ≤ w4.heap.size := G4.out.size
        go_wp2_with (first
          | (at_builtin
             refine wpList_app2 rfl _ _ rfl rfl (Ss4.out.alloc _) w4.heap.size (some ⟨q, 0, none⟩) n c1 ys rfl (by rw [World.cell?_alloc_at _ _ _ _ rfl]; rfl) ((Sl4.out).alloc _) D5.out (by omega) (by simp; omega) ?_
             intro A7 c7 w7 ss7 g7))
        have S7 : Hid (SS w7 w.heap.size w.heap.size A7 (m + 1) c7 (us ++ [(some ⟨q, 0, none⟩, n, c1)]) (xss ++ [ys])) := Lib.hid ss7
        have Sr7 : Hid (Src w7 g) := Lib.hid ((Sr4.out.below ((Below.refl w4.heap.size w4).alloc (Nat.le_refl _) (.cells #[.slice (some ⟨q, 0, none⟩) n c1] 37)) Sr4.out.lt).gro2 g7 (fun j hj => by have := (Ss4.out.lt_ j hj).1; omega))
        have G7 : Hid (w.grownBy w7 (some g)) := Lib.hid (grown_new2 (grown_alloc2 G4.out (.cells #[.slice (some ⟨q, 0, none⟩) n c1] 37)) g7 (fun j hj => (Ss4.out.lt_ j hj).1))
        have Ln7 : Hid (∀ i, i < m + 1 → ((us ++ [((some ⟨q, 0, none⟩, n, c1) : SV)]).getD i sd0).2.1 = n) := Lib.hid fun i hi => by
          by_cases e9 : i < m
          · rw [getD_app _ _ _ _ (by rw [Ss4.out.lv]; exact e9)]; exact Ln.out i e9
          · rw [getD_snoc _ _ _ _ (by rw [Ss4.out.lv]; omega)]
        clear ss7 g7
        go_wp2_with fail
        go_roundg k
        case rel => exact ⟨k, A7, m + 1, c7, _, _, by omega, by omega, by go_num, rfl, S7.out, Ln7.out, Sr7.out, G7.out⟩
        case measure => omega
      · have row3 : Hid (Row w3 wr.heap.size q n c1 (idL n)) := Lib.hid (Row.of_own (by have h2 := Sl3.out.2; rw [← Sl3.out.1] at h2 ⊢; exact h2))
        go_wp2_with fail
        obtain ⟨wl, rfl⟩ : ∃ wl, wl = wr := ⟨_, rfl⟩
        go_loopg [8] n (fun gg iv wr2 => ∃ (i : Nat) (ys : List Int), i ≤ n ∧ n - i ≤ gg ∧ iv = .int .i64 (i : Nat) ∧ Row wr2 wl.heap.size q n c1 ys ∧ SS wr2 w.heap.size w.heap.size A m c us xss ∧ Src wr2 g ∧ w.grownBy wr2 (some g))
        case atStart => exact ⟨0, _, Nat.zero_le _, by omega, rfl, row3.out, Ss3.out, Sr3.out, G3.out⟩
        case round =>
          obtain ⟨i, ys, hi, hgi, rfl, row, ss5, sr5, g5⟩ := hrel
          have Ro := Lib.hid row
          have Ss5 := Lib.hid ss5
          have Sr5 := Lib.hid sr5
          have G5 := Lib.hid g5
          clear row ss5 sr5 g5
          by_cases hil : i < n
          · have c5 := Ro.out.cell hil
            have f5 := Ro.out.free i
            obtain ⟨u, hu⟩ : ∃ u, ((i : Int) + 1).tmod (n : Int) = u := ⟨_, rfl⟩
            have wi := wrap_pos2 i (by omega)
            have hn0 : ¬ ((n : Int) = 0) := by omega
            have p0 : (0 : Int) ≤ i := by omega
            have p1 : (i : Int) < n := by omega
            have Ro6 := Lib.hid (Ro.out.store i u)
            have Ss6 : Hid (SS (wr.setCell ⟨q, i, none⟩ (.int .i64 u)) w.heap.size w.heap.size A m c us xss) := Lib.hid (Ss5.out.farR (r := q) (grown_set (grown_refl _ _) _ _) LA.out LI.out (.inr hq1))
            have Sr6 : Hid (Src (wr.setCell ⟨q, i, none⟩ (.int .i64 u)) g) := Lib.hid (Sr5.out.gro (grown_set (grown_refl _ (some q)) i _) (by omega))
            have G6 : Hid (w.grownBy (wr.setCell ⟨q, i, none⟩ (.int .i64 u)) (some g)) := Lib.hid (grown_far G5.out (by omega) i _)
            obtain ⟨z5, hz5⟩ : ∃ z5, ys.getD i 0 = z5 := ⟨_, rfl⟩
            rw [hz5] at c5
            clear hz5
            go_wp2_with fail
            go_roundg (n - (i + 1))
            case rel => exact ⟨i + 1, _, by omega, by omega, by go_num, Ro6.out, Ss6.out, Sr6.out, G6.out⟩
            case measure => omega
          · have hin : i = n := by omega
            have Sl5 : Hid (Slc wr w.heap.size (some ⟨q, 0, none⟩) n c1 ys) := Lib.hid (Ro.out.slc.mono (by omega))
            clear hin
            have D5 := Lib.hid (show ∀ t, t < m → (sval (us.getD t sd0)).ownBlock = none ∨ (sval (us.getD t sd0)).ownBlock ≠ (Value.slice (some ⟨q, 0, none⟩) n c1).ownBlock from fun t ht => by
              rcases e9 : (sval (us.getD t sd0)).ownBlock with _ | z
              · exact .inl rfl
              · exact .inr fun e8 => by have := (LI.out t ht z e9).2; simp [Value.ownBlock] at e8; omega)
            have hzT : w.heap.size ≤ wr.heap.size := G5.out.size
            go_wp2_with (first
              | (at_builtin
                 refine wpList_app2 rfl _ _ rfl rfl (Ss5.out.alloc _) wr.heap.size (some ⟨q, 0, none⟩) n c1 ys rfl (by rw [World.cell?_alloc_at _ _ _ _ rfl]; rfl) ((Sl5.out).alloc _) D5.out (by omega) (by simp; omega) ?_
                 intro A7 c7 w7 ss7 g7))
            have S7 : Hid (SS w7 w.heap.size w.heap.size A7 (m + 1) c7 (us ++ [(some ⟨q, 0, none⟩, n, c1)]) (xss ++ [ys])) := Lib.hid ss7
            have Sr7 : Hid (Src w7 g) := Lib.hid ((Sr5.out.below ((Below.refl wr.heap.size wr).alloc (Nat.le_refl _) (.cells #[.slice (some ⟨q, 0, none⟩) n c1] 37)) Sr5.out.lt).gro2 g7 (fun j hj => by have := (Ss5.out.lt_ j hj).1; omega))
            have G7 : Hid (w.grownBy w7 (some g)) := Lib.hid (grown_new2 (grown_alloc2 G5.out (.cells #[.slice (some ⟨q, 0, none⟩) n c1] 37)) g7 (fun j hj => (Ss5.out.lt_ j hj).1))
            have Ln7 : Hid (∀ i, i < m + 1 → ((us ++ [((some ⟨q, 0, none⟩, n, c1) : SV)]).getD i sd0).2.1 = n) := Lib.hid fun i hi => by
              by_cases e9 : i < m
              · rw [getD_app _ _ _ _ (by rw [Ss5.out.lv]; exact e9)]; exact Ln.out i e9
              · rw [getD_snoc _ _ _ _ (by rw [Ss5.out.lv]; omega)]
            clear ss7 g7
            go_wp2_with fail
            go_roundg k
            case rel => exact ⟨k, A7, m + 1, c7, _, _, by omega, by omega, by go_num, rfl, S7.out, Ln7.out, Sr7.out, G7.out⟩
            case measure => omega
      · have d30 : ((r3 : Int) == 0) = false := by simp; omega
        have d31 : ((r3 : Int) == 1) = false := by simp; omega
        clear hr23 hr3
        go_wp2_with fail
        refine (srcBelow g _ n w3 Sr3.out rfl (by omega) (by omega)).mono ?_
        rintro e w4 ⟨x, hx, rfl, s4, g4⟩
        have Sr4 := Lib.hid s4
        have Ss4 := Lib.hid (Ss3.out.farR g4 LA.out LI.out (.inl hg))
        have Sl4 : Hid (Slc w4 wr.heap.size (some ⟨q, 0, none⟩) n c1 (idL n)) := Lib.hid (Sl3.out.kept g4 (.inr (by simp [Value.ownBlock]; omega)))
        have G4 : Hid (w.grownBy w4 (some g)) := Lib.hid (grown_trans' G3.out g4)
        clear s4 g4
        go_wp2_with fail
        refine (srcBelow g _ n w4 Sr4.out rfl (by omega) (by omega)).mono ?_
        rintro e w5 ⟨y, hy, rfl, s5, g5⟩
        have Sr5 := Lib.hid s5
        have Ss5 := Lib.hid (Ss4.out.farR g5 LA.out LI.out (.inl hg))
        have Sl5 : Hid (Slc w5 wr.heap.size (some ⟨q, 0, none⟩) n c1 (idL n)) := Lib.hid (Sl4.out.kept g5 (.inr (by simp [Value.ownBlock]; omega)))
        have G5 : Hid (w.grownBy w5 (some g)) := Lib.hid (grown_trans' G4.out g5)
        clear s5 g5
        have row5 : Row w5 wr.heap.size q n c1 (idL n) := Row.of_own (by have h2 := Sl5.out.2; rw [← Sl5.out.1] at h2 ⊢; exact h2)
        have c5 := row5.cell hx
        have f5 := row5.free x
        rw [idL_getD hx] at c5
        have row6 := row5.store x (y : Int)
        have c6 := row6.cell hy
        have f6 := row6.free y
        obtain ⟨z6, hz6⟩ : ∃ z6, ((idL n).set x (y : Int)).getD y 0 = z6 := ⟨_, rfl⟩
        rw [hz6] at c6
        have Ro7 := Lib.hid (row6.store y (x : Int))
        obtain ⟨w6, hw6⟩ : ∃ w6, w5.setCell ⟨q, x, none⟩ (.int .i64 (y : Int)) = w6 := ⟨_, rfl⟩
        have Ss6 : Hid (SS w6 w.heap.size w.heap.size A m c us xss) := Lib.hid (by rw [← hw6]; exact Ss5.out.farR (r := q) (grown_set (grown_refl _ _) _ _) LA.out LI.out (.inr hq1))
        have Sr6 : Hid (Src w6 g) := Lib.hid (by rw [← hw6]; exact Sr5.out.gro (grown_set (grown_refl _ (some q)) x _) (by omega))
        have G6 : Hid (w.grownBy w6 (some g)) := Lib.hid (by rw [← hw6]; exact grown_far G5.out (by omega) x _)
        have Ss8 : Hid (SS (w6.setCell ⟨q, y, none⟩ (.int .i64 (x : Int))) w.heap.size w.heap.size A m c us xss) := Lib.hid (Ss6.out.farR (r := q) (grown_set (grown_refl _ _) _ _) LA.out LI.out (.inr hq1))
        have Sr8 : Hid (Src (w6.setCell ⟨q, y, none⟩ (.int .i64 (x : Int))) g) := Lib.hid (Sr6.out.gro (grown_set (grown_refl _ (some q)) y _) (by omega))
        have G8 : Hid (w.grownBy (w6.setCell ⟨q, y, none⟩ (.int .i64 (x : Int))) (some g)) := Lib.hid (grown_far G6.out (by omega) y _)
        obtain ⟨w8, hw8⟩ : ∃ w8, w6.setCell ⟨q, y, none⟩ (.int .i64 (x : Int)) = w8 := ⟨_, rfl⟩
        rw [hw8] at Ss8 Sr8 G8
        rw [hw6] at c6 f6 Ro7
        rw [hw8] at Ro7
        have Sl8 : Hid (Slc w8 w.heap.size (some ⟨q, 0, none⟩) n c1 (((idL n).set x (y : Int)).set y (x : Int))) := Lib.hid (Ro7.out.slc.mono (by omega))
        have x0 : (0 : Int) ≤ x := by omega
        have x1 : (x : Int) < n := by omega
        have y0 : (0 : Int) ≤ y := by omega
        have y1 : (y : Int) < n := by omega
        clear row5 row6 hz6
        have D5 := Lib.hid (show ∀ t, t < m → (sval (us.getD t sd0)).ownBlock = none ∨ (sval (us.getD t sd0)).ownBlock ≠ (Value.slice (some ⟨q, 0, none⟩) n c1).ownBlock from fun t ht => by
          rcases e9 : (sval (us.getD t sd0)).ownBlock with _ | z
          · exact .inl rfl
          · exact .inr fun e8 => by have := (LI.out t ht z e9).2; simp [Value.ownBlock] at e8; omega)
        have hzT : w.heap.size ≤ w8.heap.size := G8.out.size
        go_wp2_with (first
          | (at_builtin
             refine wpList_app2 rfl _ _ rfl rfl (Ss8.out.alloc _) w8.heap.size (some ⟨q, 0, none⟩) n c1 (((idL n).set x (y : Int)).set y (x : Int)) rfl (by rw [World.cell?_alloc_at _ _ _ _ rfl]; rfl) ((Sl8.out).alloc _) D5.out (by omega) (by simp; omega) ?_
             intro A7 c7 w7 ss7 g7))
        have S7 : Hid (SS w7 w.heap.size w.heap.size A7 (m + 1) c7 (us ++ [(some ⟨q, 0, none⟩, n, c1)]) (xss ++ [(((idL n).set x (y : Int)).set y (x : Int))])) := Lib.hid ss7
        have Sr7 : Hid (Src w7 g) := Lib.hid ((Sr8.out.below ((Below.refl w8.heap.size w8).alloc (Nat.le_refl _) (.cells #[.slice (some ⟨q, 0, none⟩) n c1] 37)) Sr8.out.lt).gro2 g7 (fun j hj => by have := (Ss8.out.lt_ j hj).1; omega))
        have G7 : Hid (w.grownBy w7 (some g)) := Lib.hid (grown_new2 (grown_alloc2 G8.out (.cells #[.slice (some ⟨q, 0, none⟩) n c1] 37)) g7 (fun j hj => (Ss8.out.lt_ j hj).1))
        have Ln7 : Hid (∀ i, i < m + 1 → ((us ++ [((some ⟨q, 0, none⟩, n, c1) : SV)]).getD i sd0).2.1 = n) := Lib.hid fun i hi => by
          by_cases e9 : i < m
          · rw [getD_app _ _ _ _ (by rw [Ss8.out.lv]; exact e9)]; exact Ln.out i e9
          · rw [getD_snoc _ _ _ _ (by rw [Ss8.out.lv]; omega)]
        clear ss7 g7
        go_wp2_with fail
        go_roundg k
        case rel => exact ⟨k, A7, m + 1, c7, _, _, by omega, by omega, by go_num, rfl, S7.out, Ln7.out, Sr7.out, G7.out⟩
        case measure => omega
    · have hk00 : k0 = 0 := by omega
      subst hk00
      go_wp2_with fail
      go_ret
      exact ⟨_, _, _, _, _, rfl, Ss.out, Ln.out, by omega, Sr.out, Gr.out⟩

theorem SS.lens_le {w : World} {bo bi n c : Nat} {A : Option Addr} {us : List SV} {xss : List (List Int)} (_h : SS w bo bi A n c us xss) {N : Nat} (hl : ∀ i, i < n → (us.getD i sd0).2.1 = N) (hN : N ≤ 21) : ∀ i, i < n → (us.getD i sd0).2.1 ≤ 21 := fun i hi => by rw [hl i hi]; exact hN

set_option maxHeartbeats 4000000 in
set_option maxRecDepth 100000 in
/-- drawGroup. -/
theorem drawGroupT (g : Nat) (w : World) (hs : Src w g) :
    Calls Tryz.prog 13 #[.pointer (some ⟨g, 0, none⟩)] w fun e w' => ∃ (z : Int) (A : Option Addr) (m c : Nat) (vs : List SV) (xss : List (List Int)), e = .returned (.tuple #[.int .i64 z, .slice A m c]) ∧ B64 z ∧ RR w' w'.heap.size A m vs xss ∧ m ≤ 9 ∧ (∀ i, i < m → (vs.getD i sd0).2.1 ≤ 21) ∧ Src w' g ∧ w.grownBy w' (some g) := by
  have hg := hs.lt
  go_enter Tryz.func13, Tryz.ntmps13
  go_wp2_with fail
  refine (srcBetween g 2 5 w hs (by omega) (by omega)).mono ?_
  rintro e w1 ⟨n1, h11, h12, rfl, s1, g1⟩
  have Sr1 := Lib.hid s1
  have G1 := Lib.hid g1
  clear s1 g1 hs
  go_wp2_with fail
  refine (srcOne g _ 6 w1 Sr1.out rfl (by omega) (by omega)).mono ?_
  rintro e w2 ⟨b, rfl, s2, g2⟩
  have Sr2 := Lib.hid s2
  have G2 : Hid (w.grownBy w2 (some g)) := Lib.hid (grown_trans' G1.out g2)
  clear s2 g2
  go_upto_if 9 with fail
  go_cut [4] from 6 to 48 (fun nn wx => ∃ n : Nat, 1 ≤ n ∧ n ≤ 7 ∧ nn = .int .i64 (n : Nat) ∧ Src wx g ∧ w.grownBy wx (some g))
  case first =>
    cases b
    · go_wp2_with fail
      go_meet
      exact ⟨n1, by omega, by omega, rfl, Sr2.out, G2.out⟩
    · go_wp2_with fail
      refine (srcBetween g 1 7 w2 Sr2.out (by omega) (by omega)).mono ?_
      rintro e w3 ⟨n3, h31, h32, rfl, s3, g3⟩
      have Sr3 := Lib.hid s3
      have G3 : Hid (w.grownBy w3 (some g)) := Lib.hid (grown_trans' G2.out g3)
      clear s3 g3
      go_wp2_with fail
      go_meet
      exact ⟨n3, by omega, by omega, rfl, Sr3.out, G3.out⟩
  case rest =>
    obtain ⟨n, hn1, hn7, rfl, src, grc⟩ := hcut
    have Sr3 := Lib.hid src
    have G3 := Lib.hid grc
    clear src grc Sr2 G2 Sr1 G1
    go_wp2_with fail
    refine (drawGens g n wc Sr3.out hn1 (by omega)).mono ?_
    rintro e w4 ⟨A, m, c, us, xss, rfl, ss4, ln4, hm4, s4, g4⟩
    have Ss4 := Lib.hid ss4
    have Ln4 := Lib.hid ln4
    have Sr4 := Lib.hid s4
    have G4 : Hid (w.grownBy w4 (some g)) := Lib.hid (grown_trans' G3.out g4)
    have hgc : g < wc.heap.size := Sr3.out.lt
    have hz4 := G4.out.size
    have LA : Hid (∀ j, (Value.slice A m c).ownBlock = some j → wc.heap.size ≤ j ∧ j < w4.heap.size) := Lib.hid ss4.lt_
    have LI : Hid (∀ t, t < m → ∀ j, (sval (us.getD t sd0)).ownBlock = some j → wc.heap.size ≤ j ∧ j < w4.heap.size) := Lib.hid fun t ht => (ss4.row t ht).lt_
    have hzc4 := g4.size
    clear ss4 ln4 s4 g4
    go_wp2_with fail
    refine (srcOne g _ 20 w4 Sr4.out rfl (by omega) (by omega)).mono ?_
    rintro e w5 ⟨b5, rfl, s5, g5⟩
    have Sr5 := Lib.hid s5
    have Ss5 := Lib.hid (Ss4.out.farR g5 LA.out LI.out (.inl hgc))
    have G5 : Hid (w.grownBy w5 (some g)) := Lib.hid (grown_trans' G4.out g5)
    have hz5 := g5.size
    clear s5 g5
    cases b5
    · go_wp2_with fail
      go_ret2
      exact ⟨_, _, _, _, us, xss, rfl, by unfold B64; omega, Ss5.out.rr, by omega, Ss5.out.lens_le Ln4.out (by omega), Sr5.out, G5.out⟩
    · go_wp2_with fail
      refine (srcBelow g _ 4 w5 Sr5.out rfl (by omega) (by omega)).mono ?_
      rintro e w6 ⟨r6, hr6, rfl, s6, g6⟩
      have Sr6 := Lib.hid s6
      have Ss6 := Lib.hid (Ss5.out.farR g6 LA.out LI.out (.inl hgc))
      have G6 : Hid (w.grownBy w6 (some g)) := Lib.hid (grown_trans' G5.out g6)
      have hz6 := g6.size
      clear s6 g6
      obtain rfl | rfl | rfl | rfl : r6 = 0 ∨ r6 = 1 ∨ r6 = 2 ∨ r6 = 3 := by omega
      · go_wp2_with fail
        refine (srcNumberB g 20 w6 Sr6.out (by omega) (by omega)).mono ?_
        rintro e w7 ⟨z7, rfl, hB7, s7, g7⟩
        have Sr7 := Lib.hid s7
        have Ss7 := Lib.hid (Ss6.out.farR g7 LA.out LI.out (.inl hgc))
        have G7 : Hid (w.grownBy w7 (some g)) := Lib.hid (grown_trans' G6.out g7)
        have HB7 := Lib.hid hB7
        clear s7 g7 hB7
        go_wp2_with fail
        go_ret2
        exact ⟨_, _, _, _, us, xss, rfl, HB7.out, Ss7.out.rr, by omega, Ss7.out.lens_le Ln4.out (by omega), Sr7.out, G7.out⟩
      · go_wp2_with fail
        refine (drawAny g n w6 Sr6.out (by omega) (by omega)).mono ?_
        rintro e w7 ⟨A7, m7, c7, ys, rfl, p7, hm7, s7, g7⟩
        have Sr7 := Lib.hid s7
        have Ss7 := Lib.hid (Ss6.out.farR g7 LA.out LI.out (.inl hgc))
        have G7 : Hid (w.grownBy w7 (some g)) := Lib.hid (grown_trans' G6.out g7)
        have P7 : Hid (Pm (w7.alloc (.cells #[.slice A7 m7 c7] 37)) w6.heap.size A7 m7 c7 ys) := Lib.hid (p7.up ((Below.refl w7.heap.size w7).alloc (Nat.le_refl _) _))
        have hz7 := G7.out.size
        have hz67 := g7.size
        have hlt7 : Hid (∀ j, (Value.slice A m c).ownBlock = some j → j < w6.heap.size) := Lib.hid fun j hj => by have := (LA.out j hj).2; omega
        clear s7 g7 p7
        go_wp2_with (first
          | (at_builtin
             refine wpList_app2R rfl _ _ rfl rfl (Ss7.out.alloc _) w7.heap.size A7 m7 c7 w6.heap.size ys rfl (by rw [World.cell?_alloc_at _ _ _ _ rfl]; rfl) P7.out hlt7.out (by omega) (by simp; omega) ?_
             intro A8 c8 w8 rr8 g8))
        have R8 := Lib.hid rr8
        have Sr8 : Hid (Src w8 g) := Lib.hid ((Sr7.out.below ((Below.refl w7.heap.size w7).alloc (Nat.le_refl _) (.cells #[.slice A7 m7 c7] 37)) Sr7.out.lt).gro2 g8 (fun j hj => by have := (LA.out j hj).1; omega))
        have G8 : Hid (w.grownBy w8 (some g)) := Lib.hid (grown_new2 (grown_alloc2 G7.out (.cells #[.slice A7 m7 c7] 37)) g8 (fun j hj => by have := (LA.out j hj).1; have := G3.out.size; omega))
        have Ln8 : Hid (∀ i, i < m + 1 → ((us ++ [((A7, m7, c7) : SV)]).getD i sd0).2.1 ≤ 21) := Lib.hid fun i hi => by
          by_cases e9 : i < m
          · rw [getD_app _ _ _ _ (by rw [Ss7.out.lv]; exact e9), Ln4.out i e9]; omega
          · rw [getD_snoc _ _ _ _ (by rw [Ss7.out.lv]; omega)]; exact hm7
        clear rr8 g8
        go_wp2_with fail
        go_ret2
        exact ⟨_, _, _, _, _, _, rfl, by unfold B64; omega, R8.out, by omega, Ln8.out, Sr8.out, G8.out⟩
      · have hw6 := G6.out.size
        have Sr7 : Hid (Src (w6.alloc (.cells #[] 37)) g) := Lib.hid (Sr6.out.below ((Below.refl w6.heap.size w6).alloc (Nat.le_refl _) _) Sr6.out.lt)
        have G7 : Hid (w.grownBy (w6.alloc (.cells #[] 37)) (some g)) := Lib.hid (grown_alloc2 G6.out _)
        go_wp2_with fail
        go_ret2
        exact ⟨_, _, 0, _, [], [], rfl, by unfold B64; omega, RR.nil_, by omega, fun i hi => absurd hi (by omega), Sr7.out, G7.out⟩
      · go_wp2_with fail
        go_loopg [5] 10 (fun gg v wr => ∃ (A : Option Addr) (m c : Nat) (us : List SV) (xss : List (List Int)), m ≤ 9 ∧ 9 - m ≤ gg ∧ v = .slice A m c ∧ SS wr wc.heap.size wc.heap.size A m c us xss ∧ (∀ i, i < m → (us.getD i sd0).2.1 = n) ∧ Src wr g ∧ w.grownBy wr (some g) ∧ wc.heap.size ≤ wr.heap.size)
        case atStart => exact ⟨_, m, _, _, _, by omega, by omega, rfl, Ss6.out, Ln4.out, Sr6.out, G6.out, by omega⟩
        case round =>
          clear LA LI Ss4 Ss5 Ss6
          obtain ⟨A, m, c, us, xss, hm9, hgm, rfl, ss, ln, sr, gr, hzc⟩ := hrel
          have Ss := Lib.hid ss
          have Ln := Lib.hid ln
          have Sr := Lib.hid sr
          have Gr := Lib.hid gr
          have LA : Hid (∀ j, (Value.slice A m c).ownBlock = some j → wc.heap.size ≤ j ∧ j < wr.heap.size) := Lib.hid ss.lt_
          have LI : Hid (∀ t, t < m → ∀ j, (sval (us.getD t sd0)).ownBlock = some j → wc.heap.size ≤ j ∧ j < wr.heap.size) := Lib.hid fun t ht => (ss.row t ht).lt_
          clear ss ln sr gr
          go_wp2_with fail
          refine (srcBelow g _ 2 wr Sr.out rfl (by omega) (by omega)).mono ?_
          rintro e w7 ⟨r7, hr7, rfl, s7, g7⟩
          have Sr7 := Lib.hid s7
          have Ss7 := Lib.hid (Ss.out.farR g7 LA.out LI.out (.inl hgc))
          have G7 : Hid (w.grownBy w7 (some g)) := Lib.hid (grown_trans' Gr.out g7)
          have hz7 := g7.size
          have w88 : IntKind.i64.wrap (8 + (r7 : Int)) = 8 + (r7 : Int) := by rw [IntKind.wrap_i64]; omega
          have w89 : IntKind.i64.wrap (r7 : Int) = (r7 : Int) := by rw [IntKind.wrap_i64]; omega
          clear s7 g7
          by_cases hlt : (m : Int) < 8 + (r7 : Int)
          · have d7 : decide ((m : Int) < 8 + (r7 : Int)) = true := decide_eq_true hlt
            have hm8 : m ≤ 8 := by omega
            go_wp2_with fail
            refine (specIdent n w7 (by omega)).mono ?_
            rintro e w8 ⟨A8, c8, rfl, s8, b8⟩
            have Sr8 := Lib.hid (Sr7.out.below b8 Sr7.out.lt)
            have Ss8 := Lib.hid (Ss7.out.up b8)
            have G8 : Hid (w.grownBy w8 (some g)) := Lib.hid (grown_below2 G7.out b8)
            have D8 := Lib.hid (lies_dis Ss7.out s8.lies (Nat.le_refl _))
            have hz8 := b8.size
            have Sl8 := Lib.hid (s8.mono (show wc.heap.size ≤ w7.heap.size by omega))
            clear s8 b8
            go_wp2_with (first
              | (at_builtin
                 refine wpList_app2 rfl _ _ rfl rfl (Ss8.out.alloc _) w8.heap.size A8 n c8 (idL n) rfl (by rw [World.cell?_alloc_at _ _ _ _ rfl]; rfl) (Sl8.out.alloc _) D8.out (by omega) (by simp; omega) ?_
                 intro A9 c9 w9 ss9 g9))
            have Ss9 : Hid (SS w9 wc.heap.size wc.heap.size A9 (m + 1) c9 (us ++ [(A8, n, c8)]) (xss ++ [idL n])) := Lib.hid ss9
            have Sr9 : Hid (Src w9 g) := Lib.hid ((Sr8.out.below ((Below.refl w8.heap.size w8).alloc (Nat.le_refl _) (.cells #[.slice A8 n c8] 37)) Sr8.out.lt).gro2 g9 (fun j hj => by have := (LA.out j hj).1; omega))
            have G9 : Hid (w.grownBy w9 (some g)) := Lib.hid (grown_new2 (grown_alloc2 G8.out (.cells #[.slice A8 n c8] 37)) g9 (fun j hj => by have := (LA.out j hj).1; have := G3.out.size; omega))
            have hz9 : wc.heap.size ≤ w9.heap.size := by have := g9.size; simp at this; omega
            have Ln9 : Hid (∀ i, i < m + 1 → ((us ++ [((A8, n, c8) : SV)]).getD i sd0).2.1 = n) := Lib.hid fun i hi => by
              by_cases e9 : i < m
              · rw [getD_app _ _ _ _ (by rw [Ss8.out.lv]; exact e9)]; exact Ln.out i e9
              · rw [getD_snoc _ _ _ _ (by rw [Ss8.out.lv]; omega)]
            clear ss9 g9
            go_wp2_with fail
            go_roundg (9 - (m + 1))
            case rel => exact ⟨A9, m + 1, c9, _, _, by omega, by omega, rfl, Ss9.out, Ln9.out, Sr9.out, G9.out, hz9⟩
            case measure => omega
          · have d7 : decide ((m : Int) < 8 + (r7 : Int)) = false := decide_eq_false hlt
            go_wp2_with fail
            go_ret2
            exact ⟨_, _, _, _, us, xss, rfl, by unfold B64; omega, Ss7.out.rr, by omega, Ss7.out.lens_le Ln.out (by omega), Sr7.out, G7.out⟩
end Go.Proofs.YtedfcljikgmpgaaGreat

/- A draw of a group, with where its slices lie. Condition: at most 4096 bytes. -/
namespace Go.Proofs.YtedfcljikgmpgaaGreat
open Go.RowKit

/-- Slices of numbers that can be read, all in blocks from lo on. -/
structure RX (w : World) (lo : Nat) (A : Option Addr) (n : Nat) (vs : List SV) (xss : List (List Int)) : Prop where
  rr : RR w w.heap.size A n vs xss
  outer : 0 < n → ∀ b off, A = some ⟨b, off, none⟩ → lo ≤ b
  inner : ∀ j, j < n → ∀ b off, (vs.getD j sd0).1 = some ⟨b, off, none⟩ → 0 < (xss.getD j []).length → lo ≤ b
section
variable {w w' : World} {lo g n : Nat} {A : Option Addr} {vs : List SV} {xss : List (List Int)}
theorem RX.nil_ {c : Option Addr} : RX w lo c 0 [] [] := ⟨RR.nil_, fun h => absurd h (Nat.lt_irrefl _), fun j h => absurd h (Nat.not_lt_zero _)⟩
theorem RX.of_ss {bo bi c : Nat} (h : SS w bo bi A n c vs xss) (h1 : lo ≤ bo) (h2 : lo ≤ bi) : RX w lo A n vs xss :=
  ⟨h.rr, fun _ b off e => by have := (h.lt_ b (by subst e; rfl)).1; omega, fun j hj b off e _ => by have := ((h.row j hj).lt_ b (by rw [e]; rfl)).1; omega⟩
theorem RX.gro (h : RX w lo A n vs xss) (hg : w.grownBy w' (some g)) (hl : g < lo) : RX w' lo A n vs xss :=
  ⟨⟨h.rr.lv, h.rr.lx, fun hn => by
      obtain ⟨b, off, e, hb, hc⟩ := h.rr.cells hn
      have := h.outer hn b off e
      exact ⟨b, off, e, Nat.lt_of_lt_of_le hb hg.size, fun j hj => (World.cell?_of_block (a := ⟨b, off + j, none⟩) (hg.block b hb (by intro e2; injection e2 with e2; omega))).trans (hc j hj)⟩,
    fun j hj hp => by
      obtain ⟨b, off, e, hb, hc⟩ := h.rr.rows j hj hp
      have := h.inner j hj b off e hp
      exact ⟨b, off, e, Nat.lt_of_lt_of_le hb hg.size, fun t ht => (World.cell?_of_block (a := ⟨b, off + t, none⟩) (hg.block b hb (by intro e2; injection e2 with e2; omega))).trans (hc t ht)⟩, h.rr.lens, h.rr.caps⟩, h.outer, h.inner⟩
theorem RX.up (h : RX w lo A n vs xss) (hb : Below w.heap.size w w') : RX w' lo A n vs xss := ⟨h.rr.up hb, h.outer, h.inner⟩
end
section
variable {w w' : World} {base n c : Nat} {A : Option Addr} {vs : List SV} {xss : List (List Int)}
/-- A slice that can be read, appended onto a slice of slices of the call's own. -/
theorem wpList_app2X {ops : Array Oper} {rest : List Oper} {o : Oper} {a : Act} {Q : Exit → Act → World → Prop} (hgd : o.guard = none) (s x : Operand)
    (ho : o.op = .call { callee := .builtin .append, args := #[s, x], argTypes := #[24, 24] })
    (hs : a.eval s = .slice A n c) (hss : SS w base base A n c vs xss) (g : Nat) (dA : Option Addr) (dn dc lo : Nat) (ys : List Int) (hx : a.eval x = .slice (some ⟨g, 0, none⟩) 1 1)
    (hcell : w.cell? ⟨g, 0, none⟩ = some (.slice dA dn dc)) (hys : Pm w lo dA dn dc ys) (hlo : ∀ k, (Value.slice A n c).ownBlock = some k → k < lo) (hn : n ≤ 1000000000) (hbase : base ≤ w.heap.size) (l0 : Nat) (hl0 : l0 ≤ base) (hl1 : l0 ≤ lo)
    (h : ∀ A' c' w', RX w' l0 A' (n + 1) (vs ++ [(dA, dn, dc)]) (xss ++ [ys]) → w.grownBy w' (Value.slice A n c).ownBlock → wpList Tryz.prog ops Q rest (a.put o.dst (.slice A' (n + 1) c')) w') : wpList Tryz.prog ops Q (o :: rest) a w := by
  obtain ⟨i0, hi, hz0, hz1, hz2⟩ := info_parts infoS
  refine wpList_append_own (w := w) hgd s x 24 ho base 37 i0 (.slice none 0 0) 1 24 Tryz.underlying24 hi hz0 hz1 hz2 rfl (by decide) _ n _ hs hss.own ⟨g, 0, none⟩ 1 1 [.slice dA dn dc] hx rfl ?_ ?_ ?_ (by omega) hbase ?_
  · intro j v hj
    match j, hj with
    | 0, hj => simp at hj; subst hj; simpa [Addr.add] using hcell
    | j + 1, hj => simp at hj
  · intro v hv; simp at hv; subst hv; rfl
  · unfold maxLen; omega
  · intro v' w' hown' hg _
    rcases hown'.2 with ⟨rfl, h0⟩ | ⟨g', cap, cur, rfl, hb', hg', hnc, _⟩
    · omega
    · refine h (some ⟨g', 0, none⟩) cap w' ⟨⟨by simp [hss.lv], by simp [hss.lx], fun _ => ⟨g', 0, rfl, (Array.getElem?_eq_some_iff.1 hg').1, fun j hj => ?_⟩, fun j hj => ?_, fun j hj => ?_, fun j hj => ?_⟩, fun _ b off e => ?_, fun j hj b off e hp => ?_⟩ hg
      · rw [Nat.zero_add, hown'.cellAt j (by omega)]
        by_cases e : j < n
        · rw [List.getElem?_append_left (by rw [List.length_map, hss.lv]; exact e), List.getElem?_map, getD_app _ _ _ _ (by rw [hss.lv]; exact e), List.getD_eq_getElem?_getD, List.getElem?_eq_getElem (by rw [hss.lv]; exact e)]; rfl
        · obtain rfl : j = n := by omega
          rw [List.getElem?_append_right (by rw [List.length_map, hss.lv]; exact Nat.le_refl _), List.length_map, hss.lv, Nat.sub_self, getD_snoc _ _ _ _ hss.lv.symm]; rfl
      · by_cases e : j < n
        · rw [getD_app _ _ _ _ (by rw [hss.lv]; exact e), getD_app _ _ _ _ (by rw [hss.lx]; exact e)]
          exact ((hss.row j e).kept hg (apart_types (hss.row j e) hss.own)).ri_
        · obtain rfl : j = n := by omega
          rw [getD_snoc _ _ _ _ hss.lv.symm, getD_snoc _ _ _ _ hss.lx.symm]
          intro hp
          obtain ⟨b, off, e1, h1, h2, hc⟩ := hys.2.2 (by rw [← hys.1]; exact hp)
          refine ⟨b, off, e1, Nat.lt_of_lt_of_le h2 hg.size, fun t ht => (World.cell?_of_block (a := ⟨b, off + t, none⟩) (hg.block b h2 fun e2 => ?_)).trans (hc t (by rw [← hys.1]; exact ht))⟩
          have := hlo b e2.symm
          omega
      · by_cases e : j < n
        · rw [getD_app _ _ _ _ (by rw [hss.lx]; exact e), getD_app _ _ _ _ (by rw [hss.lv]; exact e)]; exact (hss.row j e).1
        · obtain rfl : j = n := by omega
          rw [getD_snoc _ _ _ _ hss.lx.symm, getD_snoc _ _ _ _ hss.lv.symm]; exact hys.1
      · by_cases e : j < n
        · rw [getD_app _ _ _ _ (by rw [hss.lv]; exact e)]; exact (hss.row j e).le.1
        · obtain rfl : j = n := by omega
          rw [getD_snoc _ _ _ _ hss.lv.symm]; exact hys.2.1
      · injection e with e; injection e with e; omega
      · by_cases e9 : j < n
        · rw [getD_app _ _ _ _ (by rw [hss.lv]; exact e9)] at e
          have := ((hss.row j e9).lt_ b (by rw [e]; rfl)).1
          omega
        · obtain rfl : j = n := by omega
          rw [getD_snoc _ _ _ _ hss.lv.symm] at e
          rw [getD_snoc _ _ _ _ hss.lx.symm] at hp
          obtain ⟨b2, off2, e1, h1, _⟩ := hys.2.2 (by rw [← hys.1]; exact hp)
          have e3 : (some ⟨b, off, none⟩ : Option Addr) = some ⟨b2, off2, none⟩ := e.symm.trans e1
          injection e3 with e3; injection e3 with e3; omega
end

set_option maxHeartbeats 4000000 in
set_option maxRecDepth 100000 in
/-- drawGroup. -/
theorem drawGroupX (g : Nat) (w : World) (hs : Src w g) :
    Calls Tryz.prog 13 #[.pointer (some ⟨g, 0, none⟩)] w fun e w' => ∃ (z : Int) (A : Option Addr) (m c : Nat) (vs : List SV) (xss : List (List Int)), e = .returned (.tuple #[.int .i64 z, .slice A m c]) ∧ B64 z ∧ RX w' w.heap.size A m vs xss ∧ m ≤ 9 ∧ (∀ i, i < m → (vs.getD i sd0).2.1 ≤ 21) ∧ Src w' g ∧ w.grownBy w' (some g) := by
  have hg := hs.lt
  go_enter Tryz.func13, Tryz.ntmps13
  go_wp2_with fail
  refine (srcBetween g 2 5 w hs (by omega) (by omega)).mono ?_
  rintro e w1 ⟨n1, h11, h12, rfl, s1, g1⟩
  have Sr1 := Lib.hid s1
  have G1 := Lib.hid g1
  clear s1 g1 hs
  go_wp2_with fail
  refine (srcOne g _ 6 w1 Sr1.out rfl (by omega) (by omega)).mono ?_
  rintro e w2 ⟨b, rfl, s2, g2⟩
  have Sr2 := Lib.hid s2
  have G2 : Hid (w.grownBy w2 (some g)) := Lib.hid (grown_trans' G1.out g2)
  clear s2 g2
  go_upto_if 9 with fail
  go_cut [4] from 6 to 48 (fun nn wx => ∃ n : Nat, 1 ≤ n ∧ n ≤ 7 ∧ nn = .int .i64 (n : Nat) ∧ Src wx g ∧ w.grownBy wx (some g))
  case first =>
    cases b
    · go_wp2_with fail
      go_meet
      exact ⟨n1, by omega, by omega, rfl, Sr2.out, G2.out⟩
    · go_wp2_with fail
      refine (srcBetween g 1 7 w2 Sr2.out (by omega) (by omega)).mono ?_
      rintro e w3 ⟨n3, h31, h32, rfl, s3, g3⟩
      have Sr3 := Lib.hid s3
      have G3 : Hid (w.grownBy w3 (some g)) := Lib.hid (grown_trans' G2.out g3)
      clear s3 g3
      go_wp2_with fail
      go_meet
      exact ⟨n3, by omega, by omega, rfl, Sr3.out, G3.out⟩
  case rest =>
    obtain ⟨n, hn1, hn7, rfl, src, grc⟩ := hcut
    have Sr3 := Lib.hid src
    have G3 := Lib.hid grc
    clear src grc Sr2 G2 Sr1 G1
    have hwc := G3.out.size
    go_wp2_with fail
    refine (drawGens g n wc Sr3.out hn1 (by omega)).mono ?_
    rintro e w4 ⟨A, m, c, us, xss, rfl, ss4, ln4, hm4, s4, g4⟩
    have Ss4 := Lib.hid ss4
    have Ln4 := Lib.hid ln4
    have Sr4 := Lib.hid s4
    have G4 : Hid (w.grownBy w4 (some g)) := Lib.hid (grown_trans' G3.out g4)
    have hgc : g < wc.heap.size := Sr3.out.lt
    have hz4 := G4.out.size
    have LA : Hid (∀ j, (Value.slice A m c).ownBlock = some j → wc.heap.size ≤ j ∧ j < w4.heap.size) := Lib.hid ss4.lt_
    have LI : Hid (∀ t, t < m → ∀ j, (sval (us.getD t sd0)).ownBlock = some j → wc.heap.size ≤ j ∧ j < w4.heap.size) := Lib.hid fun t ht => (ss4.row t ht).lt_
    have hzc4 := g4.size
    clear ss4 ln4 s4 g4
    go_wp2_with fail
    refine (srcOne g _ 20 w4 Sr4.out rfl (by omega) (by omega)).mono ?_
    rintro e w5 ⟨b5, rfl, s5, g5⟩
    have Sr5 := Lib.hid s5
    have Ss5 := Lib.hid (Ss4.out.farR g5 LA.out LI.out (.inl hgc))
    have G5 : Hid (w.grownBy w5 (some g)) := Lib.hid (grown_trans' G4.out g5)
    have hz5 := g5.size
    clear s5 g5
    cases b5
    · go_wp2_with fail
      go_ret2
      exact ⟨_, _, _, _, us, xss, rfl, by unfold B64; omega, (RX.of_ss Ss5.out (by omega) (by omega)), by omega, Ss5.out.lens_le Ln4.out (by omega), Sr5.out, G5.out⟩
    · go_wp2_with fail
      refine (srcBelow g _ 4 w5 Sr5.out rfl (by omega) (by omega)).mono ?_
      rintro e w6 ⟨r6, hr6, rfl, s6, g6⟩
      have Sr6 := Lib.hid s6
      have Ss6 := Lib.hid (Ss5.out.farR g6 LA.out LI.out (.inl hgc))
      have G6 : Hid (w.grownBy w6 (some g)) := Lib.hid (grown_trans' G5.out g6)
      have hz6 := g6.size
      clear s6 g6
      obtain rfl | rfl | rfl | rfl : r6 = 0 ∨ r6 = 1 ∨ r6 = 2 ∨ r6 = 3 := by omega
      · go_wp2_with fail
        refine (srcNumberB g 20 w6 Sr6.out (by omega) (by omega)).mono ?_
        rintro e w7 ⟨z7, rfl, hB7, s7, g7⟩
        have Sr7 := Lib.hid s7
        have Ss7 := Lib.hid (Ss6.out.farR g7 LA.out LI.out (.inl hgc))
        have G7 : Hid (w.grownBy w7 (some g)) := Lib.hid (grown_trans' G6.out g7)
        have HB7 := Lib.hid hB7
        clear s7 g7 hB7
        go_wp2_with fail
        go_ret2
        exact ⟨_, _, _, _, us, xss, rfl, HB7.out, (RX.of_ss Ss7.out (by omega) (by omega)), by omega, Ss7.out.lens_le Ln4.out (by omega), Sr7.out, G7.out⟩
      · go_wp2_with fail
        refine (drawAny g n w6 Sr6.out (by omega) (by omega)).mono ?_
        rintro e w7 ⟨A7, m7, c7, ys, rfl, p7, hm7, s7, g7⟩
        have Sr7 := Lib.hid s7
        have Ss7 := Lib.hid (Ss6.out.farR g7 LA.out LI.out (.inl hgc))
        have G7 : Hid (w.grownBy w7 (some g)) := Lib.hid (grown_trans' G6.out g7)
        have P7 : Hid (Pm (w7.alloc (.cells #[.slice A7 m7 c7] 37)) w6.heap.size A7 m7 c7 ys) := Lib.hid (p7.up ((Below.refl w7.heap.size w7).alloc (Nat.le_refl _) _))
        have hz7 := G7.out.size
        have hz67 := g7.size
        have hlt7 : Hid (∀ j, (Value.slice A m c).ownBlock = some j → j < w6.heap.size) := Lib.hid fun j hj => by have := (LA.out j hj).2; omega
        clear s7 g7 p7
        go_wp2_with (first
          | (at_builtin
             refine wpList_app2X rfl _ _ rfl rfl (Ss7.out.alloc _) w7.heap.size A7 m7 c7 w6.heap.size ys rfl (by rw [World.cell?_alloc_at _ _ _ _ rfl]; rfl) P7.out hlt7.out (by omega) (by simp; omega) w.heap.size (by omega) (by omega) ?_
             intro A8 c8 w8 rr8 g8))
        have R8 := Lib.hid rr8
        have Sr8 : Hid (Src w8 g) := Lib.hid ((Sr7.out.below ((Below.refl w7.heap.size w7).alloc (Nat.le_refl _) (.cells #[.slice A7 m7 c7] 37)) Sr7.out.lt).gro2 g8 (fun j hj => by have := (LA.out j hj).1; omega))
        have G8 : Hid (w.grownBy w8 (some g)) := Lib.hid (grown_new2 (grown_alloc2 G7.out (.cells #[.slice A7 m7 c7] 37)) g8 (fun j hj => by have := (LA.out j hj).1; have := G3.out.size; omega))
        have Ln8 : Hid (∀ i, i < m + 1 → ((us ++ [((A7, m7, c7) : SV)]).getD i sd0).2.1 ≤ 21) := Lib.hid fun i hi => by
          by_cases e9 : i < m
          · rw [getD_app _ _ _ _ (by rw [Ss7.out.lv]; exact e9), Ln4.out i e9]; omega
          · rw [getD_snoc _ _ _ _ (by rw [Ss7.out.lv]; omega)]; exact hm7
        clear rr8 g8
        go_wp2_with fail
        go_ret2
        exact ⟨_, _, _, _, _, _, rfl, by unfold B64; omega, R8.out, by omega, Ln8.out, Sr8.out, G8.out⟩
      · have hw6 := G6.out.size
        have Sr7 : Hid (Src (w6.alloc (.cells #[] 37)) g) := Lib.hid (Sr6.out.below ((Below.refl w6.heap.size w6).alloc (Nat.le_refl _) _) Sr6.out.lt)
        have G7 : Hid (w.grownBy (w6.alloc (.cells #[] 37)) (some g)) := Lib.hid (grown_alloc2 G6.out _)
        go_wp2_with fail
        go_ret2
        exact ⟨_, _, 0, _, [], [], rfl, by unfold B64; omega, RX.nil_, by omega, fun i hi => absurd hi (by omega), Sr7.out, G7.out⟩
      · go_wp2_with fail
        go_loopg [5] 10 (fun gg v wr => ∃ (A : Option Addr) (m c : Nat) (us : List SV) (xss : List (List Int)), m ≤ 9 ∧ 9 - m ≤ gg ∧ v = .slice A m c ∧ SS wr wc.heap.size wc.heap.size A m c us xss ∧ (∀ i, i < m → (us.getD i sd0).2.1 = n) ∧ Src wr g ∧ w.grownBy wr (some g) ∧ wc.heap.size ≤ wr.heap.size)
        case atStart => exact ⟨_, m, _, _, _, by omega, by omega, rfl, Ss6.out, Ln4.out, Sr6.out, G6.out, by omega⟩
        case round =>
          clear LA LI Ss4 Ss5 Ss6
          obtain ⟨A, m, c, us, xss, hm9, hgm, rfl, ss, ln, sr, gr, hzc⟩ := hrel
          have Ss := Lib.hid ss
          have Ln := Lib.hid ln
          have Sr := Lib.hid sr
          have Gr := Lib.hid gr
          have LA : Hid (∀ j, (Value.slice A m c).ownBlock = some j → wc.heap.size ≤ j ∧ j < wr.heap.size) := Lib.hid ss.lt_
          have LI : Hid (∀ t, t < m → ∀ j, (sval (us.getD t sd0)).ownBlock = some j → wc.heap.size ≤ j ∧ j < wr.heap.size) := Lib.hid fun t ht => (ss.row t ht).lt_
          clear ss ln sr gr
          go_wp2_with fail
          refine (srcBelow g _ 2 wr Sr.out rfl (by omega) (by omega)).mono ?_
          rintro e w7 ⟨r7, hr7, rfl, s7, g7⟩
          have Sr7 := Lib.hid s7
          have Ss7 := Lib.hid (Ss.out.farR g7 LA.out LI.out (.inl hgc))
          have G7 : Hid (w.grownBy w7 (some g)) := Lib.hid (grown_trans' Gr.out g7)
          have hz7 := g7.size
          have w88 : IntKind.i64.wrap (8 + (r7 : Int)) = 8 + (r7 : Int) := by rw [IntKind.wrap_i64]; omega
          have w89 : IntKind.i64.wrap (r7 : Int) = (r7 : Int) := by rw [IntKind.wrap_i64]; omega
          clear s7 g7
          by_cases hlt : (m : Int) < 8 + (r7 : Int)
          · have d7 : decide ((m : Int) < 8 + (r7 : Int)) = true := decide_eq_true hlt
            have hm8 : m ≤ 8 := by omega
            go_wp2_with fail
            refine (specIdent n w7 (by omega)).mono ?_
            rintro e w8 ⟨A8, c8, rfl, s8, b8⟩
            have Sr8 := Lib.hid (Sr7.out.below b8 Sr7.out.lt)
            have Ss8 := Lib.hid (Ss7.out.up b8)
            have G8 : Hid (w.grownBy w8 (some g)) := Lib.hid (grown_below2 G7.out b8)
            have D8 := Lib.hid (lies_dis Ss7.out s8.lies (Nat.le_refl _))
            have hz8 := b8.size
            have Sl8 := Lib.hid (s8.mono (show wc.heap.size ≤ w7.heap.size by omega))
            clear s8 b8
            go_wp2_with (first
              | (at_builtin
                 refine wpList_app2 rfl _ _ rfl rfl (Ss8.out.alloc _) w8.heap.size A8 n c8 (idL n) rfl (by rw [World.cell?_alloc_at _ _ _ _ rfl]; rfl) (Sl8.out.alloc _) D8.out (by omega) (by simp; omega) ?_
                 intro A9 c9 w9 ss9 g9))
            have Ss9 : Hid (SS w9 wc.heap.size wc.heap.size A9 (m + 1) c9 (us ++ [(A8, n, c8)]) (xss ++ [idL n])) := Lib.hid ss9
            have Sr9 : Hid (Src w9 g) := Lib.hid ((Sr8.out.below ((Below.refl w8.heap.size w8).alloc (Nat.le_refl _) (.cells #[.slice A8 n c8] 37)) Sr8.out.lt).gro2 g9 (fun j hj => by have := (LA.out j hj).1; omega))
            have G9 : Hid (w.grownBy w9 (some g)) := Lib.hid (grown_new2 (grown_alloc2 G8.out (.cells #[.slice A8 n c8] 37)) g9 (fun j hj => by have := (LA.out j hj).1; have := G3.out.size; omega))
            have hz9 : wc.heap.size ≤ w9.heap.size := by have := g9.size; simp at this; omega
            have Ln9 : Hid (∀ i, i < m + 1 → ((us ++ [((A8, n, c8) : SV)]).getD i sd0).2.1 = n) := Lib.hid fun i hi => by
              by_cases e9 : i < m
              · rw [getD_app _ _ _ _ (by rw [Ss8.out.lv]; exact e9)]; exact Ln.out i e9
              · rw [getD_snoc _ _ _ _ (by rw [Ss8.out.lv]; omega)]
            clear ss9 g9
            go_wp2_with fail
            go_roundg (9 - (m + 1))
            case rel => exact ⟨A9, m + 1, c9, _, _, by omega, by omega, rfl, Ss9.out, Ln9.out, Sr9.out, G9.out, hz9⟩
            case measure => omega
          · have d7 : decide ((m : Int) < 8 + (r7 : Int)) = false := decide_eq_false hlt
            go_wp2_with fail
            go_ret2
            exact ⟨_, _, _, _, us, xss, rfl, by unfold B64; omega, (RX.of_ss Ss7.out (by omega) (by omega)), by omega, Ss7.out.lens_le Ln.out (by omega), Sr7.out, G7.out⟩
end Go.Proofs.YtedfcljikgmpgaaGreat

/- The shape of a contract over generators: what goes in, what comes out, what is kept. No condition. -/
namespace Go.Proofs.YtedfcljikgmpgaaGreat
open Go.RowKit

/-- Generators that can be read, not too many. -/
structure GIn (w : World) (A : Option Addr) (n : Nat) (vs : List SV) (xss : List (List Int)) : Prop where
  rr : RR w w.heap.size A n vs xss
  hn : n ≤ 1048576
  hl : ∀ i, i < n → (vs.getD i sd0).2.1 ≤ 1048576
/-- A list of numbers that can be read, not too long. -/
structure SIn (w : World) (P : Option Addr) (np cp : Nat) (p : List Int) : Prop where
  ri : RI w w.heap.size P p
  lp : p.length = np
  hn : np ≤ 1048576
  hc : np ≤ cp
def I64 (a : Int) : Prop := -9223372036854775808 ≤ a ∧ a ≤ 9223372036854775807
section
variable {w w' : World} {A P : Option Addr} {n np cp : Nat} {vs : List SV} {xss : List (List Int)} {p : List Int}
theorem GIn.up (h : GIn w A n vs xss) (hb : Below w.heap.size w w') : GIn w' A n vs xss := ⟨h.rr.up hb, h.hn, h.hl⟩
theorem SIn.up (h : SIn w P np cp p) (hb : Below w.heap.size w w') : SIn w' P np cp p := ⟨h.ri.up hb, h.lp, h.hn, h.hc⟩
end

def CtImI (F : Nat) (R : Int → List (List Int) → Int → Prop) : Prop := ∀ (a : Int) (A : Option Addr) (n c : Nat) (vs : List SV) (xss : List (List Int)) (w : World), GIn w A n vs xss → I64 a →
  Calls Tryz.prog F #[.int .i64 a, .slice A n c] w fun e w' => ∃ v, e = .returned (.int .i64 v) ∧ R a xss v ∧ Below w.heap.size w w'
def CtImB (F : Nat) (R : Int → List (List Int) → Bool → Prop) : Prop := ∀ (a : Int) (A : Option Addr) (n c : Nat) (vs : List SV) (xss : List (List Int)) (w : World), GIn w A n vs xss → I64 a →
  Calls Tryz.prog F #[.int .i64 a, .slice A n c] w fun e w' => ∃ v, e = .returned (.bool v) ∧ R a xss v ∧ Below w.heap.size w w'
def CtImS (F : Nat) (R : Int → List (List Int) → List Int → Prop) : Prop := ∀ (a : Int) (A : Option Addr) (n c : Nat) (vs : List SV) (xss : List (List Int)) (w : World), GIn w A n vs xss → I64 a →
  Calls Tryz.prog F #[.int .i64 a, .slice A n c] w fun e w' => ∃ A' m c' zs, e = .returned (.slice A' m c') ∧ Slc w' w.heap.size A' m c' zs ∧ R a xss zs ∧ Below w.heap.size w w'
def CtImM (F : Nat) (R : Int → List (List Int) → List (List Int) → Prop) : Prop := ∀ (a : Int) (A : Option Addr) (n c : Nat) (vs : List SV) (xss : List (List Int)) (w : World), GIn w A n vs xss → I64 a →
  Calls Tryz.prog F #[.int .i64 a, .slice A n c] w fun e w' => ∃ A' m c' us l, e = .returned (.slice A' m c') ∧ SS w' w.heap.size w.heap.size A' m c' us l ∧ R a xss l ∧ Below w.heap.size w w'
def CtImsI (F : Nat) (R : Int → List (List Int) → List Int → Int → Prop) : Prop := ∀ (a : Int) (A : Option Addr) (n c : Nat) (vs : List SV) (xss : List (List Int)) (P : Option Addr) (np cp : Nat) (p : List Int) (w : World), GIn w A n vs xss → SIn w P np cp p → I64 a →
  Calls Tryz.prog F #[.int .i64 a, .slice A n c, .slice P np cp] w fun e w' => ∃ v, e = .returned (.int .i64 v) ∧ R a xss p v ∧ Below w.heap.size w w'
def CtImsB (F : Nat) (R : Int → List (List Int) → List Int → Bool → Prop) : Prop := ∀ (a : Int) (A : Option Addr) (n c : Nat) (vs : List SV) (xss : List (List Int)) (P : Option Addr) (np cp : Nat) (p : List Int) (w : World), GIn w A n vs xss → SIn w P np cp p → I64 a →
  Calls Tryz.prog F #[.int .i64 a, .slice A n c, .slice P np cp] w fun e w' => ∃ v, e = .returned (.bool v) ∧ R a xss p v ∧ Below w.heap.size w w'
def CtImsP (F : Nat) (R : Int → List (List Int) → List Int → List Int → Bool → Prop) : Prop := ∀ (a : Int) (A : Option Addr) (n c : Nat) (vs : List SV) (xss : List (List Int)) (P : Option Addr) (np cp : Nat) (p : List Int) (w : World), GIn w A n vs xss → SIn w P np cp p → I64 a →
  Calls Tryz.prog F #[.int .i64 a, .slice A n c, .slice P np cp] w fun e w' => ∃ A' m c' zs ok, e = .returned (.tuple #[.slice A' m c', .bool ok]) ∧ Slc w' w.heap.size A' m c' zs ∧ R a xss p zs ok ∧ Below w.heap.size w w'
def CtImmB (F : Nat) (R : Int → List (List Int) → List (List Int) → Bool → Prop) : Prop := ∀ (a : Int) (A : Option Addr) (n c : Nat) (vs : List SV) (xss : List (List Int)) (M : Option Addr) (m cm : Nat) (us : List SV) (yss : List (List Int)) (w : World), GIn w A n vs xss → GIn w M m us yss → I64 a →
  Calls Tryz.prog F #[.int .i64 a, .slice A n c, .slice M m cm] w fun e w' => ∃ v, e = .returned (.bool v) ∧ R a xss yss v ∧ Below w.heap.size w w'
def CtImiP (F : Nat) (R : Int → List (List Int) → Int → List Int → Bool → Prop) : Prop := ∀ (a : Int) (A : Option Addr) (n c : Nat) (vs : List SV) (xss : List (List Int)) (k : Int) (w : World), GIn w A n vs xss → I64 a → I64 k →
  Calls Tryz.prog F #[.int .i64 a, .slice A n c, .int .i64 k] w fun e w' => ∃ A' m c' zs ok, e = .returned (.tuple #[.slice A' m c', .bool ok]) ∧ Slc w' w.heap.size A' m c' zs ∧ R a xss k zs ok ∧ Below w.heap.size w w'
def CtImP (F : Nat) (R : Int → List (List Int) → List Int → Bool → Prop) : Prop := ∀ (a : Int) (A : Option Addr) (n c : Nat) (vs : List SV) (xss : List (List Int)) (w : World), GIn w A n vs xss → I64 a →
  Calls Tryz.prog F #[.int .i64 a, .slice A n c] w fun e w' => ∃ A' m c' zs ok, e = .returned (.tuple #[.slice A' m c', .bool ok]) ∧ Slc w' w.heap.size A' m c' zs ∧ R a xss zs ok ∧ Below w.heap.size w w'
end Go.Proofs.YtedfcljikgmpgaaGreat

/- Plain facts: composition is associative, an inverse undoes. No Go in it. No condition. -/
namespace Go.Proofs.YtedfcljikgmpgaaGreat
open Go.RowKit

theorem nx_comp {p q : List Int} {k : Nat} (hk : k < p.length) : nx (compL p q) k = nx q (nx p k) := by
  unfold nx; rw [compL_getD hk]; rfl
theorem isP_comp {p q : List Int} (hp : IsP p) (hq : IsP q) (hl : p.length = q.length) : IsP (compL p q) := by
  have hlen := compL_length p q
  refine ⟨by rw [hlen]; exact hp.pos, by rw [hlen]; exact hp.le, fun i hi => ?_, fun i hi => ?_, fun i j hi hj e => ?_⟩
  · rw [hlen] at hi; rw [compL_getD hi]; exact hq.lo _ (by rw [← hl]; exact nx_lt hp hi)
  · rw [hlen] at hi ⊢; rw [compL_getD hi, hl]; exact hq.hi _ (by rw [← hl]; exact nx_lt hp hi)
  · rw [hlen] at hi hj
    rw [compL_getD hi, compL_getD hj] at e
    exact nx_inj hp hi hj (hq.inj _ _ (by rw [← hl]; exact nx_lt hp hi) (by rw [← hl]; exact nx_lt hp hj) e)
theorem comp_assoc {p q r : List Int} (hp : IsP p) (hl : p.length = q.length) : compL (compL p q) r = compL p (compL q r) := by
  refine ext_getD (n := p.length) ((compL_length _ _).trans (compL_length _ _)) (compL_length _ _) fun k hk => ?_
  rw [compL_getD (by rw [compL_length]; exact hk), nx_comp hk, compL_getD hk, compL_getD (by rw [← hl]; exact nx_lt hp hk)]

/-- The point before j. -/
def pre (p : List Int) (j : Nat) : Nat := it p (per p j - 1) j
theorem pre_lt {p : List Int} (hp : IsP p) {j : Nat} (hj : j < p.length) : pre p j < p.length := it_lt hp hj _
theorem nx_pre {p : List Int} (hp : IsP p) {j : Nat} (hj : j < p.length) : nx p (pre p j) = j := by
  obtain ⟨h1, _, h3, _⟩ := per_spec hp hj
  have : it p (per p j - 1 + 1) j = j := by rw [show per p j - 1 + 1 = per p j from by omega]; exact h3
  exact this
theorem invL_at {p : List Int} (hp : IsP p) : ∀ k, k ≤ p.length → ∀ i, i < k → (invL p k).getD (nx p i) 0 = (i : Int) := by
  intro k
  induction k with
  | zero => intro _ i h; omega
  | succ k ih =>
    intro hk i hi
    have hl := invL_length p k
    show ((invL p k).set (p.getD k 0).toNat (k : Int)).getD (nx p i) 0 = _
    rw [set_getD hl (nx_lt hp (by omega))]
    by_cases e : i = k
    · subst e; rw [if_pos (show (p.getD i 0).toNat = nx p i from rfl)]
    · rw [if_neg fun e2 => e (nx_inj hp (by omega) (by omega) (show nx p i = nx p k from e2.symm)), ih (by omega) i (by omega)]
theorem invL_getD {p : List Int} (hp : IsP p) {j : Nat} (hj : j < p.length) : (invL p p.length).getD j 0 = (pre p j : Int) := by
  have := invL_at hp p.length (Nat.le_refl _) (pre p j) (pre_lt hp hj)
  rw [nx_pre hp hj] at this
  exact this
theorem isP_inv {p : List Int} (hp : IsP p) : IsP (invL p p.length) := by
  have hl := invL_length p p.length
  refine ⟨by rw [hl]; exact hp.pos, by rw [hl]; exact hp.le, fun i hi => ?_, fun i hi => ?_, fun i j hi hj e => ?_⟩
  · rw [hl] at hi; rw [invL_getD hp hi]; omega
  · rw [hl] at hi ⊢; rw [invL_getD hp hi]; have := pre_lt hp hi; omega
  · rw [hl] at hi hj
    rw [invL_getD hp hi, invL_getD hp hj] at e
    rw [← nx_pre hp hi, ← nx_pre hp hj, show pre p i = pre p j from by omega]
theorem comp_inv {p : List Int} (hp : IsP p) : compL p (invL p p.length) = idL p.length := by
  refine ext_getD (compL_length _ _) (idL_length _) fun k hk => ?_
  rw [compL_getD hk, idL_getD hk, invL_at hp _ (Nat.le_refl _) k hk]
theorem inv_comp {p : List Int} (hp : IsP p) : compL (invL p p.length) p = idL p.length := by
  refine ext_getD ((compL_length _ _).trans (invL_length _ _)) (idL_length _) fun k hk => ?_
  rw [compL_getD (by rw [invL_length]; exact hk), idL_getD hk]
  have : nx (invL p p.length) k = pre p k := by unfold nx; rw [invL_getD hp hk]; omega
  rw [this, nx_val hp (pre_lt hp hk), nx_pre hp hk]

end Go.Proofs.YtedfcljikgmpgaaGreat

/- Groups of permutations and stabilizer chains: what a chain holds, when it is whole, how it grows. No Go in it. No condition. -/
namespace Go.Proofs.YtedfcljikgmpgaaGreat
open Go.RowKit

/-- A permutation of degree N. -/
def Pn (N : Nat) (p : List Int) : Prop := IsP p ∧ p.length = N
/-- It moves nothing below k. -/
def Fx (k : Nat) (p : List Int) : Prop := ∀ i, i < k → nx p i = i
def iv (p : List Int) : List Int := invL p p.length

section
variable {N k : Nat} {p q r : List Int}
theorem Pn.ext (hp : Pn N p) (hq : Pn N q) (h : ∀ x, x < N → nx p x = nx q x) : p = q :=
  ext_getD hp.2 hq.2 fun x hx => by rw [nx_val hp.1 (by rw [hp.2]; exact hx), nx_val hq.1 (by rw [hq.2]; exact hx), h x hx]
theorem Pn.lt (hp : Pn N p) {x : Nat} (hx : x < N) : nx p x < N := by have := nx_lt hp.1 (x := x) (by rw [hp.2]; exact hx); rw [hp.2] at this; exact this
theorem Pn.inj (hp : Pn N p) {x y : Nat} (hx : x < N) (hy : y < N) (e : nx p x = nx p y) : x = y := nx_inj hp.1 (by rw [hp.2]; exact hx) (by rw [hp.2]; exact hy) e
theorem Pn.pos (hp : Pn N p) : 1 ≤ N ∧ N ≤ 20 := by have h1 := hp.1.pos; have h2 := hp.1.le; rw [hp.2] at h1 h2; exact ⟨h1, h2⟩
theorem Pn.comp (hp : Pn N p) (hq : Pn N q) : Pn N (compL p q) := ⟨isP_comp hp.1 hq.1 (by rw [hp.2, hq.2]), by rw [compL_length]; exact hp.2⟩
theorem Pn.iv (hp : Pn N p) : Pn N (iv p) := ⟨isP_inv hp.1, by unfold Proofs.YtedfcljikgmpgaaGreat.iv; rw [invL_length]; exact hp.2⟩
theorem nx_id {n x : Nat} (hx : x < n) : nx (idL n) x = x := by unfold nx; rw [idL_getD hx]; rfl
theorem pn_id (h1 : 1 ≤ N) (h2 : N ≤ 20) : Pn N (idL N) := by
  refine ⟨⟨by rw [idL_length]; exact h1, by rw [idL_length]; exact h2, fun i hi => ?_, fun i hi => ?_, fun i j hi hj e => ?_⟩, idL_length N⟩
  · rw [idL_length] at hi; rw [idL_getD hi]; omega
  · rw [idL_length] at hi ⊢; rw [idL_getD hi]; omega
  · rw [idL_length] at hi hj; rw [idL_getD hi, idL_getD hj] at e; omega
theorem Pn.nxc (hp : Pn N p) {x : Nat} (hx : x < N) : nx (compL p q) x = nx q (nx p x) := nx_comp (by rw [hp.2]; exact hx)
theorem Pn.nxi (hp : Pn N p) {x : Nat} (hx : x < N) : nx (Proofs.YtedfcljikgmpgaaGreat.iv p) (nx p x) = x := by
  have h := invL_at hp.1 p.length (Nat.le_refl _) x (by rw [hp.2]; exact hx)
  show ((invL p p.length).getD (nx p x) 0).toNat = x
  rw [h]; omega
theorem Pn.nxi' (hp : Pn N p) {x : Nat} (hx : x < N) : nx p (nx (Proofs.YtedfcljikgmpgaaGreat.iv p) x) = x :=
  hp.iv.inj (hp.lt (hp.iv.lt hx)) hx (hp.nxi (hp.iv.lt hx))
theorem Pn.assoc (hp : Pn N p) (hq : Pn N q) : compL (compL p q) r = compL p (compL q r) := comp_assoc hp.1 (by rw [hp.2, hq.2])
theorem Pn.idl (hp : Pn N p) : compL (idL N) p = p :=
  ((pn_id hp.pos.1 hp.pos.2).comp hp).ext hp fun x hx => by rw [(pn_id hp.pos.1 hp.pos.2).nxc hx, nx_id hx]
theorem Pn.idr (hp : Pn N p) : compL p (idL N) = p :=
  (hp.comp (pn_id hp.pos.1 hp.pos.2)).ext hp fun x hx => by rw [hp.nxc hx, nx_id (hp.lt hx)]
theorem Pn.ci (hp : Pn N p) : compL p (Proofs.YtedfcljikgmpgaaGreat.iv p) = idL N :=
  (hp.comp hp.iv).ext (pn_id hp.pos.1 hp.pos.2) fun x hx => by rw [hp.nxc hx, hp.nxi hx, nx_id hx]
theorem Pn.ic (hp : Pn N p) : compL (Proofs.YtedfcljikgmpgaaGreat.iv p) p = idL N :=
  (hp.iv.comp hp).ext (pn_id hp.pos.1 hp.pos.2) fun x hx => by rw [hp.iv.nxc hx, hp.nxi' hx, nx_id hx]
theorem iv_id (h1 : 1 ≤ N) (h2 : N ≤ 20) : Proofs.YtedfcljikgmpgaaGreat.iv (idL N) = idL N :=
  (pn_id h1 h2).iv.ext (pn_id h1 h2) fun x hx => by
    have := (pn_id h1 h2).nxi hx
    rw [nx_id hx] at this ⊢; exact this
theorem Fx.mono {j : Nat} (h : Fx k p) (hj : j ≤ k) : Fx j p := fun i hi => h i (by omega)
theorem Fx.comp (hp : Pn N p) (h : Fx k p) (h2 : Fx k q) (hk : k ≤ N) : Fx k (compL p q) := fun i hi => by rw [hp.nxc (by omega), h i hi, h2 i hi]
theorem Fx.iv (hp : Pn N p) (h : Fx k p) (hk : k ≤ N) : Fx k (Proofs.YtedfcljikgmpgaaGreat.iv p) := fun i hi => by
  have := hp.nxi (x := i) (by omega)
  rw [h i hi] at this; exact this
theorem Fx.all (hp : Pn N p) (h : Fx N p) : p = idL N := hp.ext (pn_id hp.pos.1 hp.pos.2) fun x hx => by rw [h x hx, nx_id hx]
theorem fx_id (hk : k ≤ N) : Fx k (idL N) := fun i hi => nx_id (by omega)
theorem Fx.zero : Fx 0 p := fun _ hi => absurd hi (by omega)
theorem Fx.ge (hp : Pn N p) (h : Fx k p) (hk : k < N) : k ≤ nx p k := by
  rcases Nat.lt_or_ge (nx p k) k with hl | hl
  · have := hp.inj (x := nx p k) (y := k) (by omega) hk (h _ hl)
    omega
  · exact hl
theorem Fx.succ (h : Fx k p) (e : nx p k = k) : Fx (k + 1) p := fun i hi => by
  rcases Nat.lt_or_ge i k with hl | hl
  · exact h i hl
  · obtain rfl : i = k := by omega
    exact e
end

/-! ### what generators generate -/
inductive Mb (gs : List (List Int)) (N : Nat) : List Int → Prop
  | one : Mb gs N (idL N)
  | mul {p g : List Int} : Mb gs N p → g ∈ gs → Mb gs N (compL p g)

section
variable {gs hs : List (List Int)} {N k : Nat} {p q : List Int}
theorem Mb.pn (hg : ∀ g ∈ gs, Pn N g) (h1 : 1 ≤ N) (h2 : N ≤ 20) (h : Mb gs N p) : Pn N p := by
  induction h with
  | one => exact pn_id h1 h2
  | mul _ hm ih => exact ih.comp (hg _ hm)
theorem Mb.fx (hg : ∀ g ∈ gs, Pn N g ∧ Fx k g) (h1 : 1 ≤ N) (h2 : N ≤ 20) (hk : k ≤ N) (h : Mb gs N p) : Fx k p := by
  induction h with
  | one => exact fx_id hk
  | mul hm hg' ih => exact ih.comp (hm.pn (fun g h => (hg g h).1) h1 h2) (hg _ hg').2 hk
theorem Mb.of (hg : Pn N p) (hm : p ∈ gs) : Mb gs N p := by
  have := Mb.mul (Mb.one (gs := gs) (N := N)) hm
  rw [hg.idl] at this; exact this
theorem Mb.comp (hg : ∀ g ∈ gs, Pn N g) (h1 : 1 ≤ N) (h2 : N ≤ 20) (hp : Mb gs N p) (hq : Mb gs N q) : Mb gs N (compL p q) := by
  induction hq with
  | one => rw [(hp.pn hg h1 h2).idr]; exact hp
  | mul hq' hm ih =>
    rw [← (hp.pn hg h1 h2).assoc (hq'.pn hg h1 h2)]
    exact .mul ih hm
/-- Whatever lies in a set closed under products lies there. -/
theorem Mb.sub (hs1 : 1 ≤ N) (hs2 : N ≤ 20) (hg : ∀ g ∈ hs, Pn N g) (h : ∀ g ∈ gs, Mb hs N g) (hp : Mb gs N p) : Mb hs N p := by
  induction hp with
  | one => exact .one
  | mul _ hm ih => exact ih.comp hg hs1 hs2 (h _ hm)
def pw (N : Nat) (p : List Int) : Nat → List Int
  | 0 => idL N
  | k + 1 => compL (pw N p k) p
theorem pw_pn (hp : Pn N p) : ∀ k, Pn N (pw N p k)
  | 0 => pn_id hp.pos.1 hp.pos.2
  | k + 1 => (pw_pn hp k).comp hp
theorem pw_nx (hp : Pn N p) {x : Nat} (hx : x < N) : ∀ k, nx (pw N p k) x = it p k x
  | 0 => nx_id hx
  | k + 1 => by
    show nx (compL (pw N p k) p) x = nx p (it p k x)
    rw [(pw_pn hp k).nxc hx, pw_nx hp hx k]
theorem ord_pos (hp : Pn N p) : 1 ≤ ordL p := by
  refine (lcmL_pos fun a ha => ?_).1
  obtain ⟨x, hx, rfl⟩ := List.mem_map.1 ha
  have h := per_spec hp.1 (List.mem_range.1 hx)
  have := hp.1.le
  exact ⟨h.1, by have := h.2.1; omega⟩
theorem iv_pw (hp : Pn N p) : iv p = pw N p (ordL p - 1) := by
  refine hp.iv.ext (pw_pn hp _) fun x hx => ?_
  have e : nx p (nx (pw N p (ordL p - 1)) x) = x := by
    rw [pw_nx hp hx]
    show it p (ordL p - 1 + 1) x = x
    rw [Nat.sub_add_cancel (ord_pos hp)]
    refine (it_eq_iff hp.1 (by rw [hp.2]; exact hx) _).2 (Nat.mod_eq_zero_of_dvd ?_)
    exact dvd_lcmL (List.mem_map.2 ⟨x, List.mem_range.2 (by rw [hp.2]; exact hx), rfl⟩)
  have := hp.nxi ((pw_pn hp (ordL p - 1)).lt hx)
  rw [e] at this; exact this
theorem Mb.inv (hg : ∀ g ∈ gs, Pn N g) (h1 : 1 ≤ N) (h2 : N ≤ 20) (hp : Mb gs N p) : Mb gs N (iv p) := by
  rw [iv_pw (hp.pn hg h1 h2)]
  have : ∀ k, Mb gs N (pw N p k) := fun k => by
    induction k with
    | zero => exact .one
    | succ k ih => exact ih.comp hg h1 h2 hp
  exact this _
theorem Mb.none_ (h : Mb [] N p) : p = idL N := by
  cases h with
  | one => rfl
  | mul _ hm => cases hm
theorem Mb.more (h : Mb gs N p) (hsub : ∀ g ∈ gs, g ∈ hs) : Mb hs N p := by
  induction h with
  | one => exact .one
  | mul _ hm ih => exact .mul ih (hsub _ hm)
end
end Go.Proofs.YtedfcljikgmpgaaGreat

/- Stabilizer chains: when a chain is whole from a level on, what one insertion asks of it and leaves. No Go in it. No condition. -/
namespace Go.Proofs.YtedfcljikgmpgaaGreat
open Go.RowKit

/-- Representatives by level and point ([] where there is none), generators by level. -/
structure Ch where
  rep : Nat → Nat → List Int
  gen : Nat → List (List Int)

/-- p is divided away by representatives from level i on. -/
inductive Sv (N : Nat) (c : Ch) : Nat → List Int → Prop
  | top : Sv N c N (idL N)
  | low {i : Nat} {p : List Int} : i < N → Pn N p → Fx i p → c.rep i (nx p i) ≠ [] → Sv N c (i + 1) (compL p (iv (c.rep i (nx p i)))) → Sv N c i p

section
variable {N k i : Nat} {c c' : Ch} {p q : List Int}
theorem Sv.inv_low (h : Sv N c i p) (hi : i < N) : Pn N p ∧ Fx i p ∧ c.rep i (nx p i) ≠ [] ∧ Sv N c (i + 1) (compL p (iv (c.rep i (nx p i)))) := by
  cases h with
  | top => omega
  | low _ a b d e => exact ⟨a, b, d, e⟩
theorem Sv.inv_top (h : Sv N c N p) : p = idL N := by
  cases h with
  | top => rfl
  | low h _ _ _ _ => omega
theorem Sv.le (h : Sv N c i p) : i ≤ N := by cases h <;> omega
/-- It asks only for the representatives at its level and above. -/
theorem Sv.congr (h : Sv N c i p) (e : ∀ j, i ≤ j → ∀ y, c'.rep j y = c.rep j y) : Sv N c' i p := by
  induction h with
  | top => exact .top
  | low hi a b d _ ih =>
    refine .low hi a b (by rw [e _ (Nat.le_refl _)]; exact d) ?_
    rw [e _ (Nat.le_refl _)]
    exact ih fun j hj => e j (by omega)

theorem sv_back {j : Nat} (h : Sv N c i p) (hj : j ≤ i) (e : ∀ t y, j ≤ t → t < N → y < N → c'.rep t y = c.rep t y) : Sv N c' i p := by
  induction h with
  | top => exact .top
  | @low i p hi a b d _ ih =>
    have e2 := e i (nx p i) hj hi (a.lt hi)
    refine .low hi a b (by rw [e2]; exact d) ?_
    rw [e2]
    exact ih (by omega)

/-- The representatives of a level. -/
structure RepOK (N : Nat) (c : Ch) (k : Nat) : Prop where
  at_ : ∀ y, c.rep k y ≠ [] → y < N ∧ Pn N (c.rep k y) ∧ Fx k (c.rep k y) ∧ nx (c.rep k y) k = y
  one : c.rep k k = idL N
def GenOK (N : Nat) (c : Ch) (k : Nat) : Prop := ∀ g ∈ c.gen k, Pn N g ∧ Fx k g
/-- How many representatives there are from a level on. -/
def cnt (N : Nat) (c : Ch) (k : Nat) : Nat := (List.range (N * N)).countP fun t => decide (k ≤ t / N) && !(c.rep (t / N) (t % N)).isEmpty

/-- The chain is whole from level k on. -/
structure UpTo (N : Nat) (c : Ch) (k : Nat) : Prop where
  rep : ∀ i, k ≤ i → i < N → RepOK N c i
  gp : ∀ i, k ≤ i → i < N → GenOK N c i
  sv : ∀ i, k ≤ i → i ≤ N → ∀ p, Sv N c i p ↔ Mb (c.gen i) N p
  len : ∀ i, k ≤ i → i < N → (c.gen i).length ≤ cnt N c i
  top : c.gen N = []
/-- The chain grew from level k on. -/
structure Grw (k : Nat) (c c' : Ch) : Prop where
  keep : ∀ i y, c.rep i y ≠ [] → c'.rep i y = c.rep i y
  rep : ∀ i y, i < k → c'.rep i y = c.rep i y
  gen : ∀ i, i < k → c'.gen i = c.gen i
theorem Grw.refl (k : Nat) (c : Ch) : Grw k c c := ⟨fun _ _ _ => rfl, fun _ _ _ => rfl, fun _ _ => rfl⟩
theorem Grw.trans {d : Ch} (h : Grw k c c') (h2 : Grw k c' d) : Grw k c d :=
  ⟨fun i y e => by rw [h2.keep i y (by rw [h.keep i y e]; exact e), h.keep i y e], fun i y hi => by rw [h2.rep i y hi, h.rep i y hi], fun i hi => by rw [h2.gen i hi, h.gen i hi]⟩
theorem Grw.mono {j : Nat} (h : Grw k c c') (hj : j ≤ k) : Grw j c c' := ⟨h.keep, fun i y hi => h.rep i y (by omega), fun i hi => h.gen i (by omega)⟩

/-- The state in which products are added at level k. -/
structure Low (N : Nat) (c : Ch) (k : Nat) : Prop where
  up : UpTo N c (k + 1)
  rep : RepOK N c k
  gp : GenOK N c k
  sub : ∀ p, Mb (c.gen (k + 1)) N p → Mb (c.gen k) N p
  inn : ∀ y, c.rep k y ≠ [] → Mb (c.gen k) N (c.rep k y)

theorem UpTo.pn (h : UpTo N c k) (hi : k ≤ i) (hN : i ≤ N) : ∀ g ∈ c.gen i, Pn N g := fun g hg => by
  rcases Nat.lt_or_ge i N with hl | hl
  · exact (h.gp i hi hl g hg).1
  · obtain rfl : i = N := by omega
    rw [h.top] at hg; cases hg
theorem UpTo.mono {j : Nat} (h : UpTo N c k) (hj : k ≤ j) : UpTo N c j :=
  ⟨fun i hi => h.rep i (by omega), fun i hi => h.gp i (by omega), fun i hi => h.sv i (by omega), fun i hi => h.len i (by omega), h.top⟩
theorem cnt_congr (e : ∀ j, k ≤ j → ∀ y, c'.rep j y = c.rep j y) : cnt N c' k = cnt N c k := by
  unfold cnt
  refine List.countP_congr fun t _ => ?_
  by_cases h : k ≤ t / N
  · rw [e _ h]
  · simp [h]
theorem UpTo.congr (h : UpTo N c k) (e : ∀ j, k ≤ j → ∀ y, c'.rep j y = c.rep j y) (g : ∀ j, k ≤ j → c'.gen j = c.gen j) (hk : k ≤ N) : UpTo N c' k := by
  refine ⟨fun i hi hN => ⟨fun y hy => ?_, ?_⟩, fun i hi hN => ?_, fun i hi hN p => ?_, fun i hi hN => ?_, ?_⟩
  · rw [e i hi] at hy ⊢; exact (h.rep i hi hN).at_ y hy
  · rw [e i hi]; exact (h.rep i hi hN).one
  · intro x hx; rw [g i hi] at hx; exact h.gp i hi hN x hx
  · rw [g i hi]
    exact ⟨fun hs => (h.sv i hi hN p).1 (hs.congr fun j hj y => (e j (by omega) y).symm), fun hm => ((h.sv i hi hN p).2 hm).congr fun j hj y => e j (by omega) y⟩
  · rw [g i hi, cnt_congr fun j hj => e j (by omega)]; exact h.len i hi hN
  · rw [g N hk]; exact h.top
theorem cnt_le (N : Nat) (c : Ch) (k : Nat) : cnt N c k ≤ N * N := by
  have := List.countP_le_length (p := fun t => decide (k ≤ t / N) && !(c.rep (t / N) (t % N)).isEmpty) (l := List.range (N * N))
  rw [List.length_range] at this; exact this
theorem cnt_mono (h : Grw k c c') (i : Nat) : cnt N c i ≤ cnt N c' i := by
  refine List.countP_mono_left fun t _ ht => ?_
  rw [Bool.and_eq_true, decide_eq_true_eq, Bool.not_eq_true', List.isEmpty_eq_false_iff] at ht ⊢
  exact ⟨ht.1, by rw [h.keep _ _ ht.2]; exact ht.2⟩
theorem countP_lt {l : List Nat} {f g : Nat → Bool} (h : ∀ t, f t = true → g t = true) {x : Nat} (hx : x ∈ l) (h1 : f x = false) (h2 : g x = true) : l.countP f < l.countP g := by
  induction l with
  | nil => cases hx
  | cons a t ih =>
    have hm : t.countP f ≤ t.countP g := List.countP_mono_left fun y _ => h y
    rw [List.countP_cons, List.countP_cons]
    rcases List.mem_cons.1 hx with rfl | hx
    · rw [h1, h2]; simp; omega
    · have := ih hx
      rcases ha : f a with _ | _
      · simp; split <;> omega
      · rw [h a ha]; simp; omega
/-- No more representatives: nothing has changed. -/
theorem cnt_same (h : Grw k c c') (e : cnt N c' i ≤ cnt N c i) {j y : Nat} (hj : i ≤ j) (hj2 : j < N) (hy : y < N) : c'.rep j y = c.rep j y := by
  by_cases hc : c.rep j y = []
  · by_cases hc' : c'.rep j y = []
    · rw [hc, hc']
    · exfalso
      have hlt : cnt N c i < cnt N c' i := by
        have hd : (j * N + y) / N = j := by
          rw [Nat.mul_comm, Nat.mul_add_div (by omega), Nat.div_eq_of_lt hy]; rfl
        have hm : (j * N + y) % N = y := by
          rw [Nat.mul_comm, Nat.mul_add_mod, Nat.mod_eq_of_lt hy]
        refine countP_lt (x := j * N + y) (fun t ht => ?_) ?_ ?_ ?_
        · rw [Bool.and_eq_true, decide_eq_true_eq, Bool.not_eq_true', List.isEmpty_eq_false_iff] at ht ⊢
          exact ⟨ht.1, by rw [h.keep _ _ ht.2]; exact ht.2⟩
        · rw [List.mem_range]
          have : (j + 1) * N ≤ N * N := Nat.mul_le_mul_right N (by omega)
          rw [Nat.add_mul] at this; omega
        · rw [hd, hm, hc]; simp
        · rw [hd, hm]; simp [hj, hc']
      omega
  · exact h.keep j y hc

/-- One level down: what fixes one point more. -/
theorem sv_down (h : RepOK N c k) (hk : k < N) (hp : Pn N p) (hf : Fx k p) (e : nx p k = k) : Sv N c k p ↔ Sv N c (k + 1) p := by
  have h1 := hp.pos
  constructor
  · intro hs
    have := (hs.inv_low hk).2.2.2
    rw [e, h.one, iv_id h1.1 h1.2, hp.idr] at this
    exact this
  · intro hs
    refine .low hk hp hf ?_ ?_
    · rw [e, h.one]; intro e2; have := idL_length N; rw [e2] at this; simp at this; omega
    · rw [e, h.one, iv_id h1.1 h1.2, hp.idr]; exact hs
theorem Low.mono_sv (h : Low N c k) (h' : Low N c' k) (g : Grw k c c') (hk : k < N) (hm : ∀ p, Mb (c.gen (k + 1)) N p → Mb (c'.gen (k + 1)) N p) (hs : Sv N c k p) : Sv N c' k p := by
  obtain ⟨a, b, d, e⟩ := hs.inv_low hk
  refine .low hk a b (by rw [g.keep _ _ d]; exact d) ?_
  rw [g.keep _ _ d]
  exact (h'.up.sv (k + 1) (Nat.le_refl _) hk _).2 (hm _ ((h.up.sv (k + 1) (Nat.le_refl _) hk _).1 e))
theorem Low.rep_sv (h : Low N c k) (hk : k < N) {y : Nat} (hy : c.rep k y ≠ []) : Sv N c k (c.rep k y) := by
  obtain ⟨h1, h2, h3, h4⟩ := h.rep.at_ y hy
  refine .low hk h2 h3 (by rw [h4]; exact hy) ?_
  rw [h4, h2.ci]
  exact (h.up.sv (k + 1) (Nat.le_refl _) hk _).2 .one
theorem Low.pn (h : Low N c k) : ∀ g ∈ c.gen k, Pn N g := fun g hg => (h.gp g hg).1
/-- Where every representative times every generator is divided away, the level is whole. -/
theorem Low.whole (h : Low N c k) (hk : k < N) (h1 : 1 ≤ N) (h2 : N ≤ 20) (hc : ∀ y, c.rep k y ≠ [] → ∀ g ∈ c.gen k, Sv N c k (compL (c.rep k y) g)) (hlen : (c.gen k).length ≤ cnt N c k) : UpTo N c k := by
  have hsv : ∀ p, Sv N c k p ↔ Mb (c.gen k) N p := fun p => by
    constructor
    · intro hs
      obtain ⟨a, b, d, e⟩ := hs.inv_low hk
      have e2 := h.sub _ ((h.up.sv (k + 1) (Nat.le_refl _) hk _).1 e)
      have hr := (h.rep.at_ _ d).2.1
      have := e2.comp h.pn h1 h2 (h.inn _ d)
      rw [a.assoc hr.iv, hr.ic, a.idr] at this
      exact this
    · intro hm
      induction hm with
      | one =>
        have hid : nx (idL N) k = k := nx_id hk
        exact (sv_down h.rep hk (pn_id h1 h2) (fx_id (by omega)) hid).2 ((h.up.sv (k + 1) (Nat.le_refl _) hk _).2 .one)
      | @mul p g hm hg ih =>
        obtain ⟨a, b, d, e⟩ := ih.inv_low hk
        obtain ⟨hyN, hr, hrf, hrk⟩ := h.rep.at_ _ d
        obtain ⟨r, er⟩ : ∃ r, c.rep k (nx p k) = r := ⟨_, rfl⟩
        rw [er] at d e hr hrf hrk
        have hs := hc (nx p k) (by rw [er]; exact d) g hg
        rw [er] at hs
        obtain ⟨a', b', d', e'⟩ := hs.inv_low hk
        have hgP := h.gp g hg
        have hpg : nx (compL p g) k = nx (compL r g) k := by rw [a.nxc hk, hr.nxc hk, hrk]
        have hr' := (h.rep.at_ _ d').2.1
        refine .low hk (a.comp hgP.1) (b.comp a hgP.2 (by omega)) (by rw [hpg]; exact d') ?_
        rw [hpg]
        have m1 := (h.up.sv (k + 1) (Nat.le_refl _) hk _).1 e
        have m2 := (h.up.sv (k + 1) (Nat.le_refl _) hk _).1 e'
        have m3 := m1.comp (h.up.pn (Nat.le_refl _) hk) h1 h2 m2
        refine (h.up.sv (k + 1) (Nat.le_refl _) hk _).2 ?_
        rw [← (a.comp hr.iv).assoc (hr.comp hgP.1), ← (a.comp hr.iv).assoc hr, a.assoc hr.iv, hr.ic, a.idr] at m3
        exact m3
  refine ⟨fun i hi hN => ?_, fun i hi hN => ?_, fun i hi hN => ?_, fun i hi hN => ?_, h.up.top⟩
  · rcases Nat.lt_or_ge k i with hl | hl
    · exact h.up.rep i hl hN
    · obtain rfl : i = k := by omega
      exact h.rep
  · rcases Nat.lt_or_ge k i with hl | hl
    · exact h.up.gp i hl hN
    · obtain rfl : i = k := by omega
      exact h.gp
  · rcases Nat.lt_or_ge k i with hl | hl
    · exact h.up.sv i hl hN
    · obtain rfl : i = k := by omega
      exact hsv
  · rcases Nat.lt_or_ge k i with hl | hl
    · exact h.up.len i hl hN
    · obtain rfl : i = k := by omega
      exact hlen
/-- A whole level is one in which products may be added. -/
theorem UpTo.low (h : UpTo N c k) (hk : k < N) (h1 : 1 ≤ N) (h2 : N ≤ 20) : Low N c k := by
  have hr := h.rep k (Nat.le_refl _) hk
  have hg := h.gp k (Nat.le_refl _) hk
  have hu := h.mono (Nat.le_succ k)
  refine ⟨hu, hr, hg, fun p hm => ?_, fun y hy => ?_⟩
  · have hpn := hm.pn (hu.pn (Nat.le_refl _) hk) h1 h2
    have hfx : Fx (k + 1) p := by
      rcases Nat.lt_or_ge (k + 1) N with hl | hl
      · exact hm.fx (h.gp (k + 1) (by omega) hl) h1 h2 hk
      · obtain rfl : k + 1 = N := by omega
        rw [h.top] at hm
        rw [hm.none_]; exact fx_id (Nat.le_refl _)
    refine (h.sv k (Nat.le_refl _) (by omega) p).1 ((sv_down hr hk hpn (hfx.mono (by omega)) (hfx k (by omega))).2 ((h.sv (k + 1) (by omega) hk p).2 hm))
  · obtain ⟨a1, a2, a3, a4⟩ := hr.at_ y hy
    refine (h.sv k (Nat.le_refl _) (by omega) _).1 (.low hk a2 a3 (by rw [a4]; exact hy) ?_)
    rw [a4, a2.ci]
    exact (h.sv (k + 1) (by omega) hk _).2 .one

def Ch.set (c : Ch) (k y : Nat) (q : List Int) : Ch := ⟨fun i z => if i = k ∧ z = y then q else c.rep i z, c.gen⟩
def Ch.push (c : Ch) (k : Nat) (p : List Int) : Ch := ⟨c.rep, fun i => if i = k then c.gen k ++ [p] else c.gen i⟩
theorem set_at (c : Ch) (k y : Nat) (q : List Int) : (c.set k y q).rep k y = q := if_pos ⟨rfl, rfl⟩
theorem set_ne {j z y : Nat} (h : j ≠ k ∨ z ≠ y) : (c.set k y q).rep j z = c.rep j z := if_neg (by rintro ⟨rfl, rfl⟩; rcases h with h | h <;> exact h rfl)
theorem push_at (c : Ch) (k : Nat) (p : List Int) : (c.push k p).gen k = c.gen k ++ [p] := if_pos rfl
theorem push_ne {j : Nat} (h : j ≠ k) : (c.push k p).gen j = c.gen j := if_neg h

/-- What adding a product leaves. -/
structure Bp (N k : Nat) (c c' : Ch) (q : List Int) : Prop where
  low : Low N c' k
  grw : Grw k c c'
  gen : c'.gen k = c.gen k
  sv : Sv N c' k q
  mono : ∀ p, Sv N c k p → Sv N c' k p
  new_ : ∀ y, c.rep k y = [] → c'.rep k y ≠ [] → ∀ g ∈ c.gen k, Sv N c' k (compL (c'.rep k y) g)
/-- What adding a generator leaves. -/
structure Ap (N k : Nat) (c c' : Ch) (p : List Int) : Prop where
  up : UpTo N c' k
  grw : Grw k c c'
  gen : ∀ q, Mb (c'.gen k) N q ↔ Mb (c.gen k ++ [p]) N q

/-- The rest that goes one level down. -/
theorem Low.rest (h : Low N c k) (hk : k < N) (h1 : 1 ≤ N) (h2 : N ≤ 20) (hq : Mb (c.gen k) N q) (hr : c.rep k (nx q k) ≠ []) : Pn N (compL q (iv (c.rep k (nx q k)))) ∧ Fx (k + 1) (compL q (iv (c.rep k (nx q k)))) := by
  obtain ⟨a1, a2, a3, a4⟩ := h.rep.at_ _ hr
  have hp := hq.pn h.pn h1 h2
  have hf := hq.fx h.gp h1 h2 (by omega)
  refine ⟨hp.comp a2.iv, (hf.comp hp (a3.iv a2 (by omega)) (by omega)).succ ?_⟩
  rw [hp.nxc hk]
  have := a2.nxi hk
  rw [a4] at this
  exact this
theorem Bp.old (h : Low N c k) (hk : k < N) (h1 : 1 ≤ N) (h2 : N ≤ 20) (hq : Mb (c.gen k) N q) (hr : c.rep k (nx q k) ≠ []) (ha : Ap N (k + 1) c c' (compL q (iv (c.rep k (nx q k))))) : Bp N k c c' q := by
  have er : ∀ y, c'.rep k y = c.rep k y := fun y => ha.grw.rep k y (by omega)
  have eg : c'.gen k = c.gen k := ha.grw.gen k (by omega)
  obtain ⟨a1, a2, a3, a4⟩ := h.rep.at_ _ hr
  have hp := hq.pn h.pn h1 h2
  have hf := hq.fx h.gp h1 h2 (by omega)
  have hm : Mb (c.gen k) N (compL q (iv (c.rep k (nx q k)))) := hq.comp h.pn h1 h2 ((h.inn _ hr).inv h.pn h1 h2)
  have hl : Low N c' k := by
    refine ⟨ha.up, ⟨fun y hy => by rw [er] at hy ⊢; exact h.rep.at_ y hy, by rw [er]; exact h.rep.one⟩, fun g hg => h.gp g (by rw [← eg]; exact hg), fun p hp => ?_, fun y hy => by rw [er] at hy ⊢; rw [eg]; exact h.inn y hy⟩
    rw [eg]
    refine ((ha.gen p).1 hp).sub h1 h2 h.pn fun g hg => ?_
    rcases List.mem_append.1 hg with hg | hg
    · exact h.sub _ (.of (h.up.pn (Nat.le_refl _) hk g hg) hg)
    · obtain rfl := List.mem_singleton.1 hg
      exact hm
  have hmono : ∀ p, Mb (c.gen (k + 1)) N p → Mb (c'.gen (k + 1)) N p := fun p hp => (ha.gen p).2 (hp.more fun g hg => List.mem_append_left _ hg)
  refine ⟨hl, ha.grw.mono (by omega), eg, .low hk hp hf (by rw [er]; exact hr) ?_, fun p hs => h.mono_sv hl (ha.grw.mono (by omega)) hk hmono hs, fun y hy hy' => absurd (by rw [er]; exact hy) hy'⟩
  rw [er]
  refine (ha.up.sv (k + 1) (Nat.le_refl _) hk _).2 ((ha.gen _).2 (.of (h.rest hk h1 h2 hq hr).1 (by simp)))
theorem Low.put (h : Low N c k) (hk : k < N) (h1 : 1 ≤ N) (h2 : N ≤ 20) (hq : Mb (c.gen k) N q) (hr : c.rep k (nx q k) = []) : Low N (c.set k (nx q k) q) k ∧ Grw k c (c.set k (nx q k) q) := by
  have hp := hq.pn h.pn h1 h2
  have hf := hq.fx h.gp h1 h2 (by omega)
  refine ⟨⟨h.up.congr (fun j hj y => set_ne (.inl (by omega))) (fun j _ => rfl) hk, ⟨fun y hy => ?_, ?_⟩, h.gp, h.sub, fun y hy => ?_⟩, ⟨fun i y hy => ?_, fun i y hi => set_ne (.inl (by omega)), fun i _ => rfl⟩⟩
  · by_cases e : y = nx q k
    · subst e; rw [set_at]; exact ⟨hp.lt hk, hp, hf, rfl⟩
    · rw [set_ne (.inr e)] at hy ⊢; exact h.rep.at_ y hy
  · rw [set_ne]; · exact h.rep.one
    · right; intro e
      rw [← e, h.rep.one] at hr
      have := idL_length N; rw [hr] at this; simp at this; omega
  · by_cases e : y = nx q k
    · subst e; rw [set_at]; exact hq
    · rw [set_ne (.inr e)] at hy ⊢; exact h.inn y hy
  · by_cases e : i = k ∧ y = nx q k
    · obtain ⟨rfl, rfl⟩ := e; exact absurd hr hy
    · exact if_neg e
/-- The loop over the generators behind a new representative. -/
structure Bl (N k : Nat) (c1 cj : Ch) (q : List Int) (j : Nat) : Prop where
  low : Low N cj k
  grw : Grw k c1 cj
  gen : cj.gen k = c1.gen k
  mono : ∀ p, Sv N c1 k p → Sv N cj k p
  new_ : ∀ y, c1.rep k y = [] → cj.rep k y ≠ [] → ∀ g ∈ c1.gen k, Sv N cj k (compL (cj.rep k y) g)
  done : ∀ t, t < j → Sv N cj k (compL q ((c1.gen k).getD t []))
theorem Bl.start (h : Low N c k) : Bl N k c c q 0 := ⟨h, .refl _ _, rfl, fun _ h => h, fun y a b => absurd a b, fun t ht => absurd ht (by omega)⟩
theorem Bl.next {c1 cj : Ch} {j : Nat} (h : Bl N k c1 cj q j) (hb : Bp N k cj c' (compL q ((c1.gen k).getD j []))) : Bl N k c1 c' q (j + 1) := by
  refine ⟨hb.low, h.grw.trans hb.grw, by rw [hb.gen, h.gen], fun p hs => hb.mono _ (h.mono _ hs), fun y hy hy' g hg => ?_, fun t ht => ?_⟩
  · by_cases e : cj.rep k y = []
    · exact hb.new_ y e hy' g (by rw [h.gen]; exact hg)
    · rw [hb.grw.keep _ _ e]
      exact hb.mono _ (h.new_ y hy e g hg)
  · rcases Nat.lt_or_ge t j with hl | hl
    · exact hb.mono _ (h.done t hl)
    · obtain rfl : t = j := by omega
      exact hb.sv
theorem mem_at {l : List (List Int)} {g : List Int} (h : g ∈ l) : ∃ t, t < l.length ∧ l.getD t [] = g := by
  obtain ⟨t, ht, e⟩ := List.mem_iff_getElem.1 h
  exact ⟨t, ht, by rw [List.getD_eq_getElem?_getD, List.getElem?_eq_getElem ht, ← e]; rfl⟩
theorem Bl.all {cj : Ch} (h : Low N c k) (hk : k < N) (h1 : 1 ≤ N) (h2 : N ≤ 20) (hq : Mb (c.gen k) N q) (hr : c.rep k (nx q k) = []) (hb : Bl N k (c.set k (nx q k) q) cj q (c.gen k).length) : Bp N k c cj q := by
  obtain ⟨l1, g1⟩ := h.put hk h1 h2 hq hr
  have hp := hq.pn h.pn h1 h2
  have hne : q ≠ [] := by intro e; have := hp.2; rw [e] at this; simp at this; omega
  have e0 : cj.rep k (nx q k) = q := by rw [hb.grw.keep _ _ (by rw [set_at]; exact hne), set_at]
  refine ⟨hb.low, g1.trans hb.grw, hb.gen, ?_, fun p hs => hb.mono _ (h.mono_sv l1 g1 hk (fun _ h => h) hs), fun y hy hy' g hg => ?_⟩
  · have := hb.low.rep_sv hk (y := nx q k) (by rw [e0]; exact hne)
    rw [e0] at this; exact this
  · by_cases e : y = nx q k
    · subst e
      rw [e0]
      obtain ⟨t, ht, rfl⟩ := mem_at hg
      exact hb.done t ht
    · exact hb.new_ y (by rw [set_ne (.inr e)]; exact hy) hy' g hg

/-! ### adding a generator -/
theorem Ap.same (h : UpTo N c k) (hkN : k ≤ N) (h1 : 1 ≤ N) (h2 : N ≤ 20) (hs : Sv N c k p) : Ap N k c c p := by
  have hp := (h.sv k (Nat.le_refl _) hkN p).1 hs
  refine ⟨h, .refl _ _, fun q => ⟨fun hq => hq.more fun g hg => List.mem_append_left _ hg, fun hq => hq.sub h1 h2 (h.pn (Nat.le_refl _) hkN) fun g hg => ?_⟩⟩
  rcases List.mem_append.1 hg with hg | hg
  · exact .of (h.pn (Nat.le_refl _) hkN g hg) hg
  · obtain rfl := List.mem_singleton.1 hg
    exact hp
/-- At the top there is nothing to add. -/
theorem Ap.top (h : UpTo N c N) (h1 : 1 ≤ N) (h2 : N ≤ 20) (hp : Pn N p) (hf : Fx N p) : Ap N N c c p := by
  refine .same h (Nat.le_refl _) h1 h2 ?_
  rw [hf.all hp]; exact .top
theorem UpTo.pushed (h : UpTo N c k) (hk : k < N) (h1 : 1 ≤ N) (h2 : N ≤ 20) (hp : Pn N p) (hf : Fx k p) : Low N (c.push k p) k := by
  have hl := h.low hk h1 h2
  refine ⟨hl.up.congr (fun _ _ _ => rfl) (fun j hj => push_ne (by omega)) hk, ⟨hl.rep.at_, hl.rep.one⟩, fun g hg => ?_, fun q hq => ?_, fun y hy => ?_⟩
  · rw [push_at] at hg
    rcases List.mem_append.1 hg with hg | hg
    · exact hl.gp g hg
    · obtain rfl := List.mem_singleton.1 hg
      exact ⟨hp, hf⟩
  · rw [push_ne (by omega)] at hq
    rw [push_at]
    exact (hl.sub _ hq).more fun g hg => List.mem_append_left _ hg
  · rw [push_at]
    exact (hl.inn _ hy).more fun g hg => List.mem_append_left _ hg
/-- The representatives of level k among the first m points, in order. -/
def knL (c : Ch) (k m : Nat) : List (List Int) := ((List.range m).filter fun y => !(c.rep k y).isEmpty).map (c.rep k)
theorem knL_mem {m : Nat} {r : List Int} : r ∈ knL c k m ↔ ∃ y, y < m ∧ c.rep k y ≠ [] ∧ c.rep k y = r := by
  simp only [knL, List.mem_map, List.mem_filter, List.mem_range, Bool.not_eq_true', List.isEmpty_eq_false_iff, and_assoc]
theorem knL_yes {m : Nat} (h : c.rep k m ≠ []) : knL c k (m + 1) = knL c k m ++ [c.rep k m] := by
  unfold knL; rw [List.range_succ, List.filter_append]; simp [List.isEmpty_eq_false_iff.2 h]
theorem knL_no {m : Nat} (h : c.rep k m = []) : knL c k (m + 1) = knL c k m := by
  unfold knL; rw [List.range_succ, List.filter_append]; simp [h]
theorem knL_len (m : Nat) : (knL c k m).length ≤ m := by
  unfold knL; rw [List.length_map]
  have := List.length_filter_le (fun y => !(c.rep k y).isEmpty) (List.range m)
  simpa using this
/-- The loop over the known representatives. -/
structure Al (N k : Nat) (c1 cj : Ch) (p : List Int) (j : Nat) : Prop where
  low : Low N cj k
  grw : Grw k c1 cj
  gen : cj.gen k = c1.gen k
  mono : ∀ p, Sv N c1 k p → Sv N cj k p
  new_ : ∀ y, c1.rep k y = [] → cj.rep k y ≠ [] → ∀ g ∈ c1.gen k, Sv N cj k (compL (cj.rep k y) g)
  done : ∀ t, t < j → Sv N cj k (compL ((knL c1 k N).getD t []) p)
theorem Al.start (h : Low N c k) : Al N k c c p 0 := ⟨h, .refl _ _, rfl, fun _ h => h, fun y a b => absurd a b, fun t ht => absurd ht (by omega)⟩
theorem Al.next {c1 cj : Ch} {j : Nat} (h : Al N k c1 cj p j) (hb : Bp N k cj c' (compL ((knL c1 k N).getD j []) p)) : Al N k c1 c' p (j + 1) := by
  refine ⟨hb.low, h.grw.trans hb.grw, by rw [hb.gen, h.gen], fun p hs => hb.mono _ (h.mono _ hs), fun y hy hy' g hg => ?_, fun t ht => ?_⟩
  · by_cases e : cj.rep k y = []
    · exact hb.new_ y e hy' g (by rw [h.gen]; exact hg)
    · rw [hb.grw.keep _ _ e]
      exact hb.mono _ (h.new_ y hy e g hg)
  · rcases Nat.lt_or_ge t j with hl | hl
    · exact hb.mono _ (h.done t hl)
    · obtain rfl : t = j := by omega
      exact hb.sv
/-- The products that the loop adds are of the level. -/
theorem kn_mb (h : Low N c k) {j : Nat} (hj : j < (knL c k N).length) (hp : p ∈ c.gen k) : Mb (c.gen k) N (compL ((knL c k N).getD j []) p) ∧ Pn N ((knL c k N).getD j []) := by
  have hm : (knL c k N).getD j [] ∈ knL c k N := by
    rw [List.getD_eq_getElem?_getD, List.getElem?_eq_getElem hj]; exact List.getElem_mem _
  obtain ⟨y, _, hy, e⟩ := knL_mem.1 hm
  rw [← e]
  exact ⟨.mul (h.inn y hy) hp, (h.rep.at_ y hy).2.1⟩
theorem Al.all {cj : Ch} (h : UpTo N c k) (hk : k < N) (h1 : 1 ≤ N) (h2 : N ≤ 20) (hp : Pn N p) (hf : Fx k p) (hs : ¬ Sv N c k p) (hb : Al N k (c.push k p) cj p (knL (c.push k p) k N).length) : Ap N k c cj p := by
  have hl := h.low hk h1 h2
  have hg1 : cj.gen k = c.gen k ++ [p] := by rw [hb.gen, push_at]
  have g0 : Grw k c (c.push k p) := ⟨fun _ _ _ => rfl, fun _ _ _ => rfl, fun i hi => push_ne (by omega)⟩
  have hG := g0.trans hb.grw
  have hclose : ∀ y, cj.rep k y ≠ [] → ∀ g ∈ cj.gen k, Sv N cj k (compL (cj.rep k y) g) := fun y hy g hg => by
    by_cases e : c.rep k y = []
    · exact hb.new_ y e hy g (by rw [← hb.gen]; exact hg)
    · rw [hG.keep _ _ e]
      rw [hg1] at hg
      rcases List.mem_append.1 hg with hg | hg
      · refine hb.mono _ (Sv.congr (c := c) ?_ fun _ _ _ => rfl)
        exact (h.sv k (Nat.le_refl _) (by omega) _).2 (.mul (hl.inn y e) hg)
      · obtain rfl := List.mem_singleton.1 hg
        obtain ⟨t, ht, et⟩ := mem_at (knL_mem.2 ⟨y, (hl.rep.at_ y e).1, e, rfl⟩ : c.rep k y ∈ knL (c.push k g) k N)
        rw [← et]
        exact hb.done t ht
  have hsv : Sv N cj k p := by
    obtain ⟨t, ht, et⟩ := mem_at (knL_mem.2 ⟨k, hk, by show c.rep k k ≠ []; rw [hl.rep.one]; intro e; have := idL_length N; rw [e] at this; simp at this; omega, rfl⟩ : c.rep k k ∈ knL (c.push k p) k N)
    have := hb.done t ht
    rw [et, hl.rep.one, hp.idl] at this
    exact this
  have hcnt : cnt N c k < cnt N cj k := by
    have hle := cnt_mono (N := N) hG k
    rcases Nat.lt_or_ge (cnt N c k) (cnt N cj k) with hlt | hge
    · exact hlt
    · exfalso
      refine hs (sv_back hsv (Nat.le_refl _) fun j y hj hjN hy => (cnt_same hG hge hj hjN hy).symm)
  refine ⟨hb.low.whole hk h1 h2 hclose ?_, hG, fun q => by rw [hg1]⟩
  rw [hg1, List.length_append]
  have := h.len k (Nat.le_refl _) hk
  simp; omega
end
end Go.Proofs.YtedfcljikgmpgaaGreat

/- The model's chain in memory: its blocks, how it reads, what one store and one append leave of it. No condition. -/

/- The model's chain in memory: one store of a representative, one generator appended. No condition. -/
namespace Go.Proofs.YtedfcljikgmpgaaGreat
open Go.RowKit

section
theorem typ_ne {w : World} {a b : Nat} {cs ds : Array Value} {s t : TypeId} (ha : w.heap[a]? = some (.cells cs s (0, 0))) (hb : w.heap[b]? = some (.cells ds t (0, 0))) (hn : s ≠ t) : a ≠ b := fun e => by
  subst e
  rw [ha] at hb
  injection hb with hb
  injection hb with _ e
  exact hn e

end
end Go.Proofs.YtedfcljikgmpgaaGreat

/- The model's sift. Conditions: at most 20 points; representatives in order from the level on. -/
namespace Go.Proofs.YtedfcljikgmpgaaGreat
open Go.RowKit

theorem rep_ne_pos {N i y : Nat} {c : Ch} (h : RepOK N c i) (hy : c.rep i y ≠ []) : (c.rep i y).length = N := (h.at_ y hy).2.1.2
theorem bdr {B : Nat} {a w : World} (h : Below B a w) (k : Nat) : Below B a (w.drewN k) := ⟨h.os, h.tape, h.output, h.size, h.block⟩
theorem drewN_below (w : World) (k : Nat) : Below w.heap.size w (w.drewN k) := ⟨rfl, rfl, rfl, Nat.le_refl _, fun _ _ => rfl⟩

end Go.Proofs.YtedfcljikgmpgaaGreat

/- The model's addProduct, where addGenerator one level up keeps its contract. Conditions: at most 20 points; the chain whole above the level. -/
namespace Go.Proofs.YtedfcljikgmpgaaGreat
open Go.RowKit

/-- How many points of level k have no representative. -/
def miss (N : Nat) (c : Ch) (k : Nat) : Nat := (List.range N).countP fun y => (c.rep k y).isEmpty
theorem miss_mono {N k : Nat} {c c' : Ch} (h : Grw k c c') : miss N c' k ≤ miss N c k := by
  refine List.countP_mono_left fun y _ hy => ?_
  rcases e : (c.rep k y).isEmpty with _ | _
  · rw [List.isEmpty_eq_false_iff] at e
    rw [h.keep k y e] at hy
    rw [List.isEmpty_iff] at hy; exact absurd hy e
  · rfl
theorem miss_lt {N k : Nat} {c c' : Ch} (h : Grw k c c') {y : Nat} (hy : y < N) (h1 : c.rep k y = []) (h2 : c'.rep k y ≠ []) : miss N c' k < miss N c k := by
  refine countP_lt (x := y) (fun t ht => ?_) (List.mem_range.2 hy) (List.isEmpty_eq_false_iff.2 h2) (by rw [h1]; rfl)
  rcases e : (c.rep k t).isEmpty with _ | _
  · rw [List.isEmpty_eq_false_iff] at e
    rw [h.keep k t e] at ht
    rw [List.isEmpty_iff] at ht; exact absurd ht e
  · rfl

end Go.Proofs.YtedfcljikgmpgaaGreat

/- append of one slice onto a row of slices of the call's own, as a step of a drawn region and in a list. No condition. -/
namespace Go.Proofs.YtedfcljikgmpgaaGreat
open Go.RowKit

theorem grown_undrewC {a b : World} {row : Option Nat} (h : a.drew.grownBy b row) : a.grownBy b row := ⟨h.os, h.tape, h.output, h.size, h.block⟩
theorem step_appV {w : World} {ops : Array Oper} {o : Oper} {a : Act} {K : Act → World → Prop} {Q : Exit → Act → World → Prop} {E : Prop} (hgd : o.guard = none) (s x : Operand)
    (ho : o.op = .call { callee := .builtin .append, args := #[s, x], argTypes := #[24, 24] })
    (base : Nat) (v : Value) (n : Nat) (xs : List Value) (hs : a.eval s = v) (hown : w.ownsRow base 37 1 v n xs) (g : Nat) (d : SV) (hx : a.eval x = .slice (some ⟨g, 0, none⟩) 1 1)
    (hcell : w.cell? ⟨g, 0, none⟩ = some (sval d)) (hn : n ≤ 1000000000) (hbase : base ≤ w.heap.size)
    (h : ∀ A' c' w', w'.ownsRow base 37 1 (.slice A' (n + 1) c') (n + 1) (xs ++ [sval d]) → w.grownBy w' v.ownBlock → ((Value.slice A' (n + 1) c').ownBlock = v.ownBlock ∨ (Value.slice A' (n + 1) c').ownBlock = some w.heap.size) → K (a.put o.dst (.slice A' (n + 1) c')) w') : if Region.wanted o (yielded ops a.tmps) = true then Oper.wp Tryz.prog o a w K Q else E := by
  have hw : Region.wanted o (yielded ops a.tmps) = true := by simp [Region.wanted, hgd]
  rw [if_pos hw]
  obtain ⟨i0, hi, hz0, hz1, hz2⟩ := info_parts infoS
  obtain ⟨v', w', hr, hown', hg, _, hat⟩ := run_append_own_at (P := Tryz.prog) w base 24 o.type 37 i0 (.slice none 0 0) 1 24 Tryz.underlying24 hi hz0 hz1 hz2 rfl (by decide) v n xs hown ⟨g, 0, none⟩ 1 1 [sval d] rfl (by
      intro j u hj
      match j, hj with
      | 0, hj => simp at hj; subst hj; simpa [Addr.add] using hcell
      | j + 1, hj => simp at hj) (by intro u hu; simp at hu; subst hu; rfl) (by unfold maxLen; omega) (by omega) hbase
  unfold Oper.wp execOp
  simp only [ho, resolve, invoke, builtin, Sem.run_bind, Sem.run_pure, Result.andThen_ok, List.map_toArray, List.map_cons, List.map_nil, hs, hx, hr]
  have hform : ∃ A' c', v' = .slice A' (n + 1) c' := by
    rcases hown'.2 with ⟨rfl, h0⟩ | ⟨g', cap, cur, rfl, _⟩
    · omega
    · exact ⟨_, _, rfl⟩
  obtain ⟨A', c', rfl⟩ := hform
  exact h A' c' w' hown' hg hat
theorem wpList_appV {w : World} {ops : Array Oper} {rest : List Oper} {o : Oper} {a : Act} {Q : Exit → Act → World → Prop} (hgd : o.guard = none) (s x : Operand)
    (ho : o.op = .call { callee := .builtin .append, args := #[s, x], argTypes := #[24, 24] })
    (base : Nat) (v : Value) (n : Nat) (xs : List Value) (hs : a.eval s = v) (hown : w.ownsRow base 37 1 v n xs) (g : Nat) (d : SV) (hx : a.eval x = .slice (some ⟨g, 0, none⟩) 1 1)
    (hcell : w.cell? ⟨g, 0, none⟩ = some (sval d)) (hn : n ≤ 1000000000) (hbase : base ≤ w.heap.size)
    (h : ∀ A' c' w', w'.ownsRow base 37 1 (.slice A' (n + 1) c') (n + 1) (xs ++ [sval d]) → w.grownBy w' v.ownBlock → ((Value.slice A' (n + 1) c').ownBlock = v.ownBlock ∨ (Value.slice A' (n + 1) c').ownBlock = some w.heap.size) → wpList Tryz.prog ops Q rest (a.put o.dst (.slice A' (n + 1) c')) w') : wpList Tryz.prog ops Q (o :: rest) a w := by
  obtain ⟨i0, hi, hz0, hz1, hz2⟩ := info_parts infoS
  refine wpList_append_own_at w hgd s x 24 ho base 37 i0 (.slice none 0 0) 1 24 Tryz.underlying24 hi hz0 hz1 hz2 rfl (by decide) v n xs hs hown ⟨g, 0, none⟩ 1 1 [sval d] hx rfl ?_ ?_ ?_ (by omega) hbase ?_
  · intro j u hj
    match j, hj with
    | 0, hj => simp at hj; subst hj; simpa [Addr.add] using hcell
    | j + 1, hj => simp at hj
  · intro u hu; simp at hu; subst hu; rfl
  · unfold maxLen; omega
  · intro v' w' hown' hg _ hat
    have hform : ∃ A' c', v' = .slice A' (n + 1) c' := by
      rcases hown'.2 with ⟨rfl, h0⟩ | ⟨g', cap, cur, rfl, _⟩
      · omega
      · exact ⟨_, _, rfl⟩
    obtain ⟨A', c', rfl⟩ := hform
    exact h A' c' w' hown' hg hat

/-- A row of the call's own of slices that hold the lists rs (no word on whether they share). -/
structure Kn (w : World) (lo base : Nat) (A : Option Addr) (m cc : Nat) (ds : List SV) (rs : List (List Int)) : Prop where
  own : w.ownsRow lo 37 1 (.slice A m cc) m (ds.map sval)
  ld : ds.length = m
  lr : rs.length = m
  ent : ∀ t, t < m → Slc w base (ds.getD t sd0).1 (ds.getD t sd0).2.1 (ds.getD t sd0).2.2 (rs.getD t [])
theorem Kn.lit0 (w : World) (lo base : Nat) (hb : lo ≤ w.heap.size) : Kn (w.alloc (.cells #[] 37)) lo base (some ⟨w.heap.size, 0, none⟩) 0 0 [] [] :=
  ⟨World.ownsRow_lit (size := 1) w #[] 0 hb (Nat.zero_le _) rfl, rfl, rfl, fun t h => absurd h (by omega)⟩
section
variable {w w' : World} {lo base m cc : Nat} {A : Option Addr} {ds : List SV} {rs : List (List Int)}
theorem Kn.lt_ (h : Kn w lo base A m cc ds rs) : ∀ k, (Value.slice A m cc).ownBlock = some k → lo ≤ k ∧ k < w.heap.size := World.ownsRow.lt h.own
end
end Go.Proofs.YtedfcljikgmpgaaGreat

/- The model's addGenerator. Conditions: at most 20 points; the chain whole from the level on. -/
namespace Go.Proofs.YtedfcljikgmpgaaGreat
open Go.RowKit


end Go.Proofs.YtedfcljikgmpgaaGreat

/- The model's emptyChain and buildChain. Conditions: at most 20 points, 8 generators. -/

/- The model's buildChain: a chain whole from level 0 on, of what the generators generate. Conditions: at most 20 points, 8 generators. -/
namespace Go.Proofs.YtedfcljikgmpgaaGreat
open Go.RowKit

/-- The chain is whole, and of what gs generate. -/
structure Whole (N : Nat) (gs : List (List Int)) (c : Ch) : Prop where
  up : UpTo N c 0
  mem : ∀ q, Mb (c.gen 0) N q ↔ Mb gs N q
theorem Whole.next {N : Nat} {gs : List (List Int)} {c c' : Ch} {p : List Int} (h1 : 1 ≤ N) (h2 : N ≤ 20) (hgs : ∀ g ∈ gs, Pn N g) (hp : Pn N p) (h : Whole N gs c) (ha : Ap N 0 c c' p) : Whole N (gs ++ [p]) c' := by
  have hgp : ∀ g ∈ c.gen 0, Pn N g := h.up.pn (Nat.le_refl _) (Nat.zero_le _)
  have a1 : ∀ g ∈ gs ++ [p], Pn N g := fun g hg => by
    rcases List.mem_append.1 hg with hg | hg
    · exact hgs g hg
    · obtain rfl := List.mem_singleton.1 hg; exact hp
  have a2 : ∀ g ∈ c.gen 0 ++ [p], Pn N g := fun g hg => by
    rcases List.mem_append.1 hg with hg | hg
    · exact hgp g hg
    · obtain rfl := List.mem_singleton.1 hg; exact hp
  refine ⟨ha.up, fun q => (ha.gen q).trans ⟨fun hq => hq.sub h1 h2 a1 fun g hg => ?_, fun hq => hq.sub h1 h2 a2 fun g hg => ?_⟩⟩
  · rcases List.mem_append.1 hg with hg | hg
    · exact ((h.mem g).1 (.of (hgp g hg) hg)).more fun g hg => List.mem_append_left _ hg
    · obtain rfl := List.mem_singleton.1 hg; exact .of hp (by simp)
  · rcases List.mem_append.1 hg with hg | hg
    · exact ((h.mem g).2 (.of (hgs g hg) hg)).more fun g hg => List.mem_append_left _ hg
    · obtain rfl := List.mem_singleton.1 hg; exact .of hp (by simp)

end Go.Proofs.YtedfcljikgmpgaaGreat

/- What a whole chain tells: orbit sizes, the order, membership; what these are for the group. Conditions: at most 20 points, 8 generators. -/
namespace Go.Proofs.YtedfcljikgmpgaaGreat
open Go.RowKit

/-! ### the group's own numbers -/
section
variable {N : Nat} {gs hs : List (List Int)} {c : Ch}
theorem Whole.stab (h : Whole N gs c) (h1 : 1 ≤ N) (h2 : N ≤ 20) : ∀ i, i ≤ N → ∀ p, Mb (c.gen i) N p ↔ Mb gs N p ∧ Fx i p
  | 0, _, p => by rw [h.mem]; exact ⟨fun h => ⟨h, Fx.zero⟩, fun h => h.1⟩
  | i + 1, hi, p => by
    have ih := h.stab h1 h2 i (by omega)
    have hr := h.up.rep i (Nat.zero_le _) hi
    have hpn : ∀ g ∈ c.gen 0, Pn N g := h.up.pn (Nat.le_refl _) (Nat.zero_le _)
    constructor
    · intro hm
      have hp := hm.pn (h.up.pn (Nat.zero_le _) hi) h1 h2
      have hf : Fx (i + 1) p := by
        rcases Nat.lt_or_ge (i + 1) N with hl | hl
        · exact hm.fx (h.up.gp (i + 1) (Nat.zero_le _) hl) h1 h2 hi
        · obtain rfl : i + 1 = N := by omega
          rw [h.up.top] at hm
          rw [hm.none_]; exact fx_id (Nat.le_refl _)
      have hs := (sv_down hr hi hp (hf.mono (by omega)) (hf i (by omega))).2 ((h.up.sv (i + 1) (Nat.zero_le _) hi p).2 hm)
      exact ⟨((ih p).1 ((h.up.sv i (Nat.zero_le _) (by omega) p).1 hs)).1, hf⟩
    · rintro ⟨hm, hf⟩
      have hp := ((h.mem p).2 hm).pn hpn h1 h2
      have hs := (h.up.sv i (Nat.zero_le _) (by omega) p).2 ((ih p).2 ⟨hm, hf.mono (by omega)⟩)
      exact (h.up.sv (i + 1) (Nat.zero_le _) hi p).1 ((sv_down hr hi hp (hf.mono (by omega)) (hf i (by omega))).1 hs)
theorem Whole.rep_mb (h : Whole N gs c) (h1 : 1 ≤ N) (h2 : N ≤ 20) {i y : Nat} (hi : i < N) (hy : c.rep i y ≠ []) : Mb gs N (c.rep i y) ∧ Fx i (c.rep i y) ∧ nx (c.rep i y) i = y ∧ y < N := by
  have hl := (h.up.mono (Nat.zero_le i)).low hi h1 h2
  have h3 := (h.stab h1 h2 i (by omega) _).1 (hl.inn y hy)
  obtain ⟨a1, a2, a3, a4⟩ := hl.rep.at_ y hy
  exact ⟨h3.1, a3, a4, a1⟩
theorem Whole.rep_iff (h : Whole N gs c) (h1 : 1 ≤ N) (h2 : N ≤ 20) {i y : Nat} (hi : i < N) : c.rep i y ≠ [] ↔ ∃ p, Mb gs N p ∧ Fx i p ∧ nx p i = y := by
  constructor
  · intro hy
    obtain ⟨a, b, d, _⟩ := h.rep_mb h1 h2 hi hy
    exact ⟨_, a, b, d⟩
  · rintro ⟨p, hm, hf, rfl⟩
    exact (((h.up.sv i (Nat.zero_le _) (by omega) p).2 ((h.stab h1 h2 i (by omega) p).2 ⟨hm, hf⟩)).inv_low hi).2.2.1
/-- The sizes of the orbits of the points under the members that fix the points before them. -/
def IsOS (N : Nat) (gs : List (List Int)) (xs : List Int) : Prop := xs.length = N ∧ ∀ i, i < N → ∃ l : List Nat, l.Nodup ∧ (∀ y, y ∈ l ↔ y < N ∧ ∃ p, Mb gs N p ∧ Fx i p ∧ nx p i = y) ∧ xs.getD i 0 = (l.length : Int)
theorem IsOS.uniq {xs ys : List Int} (h : IsOS N gs xs) (h' : IsOS N gs ys) : xs = ys := by
  refine ext_getD h.1 h'.1 fun i hi => ?_
  obtain ⟨l, d, m, e⟩ := h.2 i hi
  obtain ⟨l', d', m', e'⟩ := h'.2 i hi
  have a := nd_sub d (fun x hx => (m' x).2 ((m x).1 hx))
  have b := nd_sub d' (fun x hx => (m x).2 ((m' x).1 hx))
  rw [e, e']; omega
/-- How many representatives a level has. -/
def nr (N : Nat) (c : Ch) (i m : Nat) : Nat := ((List.range m).filter fun y => !(c.rep i y).isEmpty).length
def osL (N : Nat) (c : Ch) (m : Nat) : List Int := (List.range m).map fun i => (nr N c i N : Int)
theorem nr_zero (N : Nat) (c : Ch) (i : Nat) : nr N c i 0 = 0 := rfl
theorem nr_yes {i m : Nat} (h : c.rep i m ≠ []) : nr N c i (m + 1) = nr N c i m + 1 := by
  unfold nr; rw [List.range_succ, List.filter_append]; simp [List.isEmpty_eq_false_iff.2 h]
theorem nr_no {i m : Nat} (h : c.rep i m = []) : nr N c i (m + 1) = nr N c i m := by
  unfold nr; rw [List.range_succ, List.filter_append]; simp [h]
theorem nr_le (i m : Nat) : nr N c i m ≤ m := by
  have := List.length_filter_le (fun y => !(c.rep i y).isEmpty) (List.range m)
  simpa [nr] using this
theorem osL_succ (m : Nat) : osL N c (m + 1) = osL N c m ++ [(nr N c m N : Int)] := by simp [osL, List.range_succ]
theorem osL_len (m : Nat) : (osL N c m).length = m := by simp [osL]
theorem osL_at {i m : Nat} (hi : i < m) : (osL N c m).getD i 0 = (nr N c i N : Int) := by
  unfold osL
  rw [List.getD_eq_getElem?_getD, List.getElem?_map, List.getElem?_range hi]; rfl
theorem Whole.os (h : Whole N gs c) (h1 : 1 ≤ N) (h2 : N ≤ 20) : IsOS N gs (osL N c N) := by
  refine ⟨osL_len N, fun i hi => ⟨(List.range N).filter fun y => !(c.rep i y).isEmpty, List.nodup_range.filter _, fun y => ?_, osL_at hi⟩⟩
  rw [List.mem_filter, List.mem_range, Bool.not_eq_true', List.isEmpty_eq_false_iff, h.rep_iff h1 h2 hi]
/-- Level i has a representative of i itself, and none below. -/
theorem Whole.nr_pos (h : Whole N gs c) (h1 : 1 ≤ N) {i : Nat} (hi : i < N) : 1 ≤ nr N c i N ∧ nr N c i N ≤ N - i := by
  have hr := h.up.rep i (Nat.zero_le _) hi
  constructor
  · unfold nr
    refine List.length_pos_of_mem (a := i) ?_
    rw [List.mem_filter, List.mem_range, Bool.not_eq_true', List.isEmpty_eq_false_iff]
    exact ⟨hi, by rw [hr.one]; intro e; have := idL_length N; rw [e] at this; simp at this; omega⟩
  · have : ((List.range N).filter fun y => !(c.rep i y).isEmpty).length ≤ (List.range' i (N - i)).length := by
      refine nd_sub (List.nodup_range.filter _) fun y hy => ?_
      rw [List.mem_filter, List.mem_range, Bool.not_eq_true', List.isEmpty_eq_false_iff] at hy
      obtain ⟨a1, a2, a3, a4⟩ := hr.at_ y hy.2
      have := a3.ge a2 hi
      rw [List.mem_range'_1]; omega
    simpa [nr] using this
/-- The product. -/
def prodL (l : List Int) : Int := l.foldl (fun a x => a * x) 1
theorem prodL_snoc (l : List Int) (x : Int) : prodL (l ++ [x]) = prodL l * x := by simp [prodL]
def facts : Nat → Nat → Nat
  | _, 0 => 1
  | N, m + 1 => facts N m * (N - m)
theorem facts_pos {N : Nat} : ∀ {m : Nat}, m ≤ N → 1 ≤ facts N m
  | 0, _ => Nat.le_refl _
  | m + 1, h => Nat.mul_pos (facts_pos (by omega)) (by omega)
theorem facts_mono {N m : Nat} (h : m < N) : facts N m ≤ facts N (m + 1) := Nat.le_mul_of_pos_right _ (by omega)
theorem facts_le {N : Nat} (hN : N ≤ 20) : ∀ m, m ≤ N → facts N m ≤ 2432902008176640000 := by
  have hall : ∀ N, N ≤ 20 → ∀ m, m ≤ N → facts N m ≤ 2432902008176640000 := by decide +kernel
  exact hall N hN
theorem Whole.prod_le (h : Whole N gs c) (h1 : 1 ≤ N) : ∀ m, m ≤ N → 1 ≤ prodL (osL N c m) ∧ prodL (osL N c m) ≤ (facts N m : Int)
  | 0, _ => by simp [osL, prodL, facts]
  | m + 1, hm => by
    obtain ⟨a, b⟩ := h.prod_le h1 m (by omega)
    obtain ⟨d, e⟩ := h.nr_pos h1 (i := m) hm
    rw [osL_succ, prodL_snoc]
    refine ⟨?_, ?_⟩
    · have := Int.mul_le_mul a (show (1 : Int) ≤ (nr N c m N : Int) by omega) (by omega) (by omega)
      simpa using this
    · have := Int.mul_le_mul b (show (nr N c m N : Int) ≤ ((N - m : Nat) : Int) by omega) (by omega) (by omega)
      show _ ≤ ((facts N m * (N - m) : Nat) : Int)
      rw [Int.natCast_mul]; exact this
end



end Go.Proofs.YtedfcljikgmpgaaGreat

/- insertSorted and sortedInts of the model. No condition but lengths. -/
namespace Go.Proofs.YtedfcljikgmpgaaGreat
open Go.RowKit

/-- The sorted list with v put in at k. -/
def putIn (ys : List Int) (k : Nat) (v : Int) : List Int := ys.take k ++ [v] ++ ys.drop k
theorem putIn_perm (ys : List Int) (k : Nat) (v : Int) : (putIn ys k v).Perm (v :: ys) := by
  unfold putIn
  have h : (ys.take k ++ [v]).Perm (v :: ys.take k) := List.perm_append_comm
  have := h.append_right (ys.drop k)
  rw [List.cons_append, List.take_append_drop] at this
  exact this
theorem putIn_sorted {ys : List Int} {k : Nat} {v : Int} (hs : ys.Pairwise (· ≤ ·)) (h1 : ∀ j, j < k → ys.getD j 0 < v) (h2 : k < ys.length → v ≤ ys.getD k 0) : (putIn ys k v).Pairwise (· ≤ ·) := by
  unfold putIn
  have hd : ∀ b ∈ ys.drop k, v ≤ b := fun b hb => by
    obtain ⟨j, hj, e⟩ := List.mem_iff_getElem.1 hb
    rw [List.length_drop] at hj
    rw [List.getElem_drop] at e
    have h3 := h2 (by omega)
    rw [List.getD_eq_getElem?_getD, List.getElem?_eq_getElem (by omega : k < ys.length)] at h3
    rw [List.pairwise_iff_getElem] at hs
    rw [← e]
    by_cases e0 : j = 0
    · subst e0; simpa using h3
    · have := hs k (k + j) (by omega) (by omega) (by omega)
      have h3' : v ≤ ys[k] := by simpa using h3
      omega
  have ht : ∀ a ∈ ys.take k, a < v := fun a ha => by
    obtain ⟨j, hj, e⟩ := List.mem_iff_getElem.1 ha
    rw [List.length_take] at hj
    rw [List.getElem_take] at e
    have := h1 j (by omega)
    rw [List.getD_eq_getElem?_getD, List.getElem?_eq_getElem (by omega)] at this
    rw [← e]; simpa using this
  rw [List.append_assoc, List.pairwise_append]
  refine ⟨hs.sublist (List.take_sublist _ _), ?_, fun a ha b hb => ?_⟩
  · rw [List.singleton_append, List.pairwise_cons]
    exact ⟨hd, hs.sublist (List.drop_sublist _ _)⟩
  · have := ht a ha
    rcases List.mem_append.1 hb with hb | hb
    · obtain rfl : b = v := by simpa using hb
      omega
    · have := hd b hb; omega

set_option maxHeartbeats 2000000 in
set_option maxRecDepth 100000 in
/-- insertSorted, of a number that the list lacks. -/
theorem specIns (g n c base : Nat) (ys : List Int) (v : Int) (w : World) (h : Slc w base (some ⟨g, 0, none⟩) n c ys) (hv : Hid (v ∉ ys)) (hn : n ≤ 1000) :
    Calls Tryz.prog 62 #[.slice (some ⟨g, 0, none⟩) n c, .int .i64 v] w fun e w' => ∃ g' c' zs, e = .returned (.slice (some ⟨g', 0, none⟩) (n + 1) c') ∧ Slc w' w.heap.size (some ⟨g', 0, none⟩) (n + 1) c' zs ∧ zs.Perm (v :: ys) ∧ (ys.Pairwise (· ≤ ·) → zs.Pairwise (· ≤ ·)) ∧ Below w.heap.size w w' := by
  have H := Lib.hid h
  have lx := h.1
  have hnc := h.le.1
  have ri := Lib.hid h.ri_
  clear h
  go_enter Tryz.func62, Tryz.ntmps62
  go_wp2
  go_loop [5] (fun i => ∃ k : Nat, k ≤ n ∧ i = .int .i64 (k : Nat) ∧ ∀ j, j < k → ys.getD j 0 < v) (fun i => n - (intOf i).toNat)
  case atStart => exact ⟨0, Nat.zero_le _, rfl, fun j h => absurd h (by omega)⟩
  case round =>
    obtain ⟨k, hk, rfl, hz⟩ := hrel
    have Hz := Lib.hid hz
    clear hz
    have EndIt : Hid (∀ (hge : k < n → v ≤ ys.getD k 0), (putIn ys k v).Perm (v :: ys) ∧ (ys.Pairwise (· ≤ ·) → (putIn ys k v).Pairwise (· ≤ ·))) := Lib.hid fun hge => ⟨putIn_perm _ _ _, fun hs => putIn_sorted hs Hz.out (fun h => hge (by rw [← lx]; exact h))⟩
    have RIt : Hid (RI w w.heap.size (some ⟨g, 0, none⟩) (ys.take k)) := Lib.hid (takeRI ri.out k)
    have ltk : Hid ((ys.take k).length = k) := Lib.hid (by rw [List.length_take]; omega)
    have ldr : Hid ((ys.drop k).length = n - k) := Lib.hid (by rw [List.length_drop]; omega)
    have DrX : Hid (∀ w3 : World, Below w.heap.size w w3 → RI w3 w3.heap.size (some ⟨g, k, none⟩) (ys.drop k)) := Lib.hid fun w3 hb => dropRI H.out hb fun _ => rfl
    have ld0 : Hid (c = k → (ys.drop k).length = 0) := Lib.hid fun e => by have := ldr.out; omega
    have Dr0 : Hid (c = k → ∀ w3 : World, Below w.heap.size w w3 → RI w3 w3.heap.size (some ⟨g, 0, none⟩) (ys.drop k)) := Lib.hid fun e w3 hb => dropRI H.out hb fun h => by omega
    have p1 : (k : Int) ≤ c := by omega
    by_cases hlt : k < n
    · obtain ⟨b, off, e1, hb, hc⟩ := ri.out (by rw [lx]; omega)
      have c1 := hc k (by rw [lx]; exact hlt)
      obtain ⟨rfl, rfl⟩ : g = b ∧ 0 = off := by injection e1 with e1; injection e1 with e1 e2; exact ⟨e1, e2⟩
      rw [Nat.zero_add] at c1
      have hne : ys.getD k 0 ≠ v := fun e => hv.out (by rw [← e]; exact (by rw [List.getD_eq_getElem?_getD, List.getElem?_eq_getElem (by omega)]; exact List.getElem_mem _))
      obtain ⟨u, eu⟩ : ∃ u, ys.getD k 0 = u := ⟨_, rfl⟩
      rw [eu] at c1 hne
      have Eu := Lib.hid eu
      clear eu hc e1
      by_cases hlv : u < v
      · go_wp2
        go_round
        case rel => exact ⟨k + 1, by omega, by go_num, fun j hj => by
          by_cases e : j = k
          · subst e; rw [Eu.out]; exact hlv
          · exact Hz.out j (by omega)⟩
        case measure => simp [intOf]; omega
      · have Z := Lib.hid (EndIt.out (fun _ => by rw [Eu.out]; omega))
        have hck : ¬ c = k := by omega
        clear EndIt
        go_wp2_with fail
        refine (copyRI g 0 k _ (ys.take k) w RIt.out ltk.out (by omega)).mono ?_
        rintro e w2 ⟨A2, c2, rfl, s2, b2⟩
        have S2 := Lib.hid s2
        have B2 := Lib.hid b2
        have Z2 := b2.size
        clear s2 b2
        go_wp2_with (first
            | (at_builtin; refine wpList_app1 rfl _ _ rfl w.heap.size A2 k c2 _ rfl (S2.out.alloc _) w2.heap.size v rfl (by rw [World.cell?_alloc_at _ _ _ _ rfl]; rfl) (by omega) (by simp; omega) ?_; intro A3 c3 w3 s3 g3; have B3 : Hid (Below w.heap.size w w3) := Lib.hid ((B2.out.alloc B2.out.size _).grown g3 (by simp; omega) (fun j hj => (S2.out.lt_ j hj).1)); have S3 := Lib.hid s3; clear s3 g3)
            | (at_builtin; refine wpList_appN rfl _ _ rfl w.heap.size A3 (k + 1) c3 _ rfl S3.out g k (n - k) (c - k) (ys.drop k) rfl (DrX.out _ B3.out) ldr.out (by omega) B3.out.size ?_; intro A4 c4 w4 s4 g4))
        have S4 : Hid (Slc w4 w.heap.size A4 (n + 1) c4 (putIn ys k v)) := Lib.hid (by
          have := s4
          rw [show k + 1 + (n - k) = n + 1 from by omega] at this
          exact this)
        have B4 : Hid (Below w.heap.size w w4) := Lib.hid (B3.out.grown g4 B3.out.size (fun j hj => (S3.out.lt_ j hj).1))
        rw [show k + 1 + (n - k) = n + 1 from by omega]
        clear s4 g4
        obtain ⟨q4, rfl⟩ : ∃ q4, A4 = some ⟨q4, 0, none⟩ := by
          rcases S4.out.at_ with ⟨_, _, e0, _⟩ | ⟨q4, e0, _, _⟩
          · omega
          · exact ⟨q4, e0⟩
        go_wp2
        go_ret
        exact ⟨_, _, _, rfl, S4.out, Z.out.1, Z.out.2, B4.out⟩
    · have hkn : k = n := by omega
      have Z := Lib.hid (EndIt.out (fun h => absurd h hlt))
      subst hkn
      clear EndIt
      by_cases hck : c = k
      · subst hck
        go_wp2_with fail
        refine (copyRI g 0 c _ (ys.take c) w RIt.out ltk.out (by omega)).mono ?_
        rintro e w2 ⟨A2, c2, rfl, s2, b2⟩
        have S2 := Lib.hid s2
        have B2 := Lib.hid b2
        have Z2 := b2.size
        clear s2 b2
        go_wp2_with (first
            | (at_builtin; refine wpList_app1 rfl _ _ rfl w.heap.size A2 c c2 _ rfl (S2.out.alloc _) w2.heap.size v rfl (by rw [World.cell?_alloc_at _ _ _ _ rfl]; rfl) (by omega) (by simp; omega) ?_; intro A3 c3 w3 s3 g3; have B3 : Hid (Below w.heap.size w w3) := Lib.hid ((B2.out.alloc B2.out.size _).grown g3 (by simp; omega) (fun j hj => (S2.out.lt_ j hj).1)); have S3 := Lib.hid s3; clear s3 g3)
            | (at_builtin; refine wpList_appN rfl _ _ rfl w.heap.size A3 (c + 1) c3 _ rfl S3.out g 0 0 0 (ys.drop c) rfl (Dr0.out trivial _ B3.out) (ld0.out trivial) (by omega) B3.out.size ?_; intro A4 c4 w4 s4 g4))
        have S4 : Hid (Slc w4 w.heap.size A4 (c + 1) c4 (putIn ys c v)) := Lib.hid s4
        have B4 : Hid (Below w.heap.size w w4) := Lib.hid (B3.out.grown g4 B3.out.size (fun j hj => (S3.out.lt_ j hj).1))
        clear s4 g4
        obtain ⟨q4, rfl⟩ : ∃ q4, A4 = some ⟨q4, 0, none⟩ := by
          rcases S4.out.at_ with ⟨_, _, e0, _⟩ | ⟨q4, e0, _, _⟩
          · omega
          · exact ⟨q4, e0⟩
        go_wp2
        go_ret
        exact ⟨_, _, _, rfl, S4.out, Z.out.1, Z.out.2, B4.out⟩
      · have ld1 : Hid ((ys.drop k).length = k - k) := ldr
        go_wp2_with fail
        refine (copyRI g 0 k _ (ys.take k) w RIt.out ltk.out (by omega)).mono ?_
        rintro e w2 ⟨A2, c2, rfl, s2, b2⟩
        have S2 := Lib.hid s2
        have B2 := Lib.hid b2
        have Z2 := b2.size
        clear s2 b2
        go_wp2_with (first
            | (at_builtin; refine wpList_app1 rfl _ _ rfl w.heap.size A2 k c2 _ rfl (S2.out.alloc _) w2.heap.size v rfl (by rw [World.cell?_alloc_at _ _ _ _ rfl]; rfl) (by omega) (by simp; omega) ?_; intro A3 c3 w3 s3 g3; have B3 : Hid (Below w.heap.size w w3) := Lib.hid ((B2.out.alloc B2.out.size _).grown g3 (by simp; omega) (fun j hj => (S2.out.lt_ j hj).1)); have S3 := Lib.hid s3; clear s3 g3)
            | (at_builtin; refine wpList_appN rfl _ _ rfl w.heap.size A3 (k + 1) c3 _ rfl S3.out g k 0 (c - k) (ys.drop k) rfl (DrX.out _ B3.out) (by rw [ld1.out]; omega) (by omega) B3.out.size ?_; intro A4 c4 w4 s4 g4))
        have S4 : Hid (Slc w4 w.heap.size A4 (k + 1) c4 (putIn ys k v)) := Lib.hid s4
        have B4 : Hid (Below w.heap.size w w4) := Lib.hid (B3.out.grown g4 B3.out.size (fun j hj => (S3.out.lt_ j hj).1))
        clear s4 g4
        obtain ⟨q4, rfl⟩ : ∃ q4, A4 = some ⟨q4, 0, none⟩ := by
          rcases S4.out.at_ with ⟨_, _, e0, _⟩ | ⟨q4, e0, _, _⟩
          · omega
          · exact ⟨q4, e0⟩
        go_wp2
        go_ret
        exact ⟨_, _, _, rfl, S4.out, Z.out.1, Z.out.2, B4.out⟩

set_option maxHeartbeats 800000 in
/-- sortedInts of different numbers. -/
theorem specSorted (A : Option Addr) (n c : Nat) (xs : List Int) (w : World) (hx : RI w w.heap.size A xs) (lx : Hid (xs.length = n)) (hd : Hid xs.Nodup) (hn : n ≤ 1000) :
    Calls Tryz.prog 47 #[.slice A n c] w fun e w' => ∃ g' c' zs, e = .returned (.slice (some ⟨g', 0, none⟩) n c') ∧ Slc w' w.heap.size (some ⟨g', 0, none⟩) n c' zs ∧ zs.Perm xs ∧ zs.Pairwise (· ≤ ·) ∧ Below w.heap.size w w' := by
  have HX := Lib.hid hx
  clear hx
  go_enter Tryz.func47, Tryz.ntmps47
  go_wp2
  go_loopw [3, 4] (fun v i wr => ∃ k g' c' zs, k ≤ n ∧ i = .int .i64 (k : Nat) ∧ v = .slice (some ⟨g', 0, none⟩) k c' ∧ Slc wr w.heap.size (some ⟨g', 0, none⟩) k c' zs ∧ zs.Perm (xs.take k) ∧ zs.Pairwise (· ≤ ·) ∧ Below w.heap.size w wr) (fun _ i _ => n - (intOf i).toNat)
  case atStart => exact ⟨0, _, _, [], Nat.zero_le _, rfl, rfl, Slc.lit0 w _ (Nat.le_refl _), by simp, List.Pairwise.nil, (Below.refl _ _).alloc (Nat.le_refl _) _⟩
  case round =>
    obtain ⟨k, g', c', zs, hk, rfl, rfl, ss, hpm, hst, bel⟩ := hrel
    have Ss := Lib.hid ss
    have Pm := Lib.hid hpm
    have St := Lib.hid hst
    have Be := Lib.hid bel
    clear ss hpm hst bel
    by_cases hlt : k < n
    · obtain ⟨b, off, rfl, hb, hc⟩ := (HX.out.below Be.out (Nat.le_refl _)) (by rw [lx.out]; omega)
      have c1 := hc k (by rw [lx.out]; exact hlt)
      obtain ⟨u, eu⟩ : ∃ u, xs.getD k 0 = u := ⟨_, rfl⟩
      rw [eu] at c1
      have Tk : Hid (xs.take (k + 1) = xs.take k ++ [u]) := Lib.hid (by
        rw [List.getD_eq_getElem?_getD, List.getElem?_eq_getElem (by rw [lx.out]; exact hlt)] at eu
        have e2 : xs[k]'(by rw [lx.out]; exact hlt) = u := by simpa using eu
        rw [List.take_succ_eq_append_getElem (by rw [lx.out]; exact hlt), e2])
      have Nu : Hid (u ∉ zs) := Lib.hid fun h => by
        have h1 := Pm.out.mem_iff.1 h
        have h2 := hd.out.sublist (List.take_sublist (k + 1) xs)
        rw [Tk.out, List.nodup_append] at h2
        exact h2.2.2 u h1 u (by simp) rfl
      clear eu hc
      go_wp2_with fail
      refine (specIns g' k c' w.heap.size zs u wr Ss.out Nu (by omega)).mono ?_
      rintro e w2 ⟨g2, c2, ys, rfl, s2, p2, st2, b2⟩
      have S2 := Lib.hid (s2.mono Be.out.size)
      have P2 : Hid (ys.Perm (xs.take (k + 1))) := Lib.hid (by
        rw [Tk.out]
        exact p2.trans ((Pm.out.cons u).trans (List.perm_append_comm (l₁ := [u]))))
      have St2 := Lib.hid (st2 St.out)
      have B2 : Hid (Below w.heap.size w w2) := Lib.hid (btr Be.out b2)
      clear s2 p2 st2 b2
      go_wp2
      go_roundw
      case rel => exact ⟨k + 1, _, _, ys, by omega, by go_num, rfl, S2.out, P2.out, St2.out, B2.out⟩
      case measure => simp [intOf]; omega
    · have hkn : k = n := by omega
      subst hkn
      have P2 : Hid (zs.Perm xs) := Lib.hid (by have := Pm.out; rwa [List.take_of_length_le (by rw [lx.out]; exact Nat.le_refl _)] at this)
      go_wp2
      go_ret
      exact ⟨_, _, _, rfl, Ss.out, P2.out, St.out, Be.out⟩
end Go.Proofs.YtedfcljikgmpgaaGreat

/- Members with given entries, by the model's chain. Conditions: at most 20 points, 8 generators. -/
namespace Go.Proofs.YtedfcljikgmpgaaGreat
open Go.RowKit

/-- The entries that level i allows behind p, among the first m points. -/
def chL (c : Ch) (i : Nat) (p : List Int) (m : Nat) : List Int := ((List.range m).filter fun y => !(c.rep i y).isEmpty).map fun y => (nx p y : Int)
theorem chL_yes {c : Ch} {i m : Nat} {p : List Int} (h : c.rep i m ≠ []) : chL c i p (m + 1) = chL c i p m ++ [(nx p m : Int)] := by
  unfold chL; rw [List.range_succ, List.filter_append]; simp [List.isEmpty_eq_false_iff.2 h]
theorem chL_no {c : Ch} {i m : Nat} {p : List Int} (h : c.rep i m = []) : chL c i p (m + 1) = chL c i p m := by
  unfold chL; rw [List.range_succ, List.filter_append]; simp [h]
theorem chL_mem {c : Ch} {i m : Nat} {p : List Int} {v : Int} : v ∈ chL c i p m ↔ ∃ y, y < m ∧ c.rep i y ≠ [] ∧ (nx p y : Int) = v := by
  simp only [chL, List.mem_map, List.mem_filter, List.mem_range, Bool.not_eq_true', List.isEmpty_eq_false_iff, and_assoc]
theorem chL_len (c : Ch) (i : Nat) (p : List Int) (m : Nat) : (chL c i p m).length ≤ m := by
  unfold chL; rw [List.length_map]
  have := List.length_filter_le (fun y => !(c.rep i y).isEmpty) (List.range m)
  simpa using this


end Go.Proofs.YtedfcljikgmpgaaGreat
