/- IsGeneratorSet, of the program and of the model. Conditions: at most 1048576 lists of at most 1048576 numbers. -/
import Derived.Test.YtooafmifbplbhaaSSx
import Derived.Test.YtooafmifbplbhaaPerm
import Derived.Test.YtooafmifbplbhaaOrM
namespace Go.Proofs.Ytooafmifbplbhaa
open Go.RowKit

/-- What IsGeneratorSet answers. -/
def gB (n : Int) (gs : List (List Int)) : Bool := decide (1 ≤ n ∧ n ≤ 20 ∧ gs.length ≤ 8 ∧ ∀ g ∈ gs, (g.length : Int) = n ∧ isP g = true)
theorem gB_iff {n : Int} {gs : List (List Int)} : gB n gs = true ↔ 1 ≤ n ∧ n ≤ 20 ∧ gs.length ≤ 8 ∧ ∀ g ∈ gs, (g.length : Int) = n ∧ isP g = true := by simp [gB]
theorem gB_no {n : Int} {gs : List (List Int)} (h : ¬ (1 ≤ n ∧ n ≤ 20 ∧ gs.length ≤ 8)) : gB n gs = false := by
  rw [← Bool.not_eq_true, gB_iff]; exact fun h' => h ⟨h'.1, h'.2.1, h'.2.2.1⟩
theorem getD_memL {l : List (List Int)} {k : Nat} (hk : k < l.length) : l.getD k [] ∈ l := by
  rw [List.getD_eq_getElem?_getD, List.getElem?_eq_getElem hk]; exact List.getElem_mem hk
theorem gB_row {n : Int} {gs : List (List Int)} {k : Nat} {y : List Int} (hk : k < gs.length) (ey : gs.getD k [] = y) (h : ¬ ((y.length : Int) = n ∧ isP y = true)) : gB n gs = false := by
  rw [← Bool.not_eq_true, gB_iff]; exact fun h' => h (by rw [← ey]; exact h'.2.2.2 _ (getD_memL hk))
theorem gB_all {n : Int} {gs : List (List Int)} (h0 : 1 ≤ n ∧ n ≤ 20 ∧ gs.length ≤ 8) (h : ∀ j, j < gs.length → ((gs.getD j []).length : Int) = n ∧ isP (gs.getD j []) = true) : gB n gs = true := by
  refine gB_iff.2 ⟨h0.1, h0.2.1, h0.2.2, fun g hg => ?_⟩
  obtain ⟨j, hj, e⟩ := List.mem_iff_getElem.1 hg
  have := h j hj
  rw [List.getD_eq_getElem?_getD, List.getElem?_eq_getElem hj] at this
  simpa [e] using this
theorem gB_pm {n : Int} {gs : List (List Int)} (h : gB n gs = true) : ∃ N : Nat, n = (N : Int) ∧ 1 ≤ N ∧ N ≤ 20 ∧ gs.length ≤ 8 ∧ PMs N gs ∧ ∀ g ∈ gs, IsP g ∧ g.length = N := by
  obtain ⟨h1, h2, h3, h4⟩ := gB_iff.1 h
  refine ⟨n.toNat, by omega, by omega, by omega, h3, fun g hg => ?_, fun g hg => ⟨isP_iff.1 (h4 g hg).2, by have := (h4 g hg).1; omega⟩⟩
  have hl : g.length = n.toNat := by have := (h4 g hg).1; omega
  rw [← hl]
  exact (isP_iff.1 (h4 g hg).2).pm

set_option maxHeartbeats 1600000 in
/-- The program's IsGeneratorSet. -/
theorem implGS (a : Int) (A : Option Addr) (n c : Nat) (vs : List SV) (xss : List (List Int)) (w : World) (hx : RR w w.heap.size A n vs xss) (hn : n ≤ 1048576) (hl : Hid (∀ i, i < n → (vs.getD i sd0).2.1 ≤ 1048576)) :
    Calls Try.prog 47 #[.int .i64 a, .slice A n c] w fun e w' => e = .returned (.bool (gB a xss)) ∧ Below w.heap.size w w' := by
  have HX := Lib.hid hx
  have hlx := hx.lx
  clear hx
  by_cases h0 : a < 1
  · have d1 : decide (a < 1) = true := by simp; omega
    have Fin := Lib.hid (gB_no (n := a) (gs := xss) (by omega))
    go_enter Try.func47, Try.ntmps47
    go_wp2
    go_ret
    exact ⟨ret_bool Fin.out.symm, Below.refl _ _⟩
  · have d1 : decide (a < 1) = false := by simp; omega
    by_cases h1 : 20 < a
    · have d2 : decide (20 < a) = true := by simp; omega
      have Fin := Lib.hid (gB_no (n := a) (gs := xss) (by omega))
      go_enter Try.func47, Try.ntmps47
      go_wp2
      go_ret
      exact ⟨ret_bool Fin.out.symm, Below.refl _ _⟩
    · have d2 : decide (20 < a) = false := by simp; omega
      by_cases h2 : 8 < n
      · have d3 : decide ((8 : Int) < n) = true := by simp; omega
        have Fin := Lib.hid (gB_no (n := a) (gs := xss) (by omega))
        go_enter Try.func47, Try.ntmps47
        go_wp2
        go_ret
        exact ⟨ret_bool Fin.out.symm, Below.refl _ _⟩
      · have d3 : decide ((8 : Int) < n) = false := by simp; omega
        go_enter Try.func47, Try.ntmps47
        go_wp2
        go_loopw [20] (fun i wr => ∃ k : Nat, k ≤ n ∧ i = .int .i64 (k : Nat) ∧ (∀ j, j < k → ((xss.getD j []).length : Int) = a ∧ isP (xss.getD j []) = true) ∧ Below w.heap.size w wr) (fun i _ => n - (intOf i).toNat)
        case atStart => exact ⟨0, Nat.zero_le _, rfl, fun j h => absurd h (by omega), Below.refl _ _⟩
        case round =>
          obtain ⟨k, hk, rfl, hz, bel⟩ := hrel
          have Hz := Lib.hid hz
          have Be := Lib.hid bel
          clear hz bel
          by_cases hlt : k < n
          · obtain ⟨b, off, A5, l, c5, y, rfl, hb, ev, ey, hc0, hr0, hy, hlc⟩ := HX.out.at_ hlt
            have hl1 := hl.out k hlt
            rw [ev] at hl1
            have c1 := (Be.out.cell (p := ⟨b, off + k, none⟩) hb).trans hc0
            have R1 := Lib.hid ((hr0.below Be.out (Nat.le_refl _)).more Be.out.size)
            have Ey := Lib.hid ey
            have Hy : Hid (y.length = l) := Lib.hid hy
            clear ev ey hc0 hr0 hy
            by_cases hla : (l : Int) = a
            · rcases hp : isP y with _ | _
              · have Fin : Hid (gB a xss = false) := Lib.hid (gB_row (by rw [hlx]; exact hlt) Ey.out (by rw [hp]; simp))
                go_wp2_with fail
                refine (implIsP A5 c5 l y wr R1.out Hy (by omega)).mono ?_
                rintro e w2 ⟨rfl, b2⟩
                have B2 : Hid (Below w.heap.size w w2) := Lib.hid (btr Be.out b2)
                clear b2
                rw [hp]
                go_wp2_with fail
                go_ret
                exact ⟨ret_bool Fin.out.symm, B2.out⟩
              · go_wp2_with fail
                refine (implIsP A5 c5 l y wr R1.out Hy (by omega)).mono ?_
                rintro e w2 ⟨rfl, b2⟩
                have B2 : Hid (Below w.heap.size w w2) := Lib.hid (btr Be.out b2)
                clear b2
                have Hp : Hid (isP y = true) := Lib.hid hp
                rw [hp]
                clear hp
                go_wp2_with fail
                go_roundw
                case rel => exact ⟨k + 1, by omega, by go_num, fun j hj => by
                  by_cases e : j = k
                  · subst e; rw [Ey.out, Hy.out]; exact ⟨hla, Hp.out⟩
                  · exact Hz.out j (by omega), B2.out⟩
                case measure => simp [intOf]; omega
            · have Fin : Hid (gB a xss = false) := Lib.hid (gB_row (by rw [hlx]; exact hlt) Ey.out (by rw [Hy.out]; exact fun h => hla h.1))
              go_wp2_with fail
              go_ret
              exact ⟨ret_bool Fin.out.symm, Be.out⟩
          · have hkn : k = n := by omega
            subst hkn
            have Fin : Hid (gB a xss = true) := Lib.hid (gB_all ⟨by omega, by omega, by omega⟩ (fun j hj => Hz.out j (by rw [← hlx]; exact hj)))
            go_wp2
            go_ret
            exact ⟨ret_bool Fin.out.symm, Be.out⟩

set_option maxHeartbeats 1600000 in
/-- The model's IsGeneratorSet. -/
theorem specGS (a : Int) (A : Option Addr) (n c : Nat) (vs : List SV) (xss : List (List Int)) (w : World) (hx : RR w w.heap.size A n vs xss) (hn : n ≤ 1048576) (hl : Hid (∀ i, i < n → (vs.getD i sd0).2.1 ≤ 1048576)) (ha : -9223372036854775808 ≤ a ∧ a ≤ 9223372036854775807) :
    Calls Try.prog 26 #[.int .i64 a, .slice A n c] w fun e w' => e = .returned (.bool (gB a xss)) ∧ Below w.heap.size w w' := by
  have HX := Lib.hid hx
  have hlx := hx.lx
  clear hx
  by_cases h0 : 1 ≤ a ∧ a ≤ 20
  · by_cases h2 : 8 < n
    · have d3 : decide ((8 : Int) < n) = true := by simp; omega
      have Fin := Lib.hid (gB_no (n := a) (gs := xss) (by omega))
      go_enter Try.func26, Try.ntmps26
      go_wp2_with (go_at_call 65; refine (inR_true _ _ _ _ (by omega) (by omega)).mono ?_; rintro e w' ⟨rfl, rfl⟩)
      go_ret
      exact ⟨ret_bool Fin.out.symm, Below.refl _ _⟩
    · have d3 : decide ((8 : Int) < n) = false := by simp; omega
      go_enter Try.func26, Try.ntmps26
      go_wp2_with (go_at_call 65; refine (inR_true _ _ _ _ (by omega) (by omega)).mono ?_; rintro e w' ⟨rfl, rfl⟩)
      go_loopw [5] (fun i wr => ∃ k : Nat, k ≤ n ∧ i = .int .i64 (k : Nat) ∧ (∀ j, j < k → ((xss.getD j []).length : Int) = a ∧ isP (xss.getD j []) = true) ∧ Below w.heap.size w wr) (fun i _ => n - (intOf i).toNat)
      case atStart => exact ⟨0, Nat.zero_le _, rfl, fun j h => absurd h (by omega), Below.refl _ _⟩
      case round =>
        obtain ⟨k, hk, rfl, hz, bel⟩ := hrel
        have Hz := Lib.hid hz
        have Be := Lib.hid bel
        clear hz bel
        by_cases hlt : k < n
        · obtain ⟨b, off, A5, l, c5, y, rfl, hb, ev, ey, hc0, hr0, hy, hlc⟩ := HX.out.at_ hlt
          have hl1 := hl.out k hlt
          rw [ev] at hl1
          have c1 := (Be.out.cell (p := ⟨b, off + k, none⟩) hb).trans hc0
          have R1 := Lib.hid ((hr0.below Be.out (Nat.le_refl _)).more Be.out.size)
          have Ey := Lib.hid ey
          have Hy : Hid (y.length = l) := Lib.hid hy
          clear ev ey hc0 hr0 hy
          by_cases hla : (l : Int) = a
          · rcases hp : isP y with _ | _
            · have Fin : Hid (gB a xss = false) := Lib.hid (gB_row (by rw [hlx]; exact hlt) Ey.out (by rw [hp]; simp))
              go_wp2_with fail
              refine (quiet_below (specIsP A5 c5 l y wr R1.out Hy (by omega) hlc)).mono ?_
              rintro e w2 ⟨rfl, b2⟩
              have B2 : Hid (Below w.heap.size w w2) := Lib.hid (btr Be.out b2)
              clear b2
              rw [hp]
              go_wp2_with fail
              go_ret
              exact ⟨ret_bool Fin.out.symm, B2.out⟩
            · go_wp2_with fail
              refine (quiet_below (specIsP A5 c5 l y wr R1.out Hy (by omega) hlc)).mono ?_
              rintro e w2 ⟨rfl, b2⟩
              have B2 : Hid (Below w.heap.size w w2) := Lib.hid (btr Be.out b2)
              clear b2
              have Hp : Hid (isP y = true) := Lib.hid hp
              rw [hp]
              clear hp
              go_wp2_with fail
              go_roundw
              case rel => exact ⟨k + 1, by omega, by go_num, fun j hj => by
                by_cases e : j = k
                · subst e; rw [Ey.out, Hy.out]; exact ⟨hla, Hp.out⟩
                · exact Hz.out j (by omega), B2.out⟩
              case measure => simp [intOf]; omega
          · have Fin : Hid (gB a xss = false) := Lib.hid (gB_row (by rw [hlx]; exact hlt) Ey.out (by rw [Hy.out]; exact fun h => hla h.1))
            go_wp2_with fail
            go_ret
            exact ⟨ret_bool Fin.out.symm, Be.out⟩
        · have hkn : k = n := by omega
          subst hkn
          have Fin : Hid (gB a xss = true) := Lib.hid (gB_all ⟨by omega, by omega, by omega⟩ (fun j hj => Hz.out j (by rw [← hlx]; exact hj)))
          go_wp2
          go_ret
          exact ⟨ret_bool Fin.out.symm, Be.out⟩
  · have Fin := Lib.hid (gB_no (n := a) (gs := xss) (by omega))
    go_enter Try.func26, Try.ntmps26
    go_wp2_with (go_at_call 65; refine (inR_false _ _ _ _ (by omega)).mono ?_; rintro e w' ⟨rfl, rfl⟩)
    go_ret
    exact ⟨ret_bool Fin.out.symm, Below.refl _ _⟩
theorem implIsGeneratorSet (a : Int) (A : Option Addr) (n c : Nat) (vs : List SV) (xss : List (List Int)) (w : World) (hx : RR w w.heap.size A n vs xss) (hn : n ≤ 1048576) (hl : Hid (∀ i, i < n → (vs.getD i sd0).2.1 ≤ 1048576)) :
    Calls Try.prog 47 #[.int .i64 a, .slice A n c] w fun e w' => e = .returned (.bool (gB a xss)) ∧ Below w.heap.size w w' := implGS a A n c vs xss w hx hn hl
theorem specIsGeneratorSet (a : Int) (A : Option Addr) (n c : Nat) (vs : List SV) (xss : List (List Int)) (w : World) (hx : RR w w.heap.size A n vs xss) (hn : n ≤ 1048576) (hl : Hid (∀ i, i < n → (vs.getD i sd0).2.1 ≤ 1048576)) (ha : -9223372036854775808 ≤ a ∧ a ≤ 9223372036854775807) :
    Calls Try.prog 26 #[.int .i64 a, .slice A n c] w fun e w' => e = .returned (.bool (gB a xss)) ∧ Below w.heap.size w w' := specGS a A n c vs xss w hx hn hl ha
end Go.Proofs.Ytooafmifbplbhaa
